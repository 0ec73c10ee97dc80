/- The walk through the law: it returns true and writes nothing that was there. The function CycleTime answers as its model, for all arguments, and leaves the graph as it was. -/
import Derived.Test.YtlofnadpgnbmdaaRows
import Derived.Test.YtlofnadpgnbmdaaQa1
import Derived.Test.YtlofnadpgnbmdaaQa2
import Derived.Test.YtlofnadpgnbmdaaQa8
import Derived.Test.YtlofnadpgnbmdaaQa3
import Derived.Test.YtlofnadpgnbmdaaQa48
import Derived.Test.YtlofnadpgnbmdaaQa67
import Derived.WalkKit
import Derived.ProofKit
import Derived.OpenShut
import Derived.ShutString
import Derived.ChangeOld
import Derived.Below
import Derived.Lib.SmallJoins
import Derived.Lib.Hide
import Derived.WalkSmall
import Derived.Deep.Draws
import Derived.Deep.QuietTactic
import Derived.BigQuiet
import Derived.Deep.OwnRows
import Derived.Deep.RegionWith
import Derived.Deep.RegionHeld3
set_option linter.unusedSimpArgs false
set_option linter.unusedVariables false
set_option linter.unusedSectionVars false
namespace Go.Proofs.Ytlofnadpgnbmdaa.fnExactCycleTime
open Go.ChangeShapes Go.WideShapes Go.ChangeAt Go.RowKit
open Go.ChangeMaps (open_string shut_string)
set_option linter.unusedVariables false

theorem keepG {w0 w1 w2 : World} {G X : Nat} {p q r s : Value} (h : w1.cell? ⟨G, 0, none⟩ = some p ∧ w1.cell? ⟨G, 1, none⟩ = some q ∧ w1.cell? ⟨X, 0, none⟩ = some r ∧ w1.cell? ⟨X, 1, none⟩ = some s ∧ Below w0.heap.size w0 w1) (hb : Below w1.heap.size w1 w2) :
    w2.cell? ⟨G, 0, none⟩ = some p ∧ w2.cell? ⟨G, 1, none⟩ = some q ∧ w2.cell? ⟨X, 0, none⟩ = some r ∧ w2.cell? ⟨X, 1, none⟩ = some s ∧ Below w0.heap.size w0 w2 := by
  obtain ⟨h1, h2, h3, h4, h5⟩ := h
  exact ⟨(hb.cell (V.cell_lt h1)).trans h1, (hb.cell (V.cell_lt h2)).trans h2, (hb.cell (V.cell_lt h3)).trans h3, (hb.cell (V.cell_lt h4)).trans h4, h5.trans (hb.mono h5.size)⟩
theorem bt {a b c : World} (h1 : Below a.heap.size a b) (h2 : Below b.heap.size b c) : Below a.heap.size a c := h1.trans (h2.mono h1.size)
theorem gsame {w w' : World} {g : Nat} {x : Int} {a : Option Addr} {n cap : Nat} (h : V.GBox w g x a n cap) (e : w'.heap[g]? = w.heap[g]?) : V.GBox w' g x a n cap :=
  ⟨(World.cell?_of_block (a := ⟨g, 0, none⟩) e).trans h.1, (World.cell?_of_block (a := ⟨g, 1, none⟩) e).trans h.2⟩

set_option maxRecDepth 100000 in
set_option maxHeartbeats 4000000 in
theorem walk (x0 : Int) (a0 : Option Addr) (len0 cap0 : Nat) (l0 : List M.Pc) (w : World) (wx0 : (Lit.int .i64 x0).wf = true) (w0 : V.Pls w a0 len0 l0) :
    Calls Try.prog 9 #[.agg #[.int .i64 x0, .slice a0 len0 cap0]] w fun e w' => e = .returned (.bool true) ∧ Below w.heap.size w w' := by
  have HA := Lib.hid w0
  have hlm := w0.2.1
  clear w0
  by_cases hbig : 1048576 < len0
  · go_enter Try.func9, Try.ntmps9
    go_wp2_with fail
    refine (V.szGr_f x0 a0 len0 cap0 _ hbig hlm).mono ?_
    rintro e w1 ⟨rfl, hb1⟩
    have HB1 := Lib.hid ((V.b_alloc w (.cells #[.int .i64 x0, .slice a0 len0 cap0] 54)).trans (hb1.mono (by simp)))
    clear hb1
    go_wp2
    go_ret
    exact ⟨rfl, HB1.out⟩
  · have hn : len0 ≤ 1048576 := by omega
    obtain ⟨r, hr⟩ : ∃ r, r = (M.ctRes x0 l0) := ⟨_, rfl⟩
    have HR := Lib.hid hr
    clear hr
    have hGb := V.gBox_new w x0 a0 len0 cap0 54
    obtain ⟨w_0, hwb⟩ : ∃ z, z = w.alloc (.cells #[.int .i64 x0, .slice a0 len0 cap0] 54) := ⟨_, rfl⟩
    have HW : Hid (Below w.heap.size w w_0) := by show Below _ _ _; rw [hwb]; exact V.b_alloc w _
    rw [← hwb] at hGb
    have HGb := Lib.hid hGb
    have zb : w.heap.size < w_0.heap.size := V.cell_lt hGb.1
    have HP_0 := Lib.hid (Below.refl w_0.heap.size w_0)
    clear hGb hlm hbig
    go_enter Try.func9, Try.ntmps9
    go_wp2_with fail
    rw [← hwb]
    clear hwb
    refine (V.szGr_t x0 a0 len0 cap0 _ hn).mono ?_
    rintro e w_1 ⟨rfl, hb⟩
    have z1 : w_0.heap.size ≤ w_1.heap.size := hb.size
    have HP_1 := Lib.hid (HP_0.out.trans (hb.mono (by omega)))
    clear HP_0
    clear hb
    have hl0 : ¬ (1048576 - (len0 : Int) < 0) := by omega
    obtain ⟨g0, g1⟩ := HGb.out.below HP_1.out
    go_wp2_with fail
    clear g0 g1
    refine (V.toGraph x0 a0 len0 cap0 l0 _ (HA.out.below (bt HW.out HP_1.out)) hn).mono ?_
    rintro e w_2 ⟨bc, rfl, ho, hb⟩
    have z2 : w_1.heap.size ≤ w_2.heap.size := hb.size
    have HP_2 := Lib.hid (HP_1.out.trans (hb.mono (by omega)))
    clear HP_1
    have HOc := Lib.hid ho
    clear ho hb
    have Sc_2 : Hid (V.Same w_1.heap.size w_2.heap.size w_2 w_2) := V.Same.refl _ _ _
    go_wp2_with fail
    refine (V.sCycleTimeS x0 _ _ _ l0  _ ((HOc.out.keep Sc_2.out).pls)).mono ?_
    rintro e w_3 ⟨rfl, hb⟩
    rw [← HR.out]
    have z3 : w_2.heap.size ≤ w_3.heap.size := hb.size
    have HP_3 := Lib.hid (HP_2.out.trans (hb.mono (by omega)))
    have Sc_3 : Hid (V.Same w_1.heap.size w_2.heap.size w_2 w_3) := Sc_2.out.below hb (by omega)
    clear HP_2 Sc_2
    clear hb
    clear Sc_3 HOc
    obtain ⟨g0, g1⟩ := HGb.out.below HP_3.out
    have zg := V.cell_lt g0
    obtain ⟨w_4, hws⟩ : ∃ z, z = w_3.alloc (.cells #[.int .i64 r.1.1, .int .i64 r.1.2] 39) := ⟨_, rfl⟩
    have hb : Below w_3.heap.size w_3 w_4 := by rw [hws]; exact V.b_alloc w_3 _
    have HOs : Hid (V.RQ w_4 w_3.heap.size r.1) := by show V.RQ _ _ _; rw [hws]; exact V.RQ.new w_3 _ _
    have zrs : w_3.heap.size < w_4.heap.size := V.cell_lt HOs.out.1
    have z4 : w_3.heap.size ≤ w_4.heap.size := hb.size
    have HP_4 := Lib.hid (HP_3.out.trans (hb.mono (by omega)))
    clear HP_3
    clear hb
    have Ss_4 : Hid (V.Same w_3.heap.size w_4.heap.size w_4 w_4) := V.Same.refl _ _ _
    go_wp2_with fail
    clear g0 g1
    rw [← hws]
    clear hws zg
    refine (V.toGraph x0 a0 len0 cap0 l0 _ (HA.out.below (bt HW.out HP_4.out)) hn).mono ?_
    rintro e w_5 ⟨bx, rfl, ho, hb⟩
    have z5 : w_4.heap.size ≤ w_5.heap.size := hb.size
    have HP_5 := Lib.hid (HP_4.out.trans (hb.mono (by omega)))
    have Ss_5 : Hid (V.Same w_3.heap.size w_4.heap.size w_4 w_5) := Ss_4.out.below hb (by omega)
    clear HP_4 Ss_4
    have HOx := Lib.hid ho
    clear ho hb
    have Sx_5 : Hid (V.Same w_4.heap.size w_5.heap.size w_5 w_5) := V.Same.refl _ _ _
    have hXb := V.gBox_new w_5 x0 bx len0 len0 26
    obtain ⟨w_6, hwx⟩ : ∃ z, z = w_5.alloc (.cells #[.int .i64 x0, .slice bx len0 len0] 26) := ⟨_, rfl⟩
    have hb : Below w_5.heap.size w_5 w_6 := by rw [hwx]; exact V.b_alloc w_5 _
    rw [← hwx] at hXb
    have zx : w_5.heap.size < w_6.heap.size := V.cell_lt hXb.1
    have z6 : w_5.heap.size ≤ w_6.heap.size := hb.size
    have HP_6 := Lib.hid (HP_5.out.trans (hb.mono (by omega)))
    have Ss_6 : Hid (V.Same w_3.heap.size w_4.heap.size w_4 w_6) := Ss_5.out.below hb (by omega)
    have Sx_6 : Hid (V.Same w_4.heap.size w_5.heap.size w_5 w_6) := Sx_5.out.below hb (by omega)
    clear HP_5 Ss_5 Sx_5
    have HOX := Lib.hid hXb
    clear hXb hb
    have SX_6 : Hid (V.Same w_5.heap.size w_6.heap.size w_6 w_6) := V.Same.refl _ _ _
    obtain ⟨k0, k1⟩ := gsame HOX.out (SX_6.out w_5.heap.size (by omega) (by omega))
    go_wp2_with fail
    rw [← hwx]
    clear hwx
    refine (V.cycleTimeI x0 _ _ _ l0  _ ((HOx.out.keep Sx_6.out).pls)).mono ?_
    rintro e w_7 ⟨rfl, hb⟩
    rw [← HR.out]
    have z7 : w_6.heap.size ≤ w_7.heap.size := hb.size
    have HP_7 := Lib.hid (HP_6.out.trans (hb.mono (by omega)))
    have Ss_7 : Hid (V.Same w_3.heap.size w_4.heap.size w_4 w_7) := Ss_6.out.below hb (by omega)
    have Sx_7 : Hid (V.Same w_4.heap.size w_5.heap.size w_5 w_7) := Sx_6.out.below hb (by omega)
    have SX_7 : Hid (V.Same w_5.heap.size w_6.heap.size w_6 w_7) := SX_6.out.below hb (by omega)
    clear HP_6 Ss_6 Sx_6 SX_6
    clear hb k0 k1
    obtain ⟨q0, q1⟩ := HOs.out.eq (Ss_7.out w_3.heap.size (by omega) (by omega))
    have zq := V.cell_lt q0
    obtain ⟨w_8, hwg⟩ : ∃ z, z = w_7.alloc (.cells #[.int .i64 r.1.1, .int .i64 r.1.2] 39) := ⟨_, rfl⟩
    have hb : Below w_7.heap.size w_7 w_8 := by rw [hwg]; exact V.b_alloc w_7 _
    have HOg : Hid (V.RQ w_8 w_7.heap.size r.1) := by show V.RQ _ _ _; rw [hwg]; exact V.RQ.new w_7 _ _
    have zrg : w_7.heap.size < w_8.heap.size := V.cell_lt HOg.out.1
    have z8 : w_7.heap.size ≤ w_8.heap.size := hb.size
    have HP_8 := Lib.hid (HP_7.out.trans (hb.mono (by omega)))
    have Ss_8 : Hid (V.Same w_3.heap.size w_4.heap.size w_4 w_8) := Ss_7.out.below hb (by omega)
    have Sx_8 : Hid (V.Same w_4.heap.size w_5.heap.size w_5 w_8) := Sx_7.out.below hb (by omega)
    have SX_8 : Hid (V.Same w_5.heap.size w_6.heap.size w_6 w_8) := SX_7.out.below hb (by omega)
    clear HP_7 Ss_7 Sx_7 SX_7
    clear hb
    have Sg_8 : Hid (V.Same w_7.heap.size w_8.heap.size w_8 w_8) := V.Same.refl _ _ _
    go_wp2_with fail
    refine (V.eqRatio _ _ _).mono ?_
    rintro e w_9 ⟨rfl, hb⟩
    try rw [← hwg] at hb
    clear hwg q0 q1 zq
    have z9 : w_8.heap.size ≤ w_9.heap.size := hb.size
    have HP_9 := Lib.hid (HP_8.out.trans (hb.mono (by omega)))
    have Ss_9 : Hid (V.Same w_3.heap.size w_4.heap.size w_4 w_9) := Ss_8.out.below hb (by omega)
    have Sx_9 : Hid (V.Same w_4.heap.size w_5.heap.size w_5 w_9) := Sx_8.out.below hb (by omega)
    have SX_9 : Hid (V.Same w_5.heap.size w_6.heap.size w_6 w_9) := SX_8.out.below hb (by omega)
    have Sg_9 : Hid (V.Same w_7.heap.size w_8.heap.size w_8 w_9) := Sg_8.out.below hb (by omega)
    clear HP_8 Ss_8 Sx_8 SX_8 Sg_8
    clear hb
    clear Ss_9 HOs Sg_9 HOg
    obtain ⟨g0, g1⟩ := HGb.out.below HP_9.out
    obtain ⟨k0, k1⟩ := gsame HOX.out (SX_9.out w_5.heap.size (by omega) (by omega))
    clear HR
    obtain ⟨⟨r0, r1⟩, r2⟩ := r
    go_wp2
    go_region_held3 (fun w' => w'.cell? ⟨w.heap.size, 0, none⟩ = some (.int .i64 x0) ∧ w'.cell? ⟨w.heap.size, 1, none⟩ = some (.slice a0 len0 cap0) ∧ w'.cell? ⟨w_5.heap.size, 0, none⟩ = some (.int .i64 x0) ∧ w'.cell? ⟨w_5.heap.size, 1, none⟩ = some (.slice bx len0 len0) ∧ Below w_9.heap.size w_9 w')
      (first | exact ⟨g0, g1, k0, k1, (Below.refl _ _).drew⟩ | exact keepG ‹_ ∧ _ ∧ _ ∧ _ ∧ Below _ _ _› hb)
      (first
        | (go_at_call 34; refine (V.toGraph x0 a0 len0 cap0 l0 _ ?hp hn).mono ?_; (case hp => exact HA.out.below (bt (bt HW.out HP_9.out) (‹_ ∧ _ ∧ _ ∧ _ ∧ Below _ _ _›).2.2.2.2)); rintro e wy ⟨b7, rfl, ho7, hb⟩; have HD := Lib.hid ho7.pls; have HBw := Lib.hid (bt (‹_ ∧ _ ∧ _ ∧ _ ∧ Below _ _ _›).2.2.2.2 hb); clear ho7)
        | (go_at_call 35; refine (V.eqGraph x0 _ _ _ _ _ _ l0 _ ?h1 ?h2).mono ?_; (case h1 => exact ((HOx.out.keep Sx_9.out).pls).below HBw.out); (case h2 => exact HD.out); rintro e w_10 ⟨rfl, hb⟩; have HBz := Lib.hid (bt HBw.out hb)))
    all_goals
      have z10 : w_9.heap.size ≤ w_10.heap.size := HBz.out.size
      have HP_10 := Lib.hid (HP_9.out.trans (HBz.out.mono (by omega)))
      have Sx_10 : Hid (V.Same w_4.heap.size w_5.heap.size w_5 w_10) := Sx_9.out.below HBz.out (by omega)
      have SX_10 : Hid (V.Same w_5.heap.size w_6.heap.size w_6 w_10) := SX_9.out.below HBz.out (by omega)
      clear HP_9 Sx_9 SX_9
      go_wp2
      go_ret
      exact ⟨rfl, bt HW.out HP_10.out⟩
end Go.Proofs.Ytlofnadpgnbmdaa.fnExactCycleTime
