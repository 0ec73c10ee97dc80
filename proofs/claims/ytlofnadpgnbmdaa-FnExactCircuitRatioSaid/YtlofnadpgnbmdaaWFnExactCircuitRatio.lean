/- The walk through the law: it returns true and writes nothing that was there. The function CircuitRatio answers as its model, for all arguments, and leaves the graph and the list as they were. -/
import Derived.Test.YtlofnadpgnbmdaaRows
import Derived.Test.YtlofnadpgnbmdaaQa1
import Derived.Test.YtlofnadpgnbmdaaQa2
import Derived.Test.YtlofnadpgnbmdaaQa8
import Derived.Test.YtlofnadpgnbmdaaQa3
import Derived.Test.YtlofnadpgnbmdaaQa48
import Derived.Test.YtlofnadpgnbmdaaQa47
import Derived.WalkKit
import Derived.ProofKit
import Derived.OpenShut
import Derived.ShutString
import Derived.ChangeOld
import Derived.Below
import Derived.Lib.SmallJoins
import Derived.Lib.Hide
import Derived.WalkSmall
import Derived.Deep.Draws
import Derived.Deep.QuietTactic
import Derived.BigQuiet
import Derived.Deep.OwnRows
import Derived.Deep.RegionWith
import Derived.Deep.RegionHeld3
set_option linter.unusedSimpArgs false
set_option linter.unusedVariables false
set_option linter.unusedSectionVars false
namespace Go.Proofs.Ytlofnadpgnbmdaa.fnExactCircuitRatio
open Go.ChangeShapes Go.WideShapes Go.ChangeAt Go.RowKit
open Go.ChangeMaps (open_string shut_string)
set_option linter.unusedVariables false

theorem keepG {w0 w1 w2 : World} {G X : Nat} {p q r s : Value} (h : w1.cell? ⟨G, 0, none⟩ = some p ∧ w1.cell? ⟨G, 1, none⟩ = some q ∧ w1.cell? ⟨X, 0, none⟩ = some r ∧ w1.cell? ⟨X, 1, none⟩ = some s ∧ Below w0.heap.size w0 w1) (hb : Below w1.heap.size w1 w2) :
    w2.cell? ⟨G, 0, none⟩ = some p ∧ w2.cell? ⟨G, 1, none⟩ = some q ∧ w2.cell? ⟨X, 0, none⟩ = some r ∧ w2.cell? ⟨X, 1, none⟩ = some s ∧ Below w0.heap.size w0 w2 := by
  obtain ⟨h1, h2, h3, h4, h5⟩ := h
  exact ⟨(hb.cell (V.cell_lt h1)).trans h1, (hb.cell (V.cell_lt h2)).trans h2, (hb.cell (V.cell_lt h3)).trans h3, (hb.cell (V.cell_lt h4)).trans h4, h5.trans (hb.mono h5.size)⟩
theorem bt {a b c : World} (h1 : Below a.heap.size a b) (h2 : Below b.heap.size b c) : Below a.heap.size a c := h1.trans (h2.mono h1.size)
theorem gsame {w w' : World} {g : Nat} {x : Int} {a : Option Addr} {n cap : Nat} (h : V.GBox w g x a n cap) (e : w'.heap[g]? = w.heap[g]?) : V.GBox w' g x a n cap :=
  ⟨(World.cell?_of_block (a := ⟨g, 0, none⟩) e).trans h.1, (World.cell?_of_block (a := ⟨g, 1, none⟩) e).trans h.2⟩

set_option maxRecDepth 100000 in
set_option maxHeartbeats 4000000 in
theorem walk (x0 : Int) (a0 : Option Addr) (len0 cap0 : Nat) (l0 : List M.Pc) (a1 : Option Addr) (len1 cap1 : Nat) (z1 : List Int) (w : World) (wx0 : (Lit.int .i64 x0).wf = true) (w0 : V.Pls w a0 len0 l0) (w1 : V.IsRow .i64 w a1 len1 cap1 z1) :
    Calls Try.prog 8 #[.agg #[.int .i64 x0, .slice a0 len0 cap0], .slice a1 len1 cap1] w fun e w' => e = .returned (.bool true) ∧ Below w.heap.size w w' := by
  have hI1 := w1.ints
  generalize z1.take len1 = l1 at hI1
  have HV := Lib.hid hI1
  clear hI1 w1
  by_cases hbig1 : 1048576 < len1
  · have hgt : (len1 : Int) > 1048576 := by omega
    go_enter Try.func8, Try.ntmps8
    go_wp2
    go_ret
    exact ⟨rfl, V.b_alloc _ _⟩
  · have hn1 : len1 ≤ 1048576 := by omega
    have hgt : ¬ (len1 : Int) > 1048576 := by omega
    have hgt2 : (len1 : Int) ≤ 1048576 := by omega
    have HA := Lib.hid w0
    have hlm := w0.2.1
    clear w0
    by_cases hbig : 1048576 < len0
    · go_enter Try.func8, Try.ntmps8
      go_wp2_with fail
      refine (V.szGr_f x0 a0 len0 cap0 _ hbig hlm).mono ?_
      rintro e w1 ⟨rfl, hb1⟩
      have HB1 := Lib.hid ((V.b_alloc w (.cells #[.int .i64 x0, .slice a0 len0 cap0] 54)).trans (hb1.mono (by simp)))
      clear hb1
      go_wp2
      go_ret
      exact ⟨rfl, HB1.out⟩
    · have hn : len0 ≤ 1048576 := by omega
      obtain ⟨r, hr⟩ : ∃ r, r = (M.cratRes x0 l0 l1) := ⟨_, rfl⟩
      have HR := Lib.hid hr
      clear hr
      have hGb := V.gBox_new w x0 a0 len0 cap0 54
      obtain ⟨w_0, hwb⟩ : ∃ z, z = w.alloc (.cells #[.int .i64 x0, .slice a0 len0 cap0] 54) := ⟨_, rfl⟩
      have HW : Hid (Below w.heap.size w w_0) := by show Below _ _ _; rw [hwb]; exact V.b_alloc w _
      rw [← hwb] at hGb
      have HGb := Lib.hid hGb
      have zb : w.heap.size < w_0.heap.size := V.cell_lt hGb.1
      have HP_0 := Lib.hid (Below.refl w_0.heap.size w_0)
      clear hGb hlm hbig
      go_enter Try.func8, Try.ntmps8
      go_wp2_with fail
      rw [← hwb]
      clear hwb
      refine (V.szGr_t x0 a0 len0 cap0 _ hn).mono ?_
      rintro e w_1 ⟨rfl, hb⟩
      have z1 : w_0.heap.size ≤ w_1.heap.size := hb.size
      have HP_1 := Lib.hid (HP_0.out.trans (hb.mono (by omega)))
      clear HP_0
      clear hb
      have hl0 : ¬ (1048576 - (len0 : Int) < 0) := by omega
      obtain ⟨g0, g1⟩ := HGb.out.below HP_1.out
      go_wp2_with fail
      clear g0 g1
      refine (V.toGraph x0 a0 len0 cap0 l0 _ (HA.out.below (bt HW.out HP_1.out)) hn).mono ?_
      rintro e w_2 ⟨bc, rfl, ho, hb⟩
      have z2 : w_1.heap.size ≤ w_2.heap.size := hb.size
      have HP_2 := Lib.hid (HP_1.out.trans (hb.mono (by omega)))
      clear HP_1
      have HOc := Lib.hid ho
      clear ho hb
      have Sc_2 : Hid (V.Same w_1.heap.size w_2.heap.size w_2 w_2) := V.Same.refl _ _ _
      go_wp2_with fail
      refine (V.copyInts _ _ _ l1 _ (HV.out.below (bt HW.out HP_2.out)) hn1).mono ?_
      rintro e w_3 ⟨rfl, ho, hb⟩
      have z3 : w_2.heap.size ≤ w_3.heap.size := hb.size
      have HP_3 := Lib.hid (HP_2.out.trans (hb.mono (by omega)))
      have Sc_3 : Hid (V.Same w_1.heap.size w_2.heap.size w_2 w_3) := Sc_2.out.below hb (by omega)
      clear HP_2 Sc_2
      have HOe := Lib.hid ho
      clear ho hb
      have Se_3 : Hid (V.Same w_2.heap.size w_3.heap.size w_3 w_3) := V.Same.refl _ _ _
      go_wp2_with fail
      refine (V.sCircuitRatio x0 _ _ _ l0 _ _ _ l1 _ ((HOc.out.keep Sc_3.out).pls) ((HOe.out.keep Se_3.out).ints') hn1).mono ?_
      rintro e w_4 ⟨rfl, hb⟩
      rw [← HR.out]
      have z4 : w_3.heap.size ≤ w_4.heap.size := hb.size
      have HP_4 := Lib.hid (HP_3.out.trans (hb.mono (by omega)))
      have Sc_4 : Hid (V.Same w_1.heap.size w_2.heap.size w_2 w_4) := Sc_3.out.below hb (by omega)
      have Se_4 : Hid (V.Same w_2.heap.size w_3.heap.size w_3 w_4) := Se_3.out.below hb (by omega)
      clear HP_3 Sc_3 Se_3
      clear hb
      clear Sc_4 HOc Se_4 HOe
      obtain ⟨g0, g1⟩ := HGb.out.below HP_4.out
      have zg := V.cell_lt g0
      obtain ⟨w_5, hws⟩ : ∃ z, z = w_4.alloc (.cells #[.int .i64 r.1.1, .int .i64 r.1.2] 39) := ⟨_, rfl⟩
      have hb : Below w_4.heap.size w_4 w_5 := by rw [hws]; exact V.b_alloc w_4 _
      have HOs : Hid (V.RQ w_5 w_4.heap.size r.1) := by show V.RQ _ _ _; rw [hws]; exact V.RQ.new w_4 _ _
      have zrs : w_4.heap.size < w_5.heap.size := V.cell_lt HOs.out.1
      have z5 : w_4.heap.size ≤ w_5.heap.size := hb.size
      have HP_5 := Lib.hid (HP_4.out.trans (hb.mono (by omega)))
      clear HP_4
      clear hb
      have Ss_5 : Hid (V.Same w_4.heap.size w_5.heap.size w_5 w_5) := V.Same.refl _ _ _
      go_wp2_with fail
      clear g0 g1
      rw [← hws]
      clear hws zg
      refine (V.toGraph x0 a0 len0 cap0 l0 _ (HA.out.below (bt HW.out HP_5.out)) hn).mono ?_
      rintro e w_6 ⟨bx, rfl, ho, hb⟩
      have z6 : w_5.heap.size ≤ w_6.heap.size := hb.size
      have HP_6 := Lib.hid (HP_5.out.trans (hb.mono (by omega)))
      have Ss_6 : Hid (V.Same w_4.heap.size w_5.heap.size w_5 w_6) := Ss_5.out.below hb (by omega)
      clear HP_5 Ss_5
      have HOx := Lib.hid ho
      clear ho hb
      have Sx_6 : Hid (V.Same w_5.heap.size w_6.heap.size w_6 w_6) := V.Same.refl _ _ _
      have hXb := V.gBox_new w_6 x0 bx len0 len0 26
      obtain ⟨w_7, hwx⟩ : ∃ z, z = w_6.alloc (.cells #[.int .i64 x0, .slice bx len0 len0] 26) := ⟨_, rfl⟩
      have hb : Below w_6.heap.size w_6 w_7 := by rw [hwx]; exact V.b_alloc w_6 _
      rw [← hwx] at hXb
      have zx : w_6.heap.size < w_7.heap.size := V.cell_lt hXb.1
      have z7 : w_6.heap.size ≤ w_7.heap.size := hb.size
      have HP_7 := Lib.hid (HP_6.out.trans (hb.mono (by omega)))
      have Ss_7 : Hid (V.Same w_4.heap.size w_5.heap.size w_5 w_7) := Ss_6.out.below hb (by omega)
      have Sx_7 : Hid (V.Same w_5.heap.size w_6.heap.size w_6 w_7) := Sx_6.out.below hb (by omega)
      clear HP_6 Ss_6 Sx_6
      have HOX := Lib.hid hXb
      clear hXb hb
      have SX_7 : Hid (V.Same w_6.heap.size w_7.heap.size w_7 w_7) := V.Same.refl _ _ _
      go_wp2_with fail
      rw [← hwx]
      clear hwx
      refine (V.copyInts _ _ _ l1 _ (HV.out.below (bt HW.out HP_7.out)) hn1).mono ?_
      rintro e w_8 ⟨rfl, ho, hb⟩
      have z8 : w_7.heap.size ≤ w_8.heap.size := hb.size
      have HP_8 := Lib.hid (HP_7.out.trans (hb.mono (by omega)))
      have Ss_8 : Hid (V.Same w_4.heap.size w_5.heap.size w_5 w_8) := Ss_7.out.below hb (by omega)
      have Sx_8 : Hid (V.Same w_5.heap.size w_6.heap.size w_6 w_8) := Sx_7.out.below hb (by omega)
      have SX_8 : Hid (V.Same w_6.heap.size w_7.heap.size w_7 w_8) := SX_7.out.below hb (by omega)
      clear HP_7 Ss_7 Sx_7 SX_7
      have HOv := Lib.hid ho
      clear ho hb
      have Sv_8 : Hid (V.Same w_7.heap.size w_8.heap.size w_8 w_8) := V.Same.refl _ _ _
      obtain ⟨k0, k1⟩ := gsame HOX.out (SX_8.out w_6.heap.size (by omega) (by omega))
      go_wp2_with fail
      refine (V.circuitRatio x0 _ _ _ l0 _ _ _ l1 _ ((HOx.out.keep Sx_8.out).pls) ((HOv.out.keep Sv_8.out).ints') hn1).mono ?_
      rintro e w_9 ⟨rfl, hb⟩
      rw [← HR.out]
      have z9 : w_8.heap.size ≤ w_9.heap.size := hb.size
      have HP_9 := Lib.hid (HP_8.out.trans (hb.mono (by omega)))
      have Ss_9 : Hid (V.Same w_4.heap.size w_5.heap.size w_5 w_9) := Ss_8.out.below hb (by omega)
      have Sx_9 : Hid (V.Same w_5.heap.size w_6.heap.size w_6 w_9) := Sx_8.out.below hb (by omega)
      have SX_9 : Hid (V.Same w_6.heap.size w_7.heap.size w_7 w_9) := SX_8.out.below hb (by omega)
      have Sv_9 : Hid (V.Same w_7.heap.size w_8.heap.size w_8 w_9) := Sv_8.out.below hb (by omega)
      clear HP_8 Ss_8 Sx_8 SX_8 Sv_8
      clear hb
      clear k0 k1
      obtain ⟨q0, q1⟩ := HOs.out.eq (Ss_9.out w_4.heap.size (by omega) (by omega))
      have zq := V.cell_lt q0
      obtain ⟨w_10, hwg⟩ : ∃ z, z = w_9.alloc (.cells #[.int .i64 r.1.1, .int .i64 r.1.2] 39) := ⟨_, rfl⟩
      have hb : Below w_9.heap.size w_9 w_10 := by rw [hwg]; exact V.b_alloc w_9 _
      have HOg : Hid (V.RQ w_10 w_9.heap.size r.1) := by show V.RQ _ _ _; rw [hwg]; exact V.RQ.new w_9 _ _
      have zrg : w_9.heap.size < w_10.heap.size := V.cell_lt HOg.out.1
      have z10 : w_9.heap.size ≤ w_10.heap.size := hb.size
      have HP_10 := Lib.hid (HP_9.out.trans (hb.mono (by omega)))
      have Ss_10 : Hid (V.Same w_4.heap.size w_5.heap.size w_5 w_10) := Ss_9.out.below hb (by omega)
      have Sx_10 : Hid (V.Same w_5.heap.size w_6.heap.size w_6 w_10) := Sx_9.out.below hb (by omega)
      have SX_10 : Hid (V.Same w_6.heap.size w_7.heap.size w_7 w_10) := SX_9.out.below hb (by omega)
      have Sv_10 : Hid (V.Same w_7.heap.size w_8.heap.size w_8 w_10) := Sv_9.out.below hb (by omega)
      clear HP_9 Ss_9 Sx_9 SX_9 Sv_9
      clear hb
      have Sg_10 : Hid (V.Same w_9.heap.size w_10.heap.size w_10 w_10) := V.Same.refl _ _ _
      go_wp2_with fail
      refine (V.eqRatio _ _ _).mono ?_
      rintro e w_11 ⟨rfl, hb⟩
      try rw [← hwg] at hb
      clear hwg q0 q1 zq
      have z11 : w_10.heap.size ≤ w_11.heap.size := hb.size
      have HP_11 := Lib.hid (HP_10.out.trans (hb.mono (by omega)))
      have Ss_11 : Hid (V.Same w_4.heap.size w_5.heap.size w_5 w_11) := Ss_10.out.below hb (by omega)
      have Sx_11 : Hid (V.Same w_5.heap.size w_6.heap.size w_6 w_11) := Sx_10.out.below hb (by omega)
      have SX_11 : Hid (V.Same w_6.heap.size w_7.heap.size w_7 w_11) := SX_10.out.below hb (by omega)
      have Sv_11 : Hid (V.Same w_7.heap.size w_8.heap.size w_8 w_11) := Sv_10.out.below hb (by omega)
      have Sg_11 : Hid (V.Same w_9.heap.size w_10.heap.size w_10 w_11) := Sg_10.out.below hb (by omega)
      clear HP_10 Ss_10 Sx_10 SX_10 Sv_10 Sg_10
      clear hb
      clear Ss_11 HOs Sg_11 HOg
      obtain ⟨g0, g1⟩ := HGb.out.below HP_11.out
      obtain ⟨k0, k1⟩ := gsame HOX.out (SX_11.out w_6.heap.size (by omega) (by omega))
      clear HR
      obtain ⟨⟨r0, r1⟩, r2⟩ := r
      go_wp2
      go_region_held3 (fun w' => w'.cell? ⟨w.heap.size, 0, none⟩ = some (.int .i64 x0) ∧ w'.cell? ⟨w.heap.size, 1, none⟩ = some (.slice a0 len0 cap0) ∧ w'.cell? ⟨w_6.heap.size, 0, none⟩ = some (.int .i64 x0) ∧ w'.cell? ⟨w_6.heap.size, 1, none⟩ = some (.slice bx len0 len0) ∧ Below w_11.heap.size w_11 w')
        (first | exact ⟨g0, g1, k0, k1, (Below.refl _ _).drew⟩ | exact keepG ‹_ ∧ _ ∧ _ ∧ _ ∧ Below _ _ _› hb)
        (first
          | (go_at_call 34; refine (V.toGraph x0 a0 len0 cap0 l0 _ ?hp hn).mono ?_; (case hp => exact HA.out.below (bt (bt HW.out HP_11.out) (‹_ ∧ _ ∧ _ ∧ _ ∧ Below _ _ _›).2.2.2.2)); rintro e wy ⟨b7, rfl, ho7, hb⟩; have HD := Lib.hid ho7.pls; have HBw := Lib.hid (bt (‹_ ∧ _ ∧ _ ∧ _ ∧ Below _ _ _›).2.2.2.2 hb); clear ho7)
          | (go_at_call 35; refine (V.eqGraph x0 _ _ _ _ _ _ l0 _ ?h1 ?h2).mono ?_; (case h1 => exact ((HOx.out.keep Sx_11.out).pls).below HBw.out); (case h2 => exact HD.out); rintro e w_12 ⟨rfl, hb⟩; have HBz := Lib.hid (bt HBw.out hb)))
      all_goals
        have z12 : w_11.heap.size ≤ w_12.heap.size := HBz.out.size
        have HP_12 := Lib.hid (HP_11.out.trans (HBz.out.mono (by omega)))
        have Sx_12 : Hid (V.Same w_5.heap.size w_6.heap.size w_6 w_12) := Sx_11.out.below HBz.out (by omega)
        have SX_12 : Hid (V.Same w_6.heap.size w_7.heap.size w_7 w_12) := SX_11.out.below HBz.out (by omega)
        have Sv_12 : Hid (V.Same w_7.heap.size w_8.heap.size w_8 w_12) := Sv_11.out.below HBz.out (by omega)
        clear HP_11 Sx_11 SX_11 Sv_11
        clear g0 g1 k0 k1
        go_wp2_with fail
        refine (V.copyInts _ _ _ l1 _ (HV.out.below (bt HW.out HP_12.out)) hn1).mono ?_
        rintro e w_13 ⟨rfl, ho, hb⟩
        have z13 : w_12.heap.size ≤ w_13.heap.size := hb.size
        have HP_13 := Lib.hid (HP_12.out.trans (hb.mono (by omega)))
        have Sx_13 : Hid (V.Same w_5.heap.size w_6.heap.size w_6 w_13) := Sx_12.out.below hb (by omega)
        have SX_13 : Hid (V.Same w_6.heap.size w_7.heap.size w_7 w_13) := SX_12.out.below hb (by omega)
        have Sv_13 : Hid (V.Same w_7.heap.size w_8.heap.size w_8 w_13) := Sv_12.out.below hb (by omega)
        clear HP_12 Sx_12 SX_12 Sv_12
        have HOf := Lib.hid ho
        clear ho hb
        have Sf_13 : Hid (V.Same w_12.heap.size w_13.heap.size w_13 w_13) := V.Same.refl _ _ _
        go_wp2_with fail
        refine (V.eqV _ _ _ _ _ _ _ _ ((HOv.out.keep Sv_13.out).ints') ((HOf.out.keep Sf_13.out).ints')).mono ?_
        rintro e w_14 ⟨rfl, hb⟩
        have z14 : w_13.heap.size ≤ w_14.heap.size := hb.size
        have HP_14 := Lib.hid (HP_13.out.trans (hb.mono (by omega)))
        have Sx_14 : Hid (V.Same w_5.heap.size w_6.heap.size w_6 w_14) := Sx_13.out.below hb (by omega)
        have SX_14 : Hid (V.Same w_6.heap.size w_7.heap.size w_7 w_14) := SX_13.out.below hb (by omega)
        have Sv_14 : Hid (V.Same w_7.heap.size w_8.heap.size w_8 w_14) := Sv_13.out.below hb (by omega)
        have Sf_14 : Hid (V.Same w_12.heap.size w_13.heap.size w_13 w_14) := Sf_13.out.below hb (by omega)
        clear HP_13 Sx_13 SX_13 Sv_13 Sf_13
        clear hb
        go_wp2
        go_ret
        exact ⟨rfl, bt HW.out HP_14.out⟩
end Go.Proofs.Ytlofnadpgnbmdaa.fnExactCircuitRatio
