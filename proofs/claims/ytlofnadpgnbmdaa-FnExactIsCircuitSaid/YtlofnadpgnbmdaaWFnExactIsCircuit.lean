/- The walk through the law: it returns true and writes nothing that was there. The function IsCircuit answers as its model, for all arguments, and leaves the graph and the list as they were. -/
import Derived.Test.YtlofnadpgnbmdaaRows
import Derived.Test.YtlofnadpgnbmdaaQa1
import Derived.Test.YtlofnadpgnbmdaaQa2
import Derived.Test.YtlofnadpgnbmdaaQa8
import Derived.Test.YtlofnadpgnbmdaaQa3
import Derived.Test.YtlofnadpgnbmdaaQa46
import Derived.WalkKit
import Derived.ProofKit
import Derived.OpenShut
import Derived.ShutString
import Derived.ChangeOld
import Derived.Below
import Derived.Lib.SmallJoins
import Derived.Lib.Hide
import Derived.WalkSmall
import Derived.Deep.Draws
import Derived.Deep.QuietTactic
import Derived.BigQuiet
import Derived.Deep.OwnRows
import Derived.Deep.RegionWith
import Derived.Deep.RegionHeld3
set_option linter.unusedSimpArgs false
set_option linter.unusedVariables false
set_option linter.unusedSectionVars false
namespace Go.Proofs.Ytlofnadpgnbmdaa.fnExactIsCircuit
open Go.ChangeShapes Go.WideShapes Go.ChangeAt Go.RowKit
open Go.ChangeMaps (open_string shut_string)
set_option linter.unusedVariables false

theorem keepG {w0 w1 w2 : World} {G X : Nat} {p q r s : Value} (h : w1.cell? ⟨G, 0, none⟩ = some p ∧ w1.cell? ⟨G, 1, none⟩ = some q ∧ w1.cell? ⟨X, 0, none⟩ = some r ∧ w1.cell? ⟨X, 1, none⟩ = some s ∧ Below w0.heap.size w0 w1) (hb : Below w1.heap.size w1 w2) :
    w2.cell? ⟨G, 0, none⟩ = some p ∧ w2.cell? ⟨G, 1, none⟩ = some q ∧ w2.cell? ⟨X, 0, none⟩ = some r ∧ w2.cell? ⟨X, 1, none⟩ = some s ∧ Below w0.heap.size w0 w2 := by
  obtain ⟨h1, h2, h3, h4, h5⟩ := h
  exact ⟨(hb.cell (V.cell_lt h1)).trans h1, (hb.cell (V.cell_lt h2)).trans h2, (hb.cell (V.cell_lt h3)).trans h3, (hb.cell (V.cell_lt h4)).trans h4, h5.trans (hb.mono h5.size)⟩
theorem bt {a b c : World} (h1 : Below a.heap.size a b) (h2 : Below b.heap.size b c) : Below a.heap.size a c := h1.trans (h2.mono h1.size)
theorem gsame {w w' : World} {g : Nat} {x : Int} {a : Option Addr} {n cap : Nat} (h : V.GBox w g x a n cap) (e : w'.heap[g]? = w.heap[g]?) : V.GBox w' g x a n cap :=
  ⟨(World.cell?_of_block (a := ⟨g, 0, none⟩) e).trans h.1, (World.cell?_of_block (a := ⟨g, 1, none⟩) e).trans h.2⟩

set_option maxRecDepth 100000 in
set_option maxHeartbeats 4000000 in
theorem walk (x0 : Int) (a0 : Option Addr) (len0 cap0 : Nat) (l0 : List M.Pc) (a1 : Option Addr) (len1 cap1 : Nat) (z1 : List Int) (w : World) (wx0 : (Lit.int .i64 x0).wf = true) (w0 : V.Pls w a0 len0 l0) (w1 : V.IsRow .i64 w a1 len1 cap1 z1) :
    Calls Try.prog 7 #[.agg #[.int .i64 x0, .slice a0 len0 cap0], .slice a1 len1 cap1] w fun e w' => e = .returned (.bool true) ∧ Below w.heap.size w w' := by
  have hI1 := w1.ints
  generalize z1.take len1 = l1 at hI1
  have HV := Lib.hid hI1
  clear hI1 w1
  by_cases hbig1 : 1048576 < len1
  · have hgt : (len1 : Int) > 1048576 := by omega
    go_enter Try.func7, Try.ntmps7
    go_wp2
    go_ret
    exact ⟨rfl, V.b_alloc _ _⟩
  · have hn1 : len1 ≤ 1048576 := by omega
    have hgt : ¬ (len1 : Int) > 1048576 := by omega
    have hgt2 : (len1 : Int) ≤ 1048576 := by omega
    have HA := Lib.hid w0
    have hlm := w0.2.1
    clear w0
    by_cases hbig : 1048576 < len0
    · go_enter Try.func7, Try.ntmps7
      go_wp2_with fail
      refine (V.szGr_f x0 a0 len0 cap0 _ hbig hlm).mono ?_
      rintro e w1 ⟨rfl, hb1⟩
      have HB1 := Lib.hid ((V.b_alloc w (.cells #[.int .i64 x0, .slice a0 len0 cap0] 54)).trans (hb1.mono (by simp)))
      clear hb1
      go_wp2
      go_ret
      exact ⟨rfl, HB1.out⟩
    · have hn : len0 ≤ 1048576 := by omega
      obtain ⟨r, hr⟩ : ∃ r, r = (M.isCirB x0 l0 l1) := ⟨_, rfl⟩
      have HR := Lib.hid hr
      clear hr
      have hGb := V.gBox_new w x0 a0 len0 cap0 54
      obtain ⟨w_0, hwb⟩ : ∃ z, z = w.alloc (.cells #[.int .i64 x0, .slice a0 len0 cap0] 54) := ⟨_, rfl⟩
      have HW : Hid (Below w.heap.size w w_0) := by show Below _ _ _; rw [hwb]; exact V.b_alloc w _
      rw [← hwb] at hGb
      have HGb := Lib.hid hGb
      have zb : w.heap.size < w_0.heap.size := V.cell_lt hGb.1
      have HP_0 := Lib.hid (Below.refl w_0.heap.size w_0)
      clear hGb hlm hbig
      go_enter Try.func7, Try.ntmps7
      go_wp2_with fail
      rw [← hwb]
      clear hwb
      refine (V.szGr_t x0 a0 len0 cap0 _ hn).mono ?_
      rintro e w_1 ⟨rfl, hb⟩
      have z1 : w_0.heap.size ≤ w_1.heap.size := hb.size
      have HP_1 := Lib.hid (HP_0.out.trans (hb.mono (by omega)))
      clear HP_0
      clear hb
      have hl0 : ¬ (1048576 - (len0 : Int) < 0) := by omega
      obtain ⟨g0, g1⟩ := HGb.out.below HP_1.out
      go_wp2_with fail
      clear g0 g1
      refine (V.toGraph x0 a0 len0 cap0 l0 _ (HA.out.below (bt HW.out HP_1.out)) hn).mono ?_
      rintro e w_2 ⟨bc, rfl, ho, hb⟩
      have z2 : w_1.heap.size ≤ w_2.heap.size := hb.size
      have HP_2 := Lib.hid (HP_1.out.trans (hb.mono (by omega)))
      clear HP_1
      have HOc := Lib.hid ho
      clear ho hb
      have Sc_2 : Hid (V.Same w_1.heap.size w_2.heap.size w_2 w_2) := V.Same.refl _ _ _
      go_wp2_with fail
      refine (V.copyInts _ _ _ l1 _ (HV.out.below (bt HW.out HP_2.out)) hn1).mono ?_
      rintro e w_3 ⟨rfl, ho, hb⟩
      have z3 : w_2.heap.size ≤ w_3.heap.size := hb.size
      have HP_3 := Lib.hid (HP_2.out.trans (hb.mono (by omega)))
      have Sc_3 : Hid (V.Same w_1.heap.size w_2.heap.size w_2 w_3) := Sc_2.out.below hb (by omega)
      clear HP_2 Sc_2
      have HOe := Lib.hid ho
      clear ho hb
      have Se_3 : Hid (V.Same w_2.heap.size w_3.heap.size w_3 w_3) := V.Same.refl _ _ _
      go_wp2_with fail
      refine (V.sIsCircuit x0 _ _ _ l0 _ _ _ l1 _ ((HOc.out.keep Sc_3.out).pls) ((HOe.out.keep Se_3.out).ints') hn1).mono ?_
      rintro e w_4 ⟨rfl, hb⟩
      rw [← HR.out]
      have z4 : w_3.heap.size ≤ w_4.heap.size := hb.size
      have HP_4 := Lib.hid (HP_3.out.trans (hb.mono (by omega)))
      have Sc_4 : Hid (V.Same w_1.heap.size w_2.heap.size w_2 w_4) := Sc_3.out.below hb (by omega)
      have Se_4 : Hid (V.Same w_2.heap.size w_3.heap.size w_3 w_4) := Se_3.out.below hb (by omega)
      clear HP_3 Sc_3 Se_3
      clear hb
      clear Sc_4 HOc Se_4 HOe
      obtain ⟨g0, g1⟩ := HGb.out.below HP_4.out
      go_wp2_with fail
      clear g0 g1
      refine (V.toGraph x0 a0 len0 cap0 l0 _ (HA.out.below (bt HW.out HP_4.out)) hn).mono ?_
      rintro e w_5 ⟨bx, rfl, ho, hb⟩
      have z5 : w_4.heap.size ≤ w_5.heap.size := hb.size
      have HP_5 := Lib.hid (HP_4.out.trans (hb.mono (by omega)))
      clear HP_4
      have HOx := Lib.hid ho
      clear ho hb
      have Sx_5 : Hid (V.Same w_4.heap.size w_5.heap.size w_5 w_5) := V.Same.refl _ _ _
      have hXb := V.gBox_new w_5 x0 bx len0 len0 26
      obtain ⟨w_6, hwx⟩ : ∃ z, z = w_5.alloc (.cells #[.int .i64 x0, .slice bx len0 len0] 26) := ⟨_, rfl⟩
      have hb : Below w_5.heap.size w_5 w_6 := by rw [hwx]; exact V.b_alloc w_5 _
      rw [← hwx] at hXb
      have zx : w_5.heap.size < w_6.heap.size := V.cell_lt hXb.1
      have z6 : w_5.heap.size ≤ w_6.heap.size := hb.size
      have HP_6 := Lib.hid (HP_5.out.trans (hb.mono (by omega)))
      have Sx_6 : Hid (V.Same w_4.heap.size w_5.heap.size w_5 w_6) := Sx_5.out.below hb (by omega)
      clear HP_5 Sx_5
      have HOX := Lib.hid hXb
      clear hXb hb
      have SX_6 : Hid (V.Same w_5.heap.size w_6.heap.size w_6 w_6) := V.Same.refl _ _ _
      go_wp2_with fail
      rw [← hwx]
      clear hwx
      refine (V.copyInts _ _ _ l1 _ (HV.out.below (bt HW.out HP_6.out)) hn1).mono ?_
      rintro e w_7 ⟨rfl, ho, hb⟩
      have z7 : w_6.heap.size ≤ w_7.heap.size := hb.size
      have HP_7 := Lib.hid (HP_6.out.trans (hb.mono (by omega)))
      have Sx_7 : Hid (V.Same w_4.heap.size w_5.heap.size w_5 w_7) := Sx_6.out.below hb (by omega)
      have SX_7 : Hid (V.Same w_5.heap.size w_6.heap.size w_6 w_7) := SX_6.out.below hb (by omega)
      clear HP_6 Sx_6 SX_6
      have HOv := Lib.hid ho
      clear ho hb
      have Sv_7 : Hid (V.Same w_6.heap.size w_7.heap.size w_7 w_7) := V.Same.refl _ _ _
      obtain ⟨k0, k1⟩ := gsame HOX.out (SX_7.out w_5.heap.size (by omega) (by omega))
      go_wp2_with fail
      refine (V.isCircuit x0 _ _ _ l0 _ _ _ l1 _ ((HOx.out.keep Sx_7.out).pls) ((HOv.out.keep Sv_7.out).ints') hn1).mono ?_
      rintro e w_8 ⟨rfl, hb⟩
      rw [← HR.out]
      have z8 : w_7.heap.size ≤ w_8.heap.size := hb.size
      have HP_8 := Lib.hid (HP_7.out.trans (hb.mono (by omega)))
      have Sx_8 : Hid (V.Same w_4.heap.size w_5.heap.size w_5 w_8) := Sx_7.out.below hb (by omega)
      have SX_8 : Hid (V.Same w_5.heap.size w_6.heap.size w_6 w_8) := SX_7.out.below hb (by omega)
      have Sv_8 : Hid (V.Same w_6.heap.size w_7.heap.size w_7 w_8) := Sv_7.out.below hb (by omega)
      clear HP_7 Sx_7 SX_7 Sv_7
      clear hb
      clear k0 k1
      obtain ⟨g0, g1⟩ := HGb.out.below HP_8.out
      obtain ⟨k0, k1⟩ := gsame HOX.out (SX_8.out w_5.heap.size (by omega) (by omega))
      clear HR
      go_wp2
      go_region_held3 (fun w' => w'.cell? ⟨w.heap.size, 0, none⟩ = some (.int .i64 x0) ∧ w'.cell? ⟨w.heap.size, 1, none⟩ = some (.slice a0 len0 cap0) ∧ w'.cell? ⟨w_5.heap.size, 0, none⟩ = some (.int .i64 x0) ∧ w'.cell? ⟨w_5.heap.size, 1, none⟩ = some (.slice bx len0 len0) ∧ Below w_8.heap.size w_8 w')
        (first | exact ⟨g0, g1, k0, k1, (Below.refl _ _).drew⟩ | exact keepG ‹_ ∧ _ ∧ _ ∧ _ ∧ Below _ _ _› hb)
        (first
          | (go_at_call 34; refine (V.toGraph x0 a0 len0 cap0 l0 _ ?hp hn).mono ?_; (case hp => exact HA.out.below (bt (bt HW.out HP_8.out) (‹_ ∧ _ ∧ _ ∧ _ ∧ Below _ _ _›).2.2.2.2)); rintro e wy ⟨b7, rfl, ho7, hb⟩; have HD := Lib.hid ho7.pls; have HBw := Lib.hid (bt (‹_ ∧ _ ∧ _ ∧ _ ∧ Below _ _ _›).2.2.2.2 hb); clear ho7)
          | (go_at_call 35; refine (V.eqGraph x0 _ _ _ _ _ _ l0 _ ?h1 ?h2).mono ?_; (case h1 => exact ((HOx.out.keep Sx_8.out).pls).below HBw.out); (case h2 => exact HD.out); rintro e w_9 ⟨rfl, hb⟩; have HBz := Lib.hid (bt HBw.out hb)))
      all_goals
        have z9 : w_8.heap.size ≤ w_9.heap.size := HBz.out.size
        have HP_9 := Lib.hid (HP_8.out.trans (HBz.out.mono (by omega)))
        have Sx_9 : Hid (V.Same w_4.heap.size w_5.heap.size w_5 w_9) := Sx_8.out.below HBz.out (by omega)
        have SX_9 : Hid (V.Same w_5.heap.size w_6.heap.size w_6 w_9) := SX_8.out.below HBz.out (by omega)
        have Sv_9 : Hid (V.Same w_6.heap.size w_7.heap.size w_7 w_9) := Sv_8.out.below HBz.out (by omega)
        clear HP_8 Sx_8 SX_8 Sv_8
        clear g0 g1 k0 k1
        go_wp2_with fail
        refine (V.copyInts _ _ _ l1 _ (HV.out.below (bt HW.out HP_9.out)) hn1).mono ?_
        rintro e w_10 ⟨rfl, ho, hb⟩
        have z10 : w_9.heap.size ≤ w_10.heap.size := hb.size
        have HP_10 := Lib.hid (HP_9.out.trans (hb.mono (by omega)))
        have Sx_10 : Hid (V.Same w_4.heap.size w_5.heap.size w_5 w_10) := Sx_9.out.below hb (by omega)
        have SX_10 : Hid (V.Same w_5.heap.size w_6.heap.size w_6 w_10) := SX_9.out.below hb (by omega)
        have Sv_10 : Hid (V.Same w_6.heap.size w_7.heap.size w_7 w_10) := Sv_9.out.below hb (by omega)
        clear HP_9 Sx_9 SX_9 Sv_9
        have HOf := Lib.hid ho
        clear ho hb
        have Sf_10 : Hid (V.Same w_9.heap.size w_10.heap.size w_10 w_10) := V.Same.refl _ _ _
        go_wp2_with fail
        refine (V.eqV _ _ _ _ _ _ _ _ ((HOv.out.keep Sv_10.out).ints') ((HOf.out.keep Sf_10.out).ints')).mono ?_
        rintro e w_11 ⟨rfl, hb⟩
        have z11 : w_10.heap.size ≤ w_11.heap.size := hb.size
        have HP_11 := Lib.hid (HP_10.out.trans (hb.mono (by omega)))
        have Sx_11 : Hid (V.Same w_4.heap.size w_5.heap.size w_5 w_11) := Sx_10.out.below hb (by omega)
        have SX_11 : Hid (V.Same w_5.heap.size w_6.heap.size w_6 w_11) := SX_10.out.below hb (by omega)
        have Sv_11 : Hid (V.Same w_6.heap.size w_7.heap.size w_7 w_11) := Sv_10.out.below hb (by omega)
        have Sf_11 : Hid (V.Same w_9.heap.size w_10.heap.size w_10 w_11) := Sf_10.out.below hb (by omega)
        clear HP_10 Sx_10 SX_10 Sv_10 Sf_10
        clear hb
        go_wp2
        go_ret
        exact ⟨rfl, bt HW.out HP_11.out⟩
end Go.Proofs.Ytlofnadpgnbmdaa.fnExactIsCircuit
