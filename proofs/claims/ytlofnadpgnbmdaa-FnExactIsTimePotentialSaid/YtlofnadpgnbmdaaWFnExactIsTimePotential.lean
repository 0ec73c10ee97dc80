/- The walk through the law: it returns true and writes nothing that was there. The function IsTimePotential answers as its model, for all arguments, and leaves the graph and the list as they were. -/
import Derived.Test.YtlofnadpgnbmdaaRows
import Derived.Test.YtlofnadpgnbmdaaQa1
import Derived.Test.YtlofnadpgnbmdaaQa2
import Derived.Test.YtlofnadpgnbmdaaQa8
import Derived.Test.YtlofnadpgnbmdaaQa3
import Derived.Test.YtlofnadpgnbmdaaQa48
import Derived.Test.YtlofnadpgnbmdaaQa55
import Derived.WalkKit
import Derived.ProofKit
import Derived.OpenShut
import Derived.ShutString
import Derived.ChangeOld
import Derived.Below
import Derived.Lib.SmallJoins
import Derived.Lib.Hide
import Derived.WalkSmall
import Derived.Deep.Draws
import Derived.Deep.QuietTactic
import Derived.BigQuiet
import Derived.Deep.OwnRows
import Derived.Deep.RegionWith
import Derived.Deep.RegionHeld3
set_option linter.unusedSimpArgs false
set_option linter.unusedVariables false
set_option linter.unusedSectionVars false
namespace Go.Proofs.Ytlofnadpgnbmdaa.fnExactIsTimePotential
open Go.ChangeShapes Go.WideShapes Go.ChangeAt Go.RowKit
open Go.ChangeMaps (open_string shut_string)
set_option linter.unusedVariables false

theorem keepG {w0 w1 w2 : World} {G X : Nat} {p q r s : Value} (h : w1.cell? ⟨G, 0, none⟩ = some p ∧ w1.cell? ⟨G, 1, none⟩ = some q ∧ w1.cell? ⟨X, 0, none⟩ = some r ∧ w1.cell? ⟨X, 1, none⟩ = some s ∧ Below w0.heap.size w0 w1) (hb : Below w1.heap.size w1 w2) :
    w2.cell? ⟨G, 0, none⟩ = some p ∧ w2.cell? ⟨G, 1, none⟩ = some q ∧ w2.cell? ⟨X, 0, none⟩ = some r ∧ w2.cell? ⟨X, 1, none⟩ = some s ∧ Below w0.heap.size w0 w2 := by
  obtain ⟨h1, h2, h3, h4, h5⟩ := h
  exact ⟨(hb.cell (V.cell_lt h1)).trans h1, (hb.cell (V.cell_lt h2)).trans h2, (hb.cell (V.cell_lt h3)).trans h3, (hb.cell (V.cell_lt h4)).trans h4, h5.trans (hb.mono h5.size)⟩
theorem bt {a b c : World} (h1 : Below a.heap.size a b) (h2 : Below b.heap.size b c) : Below a.heap.size a c := h1.trans (h2.mono h1.size)
theorem gsame {w w' : World} {g : Nat} {x : Int} {a : Option Addr} {n cap : Nat} (h : V.GBox w g x a n cap) (e : w'.heap[g]? = w.heap[g]?) : V.GBox w' g x a n cap :=
  ⟨(World.cell?_of_block (a := ⟨g, 0, none⟩) e).trans h.1, (World.cell?_of_block (a := ⟨g, 1, none⟩) e).trans h.2⟩
theorem keepQ {w0 w1 w2 : World} {G X : Nat} {p q r s : Value} (h : w1.cell? ⟨G, 0, none⟩ = some p ∧ w1.cell? ⟨G, 1, none⟩ = some q ∧ w1.cell? ⟨X, 0, none⟩ = some r ∧ w1.cell? ⟨X, 1, none⟩ = some s ∧ Below w0.heap.size w0 w1) (hb : Below w1.heap.size w1 w2) :
    w2.cell? ⟨G, 0, none⟩ = some p ∧ w2.cell? ⟨G, 1, none⟩ = some q ∧ w2.cell? ⟨X, 0, none⟩ = some r ∧ w2.cell? ⟨X, 1, none⟩ = some s ∧ Below w0.heap.size w0 w2 := keepG h hb

set_option maxRecDepth 100000 in
set_option maxHeartbeats 4000000 in
theorem walk (x0 : Int) (a0 : Option Addr) (len0 cap0 : Nat) (l0 : List M.Pc) (a1_0 a1_1 : Int) (a2 : Option Addr) (len2 cap2 : Nat) (z2 : List Int) (w : World) (wx0 : (Lit.int .i64 x0).wf = true) (w0 : V.Pls w a0 len0 l0) (w1_0 : (Lit.int .i64 a1_0).wf = true) (w1_1 : (Lit.int .i64 a1_1).wf = true) (w2 : V.IsRow .i64 w a2 len2 cap2 z2) :
    Calls Try.prog 12 #[.agg #[.int .i64 x0, .slice a0 len0 cap0], .agg #[.int .i64 a1_0, .int .i64 a1_1], .slice a2 len2 cap2] w fun e w' => e = .returned (.bool true) ∧ Below w.heap.size w w' := by
  have hI2 := w2.ints
  generalize z2.take len2 = l2 at hI2
  have HV := Lib.hid hI2
  clear hI2 w2
  by_cases hbig2 : 1048576 < len2
  · have hgt : (len2 : Int) > 1048576 := by omega
    go_enter Try.func12, Try.ntmps12
    go_wp2
    go_ret
    exact ⟨rfl, V.b_alloc2 _ _ _⟩
  · have hn2 : len2 ≤ 1048576 := by omega
    have hgt : ¬ (len2 : Int) > 1048576 := by omega
    have hgt2 : (len2 : Int) ≤ 1048576 := by omega
    have HA := Lib.hid w0
    have hlm := w0.2.1
    clear w0
    by_cases hbig : 1048576 < len0
    · go_enter Try.func12, Try.ntmps12
      go_wp2_with fail
      refine (V.szGr_f x0 a0 len0 cap0 _ hbig hlm).mono ?_
      rintro e w1 ⟨rfl, hb1⟩
      have HB1 := Lib.hid ((V.b_alloc2 w (.cells #[.int .i64 x0, .slice a0 len0 cap0] 54) (.cells #[.int .i64 a1_0, .int .i64 a1_1] 65)).trans (hb1.mono (by simp; omega)))
      clear hb1
      go_wp2
      go_ret
      exact ⟨rfl, HB1.out⟩
    · have hn : len0 ≤ 1048576 := by omega
      obtain ⟨r, hr⟩ : ∃ r, r = (M.itpB x0 l0 a1_0 a1_1 l2) := ⟨_, rfl⟩
      have HR := Lib.hid hr
      clear hr
      have hGb := (V.gBox_new w x0 a0 len0 cap0 54).below (V.b_alloc _ (.cells #[.int .i64 a1_0, .int .i64 a1_1] 65))
      have hRb := V.RQ.newT (w.alloc (.cells #[.int .i64 x0, .slice a0 len0 cap0] 54)) a1_0 a1_1 65
      rw [World.size_alloc] at hRb
      obtain ⟨w_0, hwb⟩ : ∃ z, z = (w.alloc (.cells #[.int .i64 x0, .slice a0 len0 cap0] 54)).alloc (.cells #[.int .i64 a1_0, .int .i64 a1_1] 65) := ⟨_, rfl⟩
      have HW : Hid (Below w.heap.size w w_0) := by show Below _ _ _; rw [hwb]; exact V.b_alloc2 w _ _
      rw [← hwb] at hGb hRb
      have HGb := Lib.hid hGb
      have HRb := Lib.hid hRb
      have zb : w.heap.size + 1 < w_0.heap.size := V.cell_lt hRb.1
      have HP_0 := Lib.hid (Below.refl w_0.heap.size w_0)
      obtain ⟨g0, g1⟩ := hGb
      clear hRb hlm hbig
      go_enter Try.func12, Try.ntmps12
      go_wp2_with fail
      rw [← hwb]
      clear hwb g0 g1
      refine (V.szGr_t x0 a0 len0 cap0 _ hn).mono ?_
      rintro e w_1 ⟨rfl, hb⟩
      have z1 : w_0.heap.size ≤ w_1.heap.size := hb.size
      have HP_1 := Lib.hid (HP_0.out.trans (hb.mono (by omega)))
      clear HP_0
      clear hb
      have hl0 : ¬ (1048576 - (len0 : Int) < 0) := by omega
      obtain ⟨g0, g1⟩ := HGb.out.below HP_1.out
      obtain ⟨q0, q1⟩ := HRb.out.eq (HP_1.out.block _ zb)
      go_wp2
      go_region_held3 (fun w' => w'.cell? ⟨w.heap.size, 0, none⟩ = some (.int .i64 x0) ∧ w'.cell? ⟨w.heap.size, 1, none⟩ = some (.slice a0 len0 cap0) ∧ w'.cell? ⟨w.heap.size + 1, 0, none⟩ = some (.int .i64 a1_0) ∧ w'.cell? ⟨w.heap.size + 1, 1, none⟩ = some (.int .i64 a1_1) ∧ Below w_1.heap.size w_1 w')
        (first | exact ⟨g0, g1, q0, q1, (Below.refl _ _).drew⟩ | exact keepQ ‹_ ∧ _ ∧ _ ∧ _ ∧ Below _ _ _› hb)
        (first
          | (go_at_call 34; refine (V.toGraph x0 a0 len0 cap0 l0 _ ?hp hn).mono ?_; (case hp => exact HA.out.below (bt (bt HW.out HP_1.out) (‹_ ∧ _ ∧ _ ∧ _ ∧ Below _ _ _›).2.2.2.2)); rintro e wy ⟨b7, rfl, ho7, hb⟩; have HD := Lib.hid ho7; have HBw := Lib.hid (bt (‹_ ∧ _ ∧ _ ∧ _ ∧ Below _ _ _›).2.2.2.2 hb); clear ho7)
          | (go_at_call 46; refine (V.toRatio _ _ _).mono ?_; rintro e wr ⟨rfl, hb⟩; have HBr := Lib.hid (bt HBw.out hb); have HDr := Lib.hid (HD.out.below hb))
          | (go_at_call 38; refine (V.copyInts _ _ _ l2 _ ?hv hn2).mono ?_; (case hv => exact HV.out.below (bt (bt HW.out HP_1.out) HBr.out)); rintro e wq ⟨rfl, ho7, hb⟩; have HBq := Lib.hid (bt HBr.out hb); have HDp := Lib.hid (HDr.out.below hb).pls; have HDv := Lib.hid ho7.ints'; clear ho7)
          | (go_at_call 45; refine (V.sIsTimePotential x0 _ _ _ l0 a1_0 a1_1 _ _ _ l2 _ HDp.out HDv.out).mono ?_; rintro e w_2 ⟨rfl, hb⟩; rw [← HR.out]; have HBz := Lib.hid (bt HBq.out hb)))
      all_goals
        have z2 : w_1.heap.size ≤ w_2.heap.size := HBz.out.size
        have HP_2 := Lib.hid (HP_1.out.trans (HBz.out.mono (by omega)))
        clear HP_1
        clear hb HD HDp HDr HDv HBw HBr HBq HBz g0 g1 q0 q1
        obtain ⟨g0, g1⟩ := HGb.out.below HP_2.out
        go_wp2_with fail
        clear g0 g1
        refine (V.toGraph x0 a0 len0 cap0 l0 _ (HA.out.below (bt HW.out HP_2.out)) hn).mono ?_
        rintro e w_3 ⟨bx, rfl, ho, hb⟩
        have z3 : w_2.heap.size ≤ w_3.heap.size := hb.size
        have HP_3 := Lib.hid (HP_2.out.trans (hb.mono (by omega)))
        clear HP_2
        have HOx := Lib.hid ho
        clear ho hb
        have Sx_3 : Hid (V.Same w_2.heap.size w_3.heap.size w_3 w_3) := V.Same.refl _ _ _
        have hXb := V.gBox_new w_3 x0 bx len0 len0 26
        obtain ⟨w_4, hwx⟩ : ∃ z, z = w_3.alloc (.cells #[.int .i64 x0, .slice bx len0 len0] 26) := ⟨_, rfl⟩
        have hb : Below w_3.heap.size w_3 w_4 := by rw [hwx]; exact V.b_alloc w_3 _
        rw [← hwx] at hXb
        have zx : w_3.heap.size < w_4.heap.size := V.cell_lt hXb.1
        have z4 : w_3.heap.size ≤ w_4.heap.size := hb.size
        have HP_4 := Lib.hid (HP_3.out.trans (hb.mono (by omega)))
        have Sx_4 : Hid (V.Same w_2.heap.size w_3.heap.size w_3 w_4) := Sx_3.out.below hb (by omega)
        clear HP_3 Sx_3
        have HOX := Lib.hid hXb
        clear hXb hb
        have SX_4 : Hid (V.Same w_3.heap.size w_4.heap.size w_4 w_4) := V.Same.refl _ _ _
        go_wp2_with fail
        rw [← hwx]
        clear hwx
        refine (V.copyInts _ _ _ l2 _ (HV.out.below (bt HW.out HP_4.out)) hn2).mono ?_
        rintro e w_5 ⟨rfl, ho, hb⟩
        have z5 : w_4.heap.size ≤ w_5.heap.size := hb.size
        have HP_5 := Lib.hid (HP_4.out.trans (hb.mono (by omega)))
        have Sx_5 : Hid (V.Same w_2.heap.size w_3.heap.size w_3 w_5) := Sx_4.out.below hb (by omega)
        have SX_5 : Hid (V.Same w_3.heap.size w_4.heap.size w_4 w_5) := SX_4.out.below hb (by omega)
        clear HP_4 Sx_4 SX_4
        have HOv := Lib.hid ho
        clear ho hb
        have Sv_5 : Hid (V.Same w_4.heap.size w_5.heap.size w_5 w_5) := V.Same.refl _ _ _
        obtain ⟨q0, q1⟩ := HRb.out.eq (HP_5.out.block _ zb)
        obtain ⟨k0, k1⟩ := gsame HOX.out (SX_5.out w_3.heap.size (by omega) (by omega))
        go_wp2
        go_region_held3 (fun w' => w'.cell? ⟨w_3.heap.size, 0, none⟩ = some (.int .i64 x0) ∧ w'.cell? ⟨w_3.heap.size, 1, none⟩ = some (.slice bx len0 len0) ∧ w'.cell? ⟨w.heap.size + 1, 0, none⟩ = some (.int .i64 a1_0) ∧ w'.cell? ⟨w.heap.size + 1, 1, none⟩ = some (.int .i64 a1_1) ∧ Below w_5.heap.size w_5 w')
          (first | exact ⟨k0, k1, q0, q1, (Below.refl _ _).drew⟩ | exact keepQ ‹_ ∧ _ ∧ _ ∧ _ ∧ Below _ _ _› hb)
          (first
            | (go_at_call 46; refine (V.toRatio _ _ _).mono ?_; rintro e wq ⟨rfl, hb⟩; have HBq := Lib.hid (bt (‹_ ∧ _ ∧ _ ∧ _ ∧ Below _ _ _›).2.2.2.2 hb); have HDp := Lib.hid (((HOx.out.keep Sx_5.out).pls).below (bt (‹_ ∧ _ ∧ _ ∧ _ ∧ Below _ _ _›).2.2.2.2 hb)); have HDv := Lib.hid (((HOv.out.keep Sv_5.out).ints').below (bt (‹_ ∧ _ ∧ _ ∧ _ ∧ Below _ _ _›).2.2.2.2 hb)))
            | (go_at_call 47; refine (V.isTimePotential x0 _ _ _ l0 a1_0 a1_1 _ _ _ l2 _ HDp.out HDv.out).mono ?_; rintro e w_6 ⟨rfl, hb⟩; rw [← HR.out]; have HBz := Lib.hid (bt HBq.out hb)))
        all_goals
          have z6 : w_5.heap.size ≤ w_6.heap.size := HBz.out.size
          have HP_6 := Lib.hid (HP_5.out.trans (HBz.out.mono (by omega)))
          have Sx_6 : Hid (V.Same w_2.heap.size w_3.heap.size w_3 w_6) := Sx_5.out.below HBz.out (by omega)
          have SX_6 : Hid (V.Same w_3.heap.size w_4.heap.size w_4 w_6) := SX_5.out.below HBz.out (by omega)
          have Sv_6 : Hid (V.Same w_4.heap.size w_5.heap.size w_5 w_6) := Sv_5.out.below HBz.out (by omega)
          clear HP_5 Sx_5 SX_5 Sv_5
          clear hb HDp HDv HBq HBz k0 k1 q0 q1
          obtain ⟨g0, g1⟩ := HGb.out.below HP_6.out
          obtain ⟨k0, k1⟩ := gsame HOX.out (SX_6.out w_3.heap.size (by omega) (by omega))
          clear HR
          go_wp2
          go_region_held3 (fun w' => w'.cell? ⟨w.heap.size, 0, none⟩ = some (.int .i64 x0) ∧ w'.cell? ⟨w.heap.size, 1, none⟩ = some (.slice a0 len0 cap0) ∧ w'.cell? ⟨w_3.heap.size, 0, none⟩ = some (.int .i64 x0) ∧ w'.cell? ⟨w_3.heap.size, 1, none⟩ = some (.slice bx len0 len0) ∧ Below w_6.heap.size w_6 w')
            (first | exact ⟨g0, g1, k0, k1, (Below.refl _ _).drew⟩ | exact keepG ‹_ ∧ _ ∧ _ ∧ _ ∧ Below _ _ _› hb)
            (first
              | (go_at_call 34; refine (V.toGraph x0 a0 len0 cap0 l0 _ ?hp hn).mono ?_; (case hp => exact HA.out.below (bt (bt HW.out HP_6.out) (‹_ ∧ _ ∧ _ ∧ _ ∧ Below _ _ _›).2.2.2.2)); rintro e wy ⟨b7, rfl, ho7, hb⟩; have HD := Lib.hid ho7.pls; have HBw := Lib.hid (bt (‹_ ∧ _ ∧ _ ∧ _ ∧ Below _ _ _›).2.2.2.2 hb); clear ho7)
              | (go_at_call 35; refine (V.eqGraph x0 _ _ _ _ _ _ l0 _ ?h1 ?h2).mono ?_; (case h1 => exact ((HOx.out.keep Sx_6.out).pls).below HBw.out); (case h2 => exact HD.out); rintro e w_7 ⟨rfl, hb⟩; have HBz := Lib.hid (bt HBw.out hb)))
          all_goals
            have z7 : w_6.heap.size ≤ w_7.heap.size := HBz.out.size
            have HP_7 := Lib.hid (HP_6.out.trans (HBz.out.mono (by omega)))
            have Sx_7 : Hid (V.Same w_2.heap.size w_3.heap.size w_3 w_7) := Sx_6.out.below HBz.out (by omega)
            have SX_7 : Hid (V.Same w_3.heap.size w_4.heap.size w_4 w_7) := SX_6.out.below HBz.out (by omega)
            have Sv_7 : Hid (V.Same w_4.heap.size w_5.heap.size w_5 w_7) := Sv_6.out.below HBz.out (by omega)
            clear HP_6 Sx_6 SX_6 Sv_6
            clear HD HBw HBz g0 g1 k0 k1 hb
            go_wp2_with fail
            refine (V.copyInts _ _ _ l2 _ (HV.out.below (bt HW.out HP_7.out)) hn2).mono ?_
            rintro e w_8 ⟨rfl, ho, hb⟩
            have z8 : w_7.heap.size ≤ w_8.heap.size := hb.size
            have HP_8 := Lib.hid (HP_7.out.trans (hb.mono (by omega)))
            have Sx_8 : Hid (V.Same w_2.heap.size w_3.heap.size w_3 w_8) := Sx_7.out.below hb (by omega)
            have SX_8 : Hid (V.Same w_3.heap.size w_4.heap.size w_4 w_8) := SX_7.out.below hb (by omega)
            have Sv_8 : Hid (V.Same w_4.heap.size w_5.heap.size w_5 w_8) := Sv_7.out.below hb (by omega)
            clear HP_7 Sx_7 SX_7 Sv_7
            have HOf := Lib.hid ho
            clear ho hb
            have Sf_8 : Hid (V.Same w_7.heap.size w_8.heap.size w_8 w_8) := V.Same.refl _ _ _
            go_wp2_with fail
            refine (V.eqV _ _ _ _ _ _ _ _ ((HOv.out.keep Sv_8.out).ints') ((HOf.out.keep Sf_8.out).ints')).mono ?_
            rintro e w_9 ⟨rfl, hb⟩
            have z9 : w_8.heap.size ≤ w_9.heap.size := hb.size
            have HP_9 := Lib.hid (HP_8.out.trans (hb.mono (by omega)))
            have Sx_9 : Hid (V.Same w_2.heap.size w_3.heap.size w_3 w_9) := Sx_8.out.below hb (by omega)
            have SX_9 : Hid (V.Same w_3.heap.size w_4.heap.size w_4 w_9) := SX_8.out.below hb (by omega)
            have Sv_9 : Hid (V.Same w_4.heap.size w_5.heap.size w_5 w_9) := Sv_8.out.below hb (by omega)
            have Sf_9 : Hid (V.Same w_7.heap.size w_8.heap.size w_8 w_9) := Sf_8.out.below hb (by omega)
            clear HP_8 Sx_8 SX_8 Sv_8 Sf_8
            clear hb
            go_wp2
            go_ret
            exact ⟨rfl, bt HW.out HP_9.out⟩
end Go.Proofs.Ytlofnadpgnbmdaa.fnExactIsTimePotential
