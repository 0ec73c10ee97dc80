/- The walk through the law: it returns true and writes nothing that was there. The function DropPlace answers as its model, for all arguments, leaves the graph as it was, and its answer owns its memory. -/
import Derived.Test.YtkjcnlihmhcakaaRows
import Derived.Test.YtkjcnlihmhcakaaQb1
import Derived.Test.YtkjcnlihmhcakaaQb2
import Derived.Test.YtkjcnlihmhcakaaQb5
import Derived.Test.YtkjcnlihmhcakaaQb3
import Derived.Test.YtkjcnlihmhcakaaQb7
import Derived.WalkKit
import Derived.ProofKit
import Derived.OpenShut
import Derived.ShutString
import Derived.ChangeOld
import Derived.Below
import Derived.Lib.SmallJoins
import Derived.Lib.Hide
import Derived.WalkSmall
import Derived.Deep.Draws
import Derived.Deep.QuietTactic
import Derived.BigQuiet
import Derived.Deep.OwnRows
import Derived.Deep.RegionWith
import Derived.Deep.RegionHeld3
set_option linter.unusedSimpArgs false
set_option linter.unusedVariables false
set_option linter.unusedSectionVars false
namespace Go.Proofs.Ytkjcnlihmhcakaa.fnExactDropPlace
open Go.ChangeShapes Go.WideShapes Go.ChangeAt Go.RowKit
open Go.ChangeMaps (open_string shut_string)
set_option linter.unusedVariables false

theorem keepG {w0 w1 w2 : World} {G X : Nat} {p q r s : Value} (h : w1.cell? ⟨G, 0, none⟩ = some p ∧ w1.cell? ⟨G, 1, none⟩ = some q ∧ w1.cell? ⟨X, 0, none⟩ = some r ∧ w1.cell? ⟨X, 1, none⟩ = some s ∧ Below w0.heap.size w0 w1) (hb : Below w1.heap.size w1 w2) :
    w2.cell? ⟨G, 0, none⟩ = some p ∧ w2.cell? ⟨G, 1, none⟩ = some q ∧ w2.cell? ⟨X, 0, none⟩ = some r ∧ w2.cell? ⟨X, 1, none⟩ = some s ∧ Below w0.heap.size w0 w2 := by
  obtain ⟨h1, h2, h3, h4, h5⟩ := h
  exact ⟨(hb.cell (V.cell_lt h1)).trans h1, (hb.cell (V.cell_lt h2)).trans h2, (hb.cell (V.cell_lt h3)).trans h3, (hb.cell (V.cell_lt h4)).trans h4, h5.trans (hb.mono h5.size)⟩
theorem bt {a b c : World} (h1 : Below a.heap.size a b) (h2 : Below b.heap.size b c) : Below a.heap.size a c := h1.trans (h2.mono h1.size)
theorem gsame {w w' : World} {g : Nat} {x : Int} {a : Option Addr} {n cap : Nat} (h : V.GBox w g x a n cap) (e : w'.heap[g]? = w.heap[g]?) : V.GBox w' g x a n cap :=
  ⟨(World.cell?_of_block (a := ⟨g, 0, none⟩) e).trans h.1, (World.cell?_of_block (a := ⟨g, 1, none⟩) e).trans h.2⟩

set_option maxRecDepth 100000 in
set_option maxHeartbeats 4000000 in
theorem walk (x0 : Int) (a0 : Option Addr) (len0 cap0 : Nat) (l0 : List M.Pc) (a1 : Int) (w : World) (wx0 : (Lit.int .i64 x0).wf = true) (w0 : V.Pls w a0 len0 l0) (w1 : (Lit.int .i64 a1).wf = true) :
    Calls Try.prog 6 #[.agg #[.int .i64 x0, .slice a0 len0 cap0], .int .i64 a1] w fun e w' => e = .returned (.bool true) ∧ Below w.heap.size w w' := by
  have HA := Lib.hid w0
  have hlm := w0.2.1
  clear w0
  by_cases hbig : 1048576 < len0
  · go_enter Try.func6, Try.ntmps6
    go_wp2_with fail
    refine (V.szGr_f x0 a0 len0 cap0 _ hbig hlm).mono ?_
    rintro e w1 ⟨rfl, hb1⟩
    have HB1 := Lib.hid ((V.b_alloc w (.cells #[.int .i64 x0, .slice a0 len0 cap0] 42)).trans (hb1.mono (by simp)))
    clear hb1
    go_wp2
    go_ret
    exact ⟨rfl, HB1.out⟩
  · have hn : len0 ≤ 1048576 := by omega
    obtain ⟨r, hr⟩ : ∃ r, r = (M.dropRes x0 l0 a1) := ⟨_, rfl⟩
    have hok := M.dropRes_len x0 l0 a1
    rw [← hr] at hok
    have HR := Lib.hid hr
    clear hr
    have hGb := V.gBox_new w x0 a0 len0 cap0 42
    obtain ⟨w_0, hwb⟩ : ∃ z, z = w.alloc (.cells #[.int .i64 x0, .slice a0 len0 cap0] 42) := ⟨_, rfl⟩
    have HW : Hid (Below w.heap.size w w_0) := by show Below _ _ _; rw [hwb]; exact V.b_alloc w _
    rw [← hwb] at hGb
    have HGb := Lib.hid hGb
    have zb : w.heap.size < w_0.heap.size := V.cell_lt hGb.1
    have HP_0 := Lib.hid (Below.refl w_0.heap.size w_0)
    clear hGb hlm hbig
    go_enter Try.func6, Try.ntmps6
    go_wp2_with fail
    rw [← hwb]
    clear hwb
    refine (V.szGr_t x0 a0 len0 cap0 _ hn).mono ?_
    rintro e w_1 ⟨rfl, hb⟩
    have z1 : w_0.heap.size ≤ w_1.heap.size := hb.size
    have HP_1 := Lib.hid (HP_0.out.trans (hb.mono (by omega)))
    clear HP_0
    clear hb
    have hl0 : ¬ (1048576 - (len0 : Int) < 0) := by omega
    obtain ⟨g0, g1⟩ := HGb.out.below HP_1.out
    go_wp2_with fail
    clear g0 g1
    refine (V.toGraph x0 a0 len0 cap0 l0 _ (HA.out.below (bt HW.out HP_1.out)) hn).mono ?_
    rintro e w_2 ⟨bc, rfl, ho, hb⟩
    have z2 : w_1.heap.size ≤ w_2.heap.size := hb.size
    have HP_2 := Lib.hid (HP_1.out.trans (hb.mono (by omega)))
    clear HP_1
    have HOc := Lib.hid ho
    clear ho hb
    have Sc_2 : Hid (V.Same w_1.heap.size w_2.heap.size w_2 w_2) := V.Same.refl _ _ _
    go_wp2_with fail
    refine (V.sDropPlace x0 _ _ _ l0 a1 _ ((HOc.out.keep Sc_2.out).pls) (Nat.le_refl _) hn).mono ?_
    rintro e w_3 ⟨sa, sn, sc, rfl, ho, hb⟩
    rw [← HR.out] at ho ⊢
    have z3 : w_2.heap.size ≤ w_3.heap.size := hb.size
    have HP_3 := Lib.hid (HP_2.out.trans (hb.mono (by omega)))
    have Sc_3 : Hid (V.Same w_1.heap.size w_2.heap.size w_2 w_3) := Sc_2.out.below hb (by omega)
    clear HP_2 Sc_2
    have HOs := Lib.hid ho
    clear ho hb
    have Ss_3 : Hid (V.Same w_2.heap.size w_3.heap.size w_3 w_3) := V.Same.refl _ _ _
    clear Sc_3 HOc
    have hXb := V.gBox_new w_3 r.1 sa sn sc 26
    have hb : Below w_3.heap.size w_3 (w_3.alloc (.cells #[.int .i64 r.1, .slice sa sn sc] 26)) := V.b_alloc w_3 _
    obtain ⟨g0, g1⟩ := HGb.out.below (HP_3.out.trans (hb.mono (by omega)))
    obtain ⟨w_4, hwx⟩ : ∃ z, z = (w_3.alloc (.cells #[.int .i64 r.1, .slice sa sn sc] 26)) := ⟨_, rfl⟩
    rw [← hwx] at hXb hb
    have zxS : w_3.heap.size < w_4.heap.size := V.cell_lt hXb.1
    have z4 : w_3.heap.size ≤ w_4.heap.size := hb.size
    have HP_4 := Lib.hid (HP_3.out.trans (hb.mono (by omega)))
    have Ss_4 : Hid (V.Same w_2.heap.size w_3.heap.size w_3 w_4) := Ss_3.out.below hb (by omega)
    clear HP_3 Ss_3
    have HOS := Lib.hid hXb
    clear hXb hb
    have SS_4 : Hid (V.Same w_3.heap.size w_4.heap.size w_4 w_4) := V.Same.refl _ _ _
    go_wp2_with fail
    rw [← hwx]
    clear hwx g0 g1
    refine (V.toGraph x0 a0 len0 cap0 l0 _ (HA.out.below (bt HW.out HP_4.out)) hn).mono ?_
    rintro e w_5 ⟨bx, rfl, ho, hb⟩
    have z5 : w_4.heap.size ≤ w_5.heap.size := hb.size
    have HP_5 := Lib.hid (HP_4.out.trans (hb.mono (by omega)))
    have Ss_5 : Hid (V.Same w_2.heap.size w_3.heap.size w_3 w_5) := Ss_4.out.below hb (by omega)
    have SS_5 : Hid (V.Same w_3.heap.size w_4.heap.size w_4 w_5) := SS_4.out.below hb (by omega)
    clear HP_4 Ss_4 SS_4
    have HOx := Lib.hid ho
    clear ho hb
    have Sx_5 : Hid (V.Same w_4.heap.size w_5.heap.size w_5 w_5) := V.Same.refl _ _ _
    have hXb := V.gBox_new w_5 x0 bx len0 len0 26
    have hb : Below w_5.heap.size w_5 (w_5.alloc (.cells #[.int .i64 x0, .slice bx len0 len0] 26)) := V.b_alloc w_5 _
    obtain ⟨w_6, hwx⟩ : ∃ z, z = (w_5.alloc (.cells #[.int .i64 x0, .slice bx len0 len0] 26)) := ⟨_, rfl⟩
    rw [← hwx] at hXb hb
    have zxX : w_5.heap.size < w_6.heap.size := V.cell_lt hXb.1
    have z6 : w_5.heap.size ≤ w_6.heap.size := hb.size
    have HP_6 := Lib.hid (HP_5.out.trans (hb.mono (by omega)))
    have Ss_6 : Hid (V.Same w_2.heap.size w_3.heap.size w_3 w_6) := Ss_5.out.below hb (by omega)
    have SS_6 : Hid (V.Same w_3.heap.size w_4.heap.size w_4 w_6) := SS_5.out.below hb (by omega)
    have Sx_6 : Hid (V.Same w_4.heap.size w_5.heap.size w_5 w_6) := Sx_5.out.below hb (by omega)
    clear HP_5 Ss_5 SS_5 Sx_5
    have HOX := Lib.hid hXb
    clear hXb hb
    have SX_6 : Hid (V.Same w_5.heap.size w_6.heap.size w_6 w_6) := V.Same.refl _ _ _
    go_wp2_with fail
    rw [← hwx]
    clear hwx 
    refine (V.dropPlace x0 _ _ _ l0 a1 _ ((HOx.out.keep Sx_6.out).pls) (Nat.le_refl _) hn).mono ?_
    rintro e w_7 ⟨ga, gn, gc, rfl, ho, hb⟩
    rw [← HR.out] at ho ⊢
    have z7 : w_6.heap.size ≤ w_7.heap.size := hb.size
    have HP_7 := Lib.hid (HP_6.out.trans (hb.mono (by omega)))
    have Ss_7 : Hid (V.Same w_2.heap.size w_3.heap.size w_3 w_7) := Ss_6.out.below hb (by omega)
    have SS_7 : Hid (V.Same w_3.heap.size w_4.heap.size w_4 w_7) := SS_6.out.below hb (by omega)
    have Sx_7 : Hid (V.Same w_4.heap.size w_5.heap.size w_5 w_7) := Sx_6.out.below hb (by omega)
    have SX_7 : Hid (V.Same w_5.heap.size w_6.heap.size w_6 w_7) := SX_6.out.below hb (by omega)
    clear HP_6 Ss_6 SS_6 Sx_6 SX_6
    have HOg := Lib.hid ho
    clear ho hb
    have Sg_7 : Hid (V.Same w_6.heap.size w_7.heap.size w_7 w_7) := V.Same.refl _ _ _
    have hgn : gn ≤ 30 := by have := HOg.out.len; omega
    have hXb := V.gBox_new w_7 r.1 ga gn gc 26
    have hb : Below w_7.heap.size w_7 (w_7.alloc (.cells #[.int .i64 r.1, .slice ga gn gc] 26)) := V.b_alloc w_7 _
    obtain ⟨kS0, kS1⟩ := gsame HOS.out ((SS_7.out.below hb (by omega)) w_3.heap.size (by omega) (by omega))
    obtain ⟨w_8, hwx⟩ : ∃ z, z = (w_7.alloc (.cells #[.int .i64 r.1, .slice ga gn gc] 26)) := ⟨_, rfl⟩
    rw [← hwx] at hXb hb
    have zxG : w_7.heap.size < w_8.heap.size := V.cell_lt hXb.1
    have z8 : w_7.heap.size ≤ w_8.heap.size := hb.size
    have HP_8 := Lib.hid (HP_7.out.trans (hb.mono (by omega)))
    have Ss_8 : Hid (V.Same w_2.heap.size w_3.heap.size w_3 w_8) := Ss_7.out.below hb (by omega)
    have SS_8 : Hid (V.Same w_3.heap.size w_4.heap.size w_4 w_8) := SS_7.out.below hb (by omega)
    have Sx_8 : Hid (V.Same w_4.heap.size w_5.heap.size w_5 w_8) := Sx_7.out.below hb (by omega)
    have SX_8 : Hid (V.Same w_5.heap.size w_6.heap.size w_6 w_8) := SX_7.out.below hb (by omega)
    have Sg_8 : Hid (V.Same w_6.heap.size w_7.heap.size w_7 w_8) := Sg_7.out.below hb (by omega)
    clear HP_7 Ss_7 SS_7 Sx_7 SX_7 Sg_7
    have HOG := Lib.hid hXb
    clear hXb hb
    have SG_8 : Hid (V.Same w_7.heap.size w_8.heap.size w_8 w_8) := V.Same.refl _ _ _
    go_wp2_with fail
    rw [← hwx]
    clear hwx kS0 kS1
    refine (V.eqGraph r.1 _ _ _ _ _ _ _ _ ((HOg.out.keep Sg_8.out).pls) ((HOs.out.keep Ss_8.out).pls)).mono ?_
    rintro e w_9 ⟨rfl, hb⟩
    have z9 : w_8.heap.size ≤ w_9.heap.size := hb.size
    have HP_9 := Lib.hid (HP_8.out.trans (hb.mono (by omega)))
    have Ss_9 : Hid (V.Same w_2.heap.size w_3.heap.size w_3 w_9) := Ss_8.out.below hb (by omega)
    have SS_9 : Hid (V.Same w_3.heap.size w_4.heap.size w_4 w_9) := SS_8.out.below hb (by omega)
    have Sx_9 : Hid (V.Same w_4.heap.size w_5.heap.size w_5 w_9) := Sx_8.out.below hb (by omega)
    have SX_9 : Hid (V.Same w_5.heap.size w_6.heap.size w_6 w_9) := SX_8.out.below hb (by omega)
    have Sg_9 : Hid (V.Same w_6.heap.size w_7.heap.size w_7 w_9) := Sg_8.out.below hb (by omega)
    have SG_9 : Hid (V.Same w_7.heap.size w_8.heap.size w_8 w_9) := SG_8.out.below hb (by omega)
    clear HP_8 Ss_8 SS_8 Sx_8 SX_8 Sg_8 SG_8
    clear hb
    obtain ⟨g0, g1⟩ := HGb.out.below HP_9.out
    obtain ⟨k0, k1⟩ := gsame HOX.out (SX_9.out w_5.heap.size (by omega) (by omega))
    go_wp2
    go_region_held3 (fun w' => w'.cell? ⟨w.heap.size, 0, none⟩ = some (.int .i64 x0) ∧ w'.cell? ⟨w.heap.size, 1, none⟩ = some (.slice a0 len0 cap0) ∧ w'.cell? ⟨w_5.heap.size, 0, none⟩ = some (.int .i64 x0) ∧ w'.cell? ⟨w_5.heap.size, 1, none⟩ = some (.slice bx len0 len0) ∧ Below w_9.heap.size w_9 w')
      (first | exact ⟨g0, g1, k0, k1, (Below.refl _ _).drew⟩ | exact keepG ‹_ ∧ _ ∧ _ ∧ _ ∧ Below _ _ _› hb)
      (first
        | (go_at_call 27; refine (V.toGraph x0 a0 len0 cap0 l0 _ ?hp hn).mono ?_; (case hp => exact HA.out.below (bt (bt HW.out HP_9.out) (‹_ ∧ _ ∧ _ ∧ _ ∧ Below _ _ _›).2.2.2.2)); rintro e wy ⟨b7, rfl, ho7, hb⟩; have HD := Lib.hid ho7.pls; have HBw := Lib.hid (bt (‹_ ∧ _ ∧ _ ∧ _ ∧ Below _ _ _›).2.2.2.2 hb); clear ho7)
        | (go_at_call 29; refine (V.eqGraph x0 _ _ _ _ _ _ l0 _ ?h1 ?h2).mono ?_; (case h1 => exact ((HOx.out.keep Sx_9.out).pls).below HBw.out); (case h2 => exact HD.out); rintro e w_10 ⟨rfl, hb⟩; have HBz := Lib.hid (bt HBw.out hb)))
    all_goals
      have z10 : w_9.heap.size ≤ w_10.heap.size := HBz.out.size
      have HP_10 := Lib.hid (HP_9.out.trans (HBz.out.mono (by omega)))
      have Ss_10 : Hid (V.Same w_2.heap.size w_3.heap.size w_3 w_10) := Ss_9.out.below HBz.out (by omega)
      have SS_10 : Hid (V.Same w_3.heap.size w_4.heap.size w_4 w_10) := SS_9.out.below HBz.out (by omega)
      have Sx_10 : Hid (V.Same w_4.heap.size w_5.heap.size w_5 w_10) := Sx_9.out.below HBz.out (by omega)
      have SX_10 : Hid (V.Same w_5.heap.size w_6.heap.size w_6 w_10) := SX_9.out.below HBz.out (by omega)
      have Sg_10 : Hid (V.Same w_6.heap.size w_7.heap.size w_7 w_10) := Sg_9.out.below HBz.out (by omega)
      have SG_10 : Hid (V.Same w_7.heap.size w_8.heap.size w_8 w_10) := SG_9.out.below HBz.out (by omega)
      clear HP_9 Ss_9 SS_9 Sx_9 SX_9 Sg_9 SG_9
      obtain ⟨kX0, kX1⟩ := gsame HOX.out (SX_10.out w_5.heap.size (by omega) (by omega))
      go_wp2_with fail
      clear kX0 kX1
      refine (V.markGraph x0 _ _ _ w_4.heap.size l0 1 w_5 w_10 HOx.out Sx_10.out (by omega) (by omega) (by omega) (by omega)).mono ?_
      rintro e w_11 ⟨y, rfl, hy, HY, ho, hk, hsz, hBl⟩
      have hBl := hBl (by omega)
      have z11 := hsz
      have HP_11 := Lib.hid (HP_10.out.trans (hBl.mono (by omega)))
      have Ss_11 : Hid (V.Same w_2.heap.size w_3.heap.size w_3 w_11) := fun k q1 q2 => (hk k (by omega) (by omega)).trans (Ss_10.out k q1 q2)
      have SS_11 : Hid (V.Same w_3.heap.size w_4.heap.size w_4 w_11) := fun k q1 q2 => (hk k (by omega) (by omega)).trans (SS_10.out k q1 q2)
      have SX_11 : Hid (V.Same w_5.heap.size w_6.heap.size w_6 w_11) := fun k q1 q2 => (hk k (by omega) (by omega)).trans (SX_10.out k q1 q2)
      have Sg_11 : Hid (V.Same w_6.heap.size w_7.heap.size w_7 w_11) := fun k q1 q2 => (hk k (by omega) (by omega)).trans (Sg_10.out k q1 q2)
      have SG_11 : Hid (V.Same w_7.heap.size w_8.heap.size w_8 w_11) := fun k q1 q2 => (hk k (by omega) (by omega)).trans (SG_10.out k q1 q2)
      have HOm := Lib.hid ho
      clear HP_10 hk hsz hBl ho HOx Ss_10 SS_10 Sx_10 SX_10 Sg_10 SG_10
      clear HOm
      clear SX_11 HOX
      obtain ⟨kG0, kG1⟩ := gsame HOG.out (SG_11.out w_7.heap.size (by omega) (by omega))
      obtain ⟨kS0, kS1⟩ := gsame HOS.out (SS_11.out w_3.heap.size (by omega) (by omega))
      go_wp2_with fail
      clear kG0 kG1 kS0 kS1
      refine (V.eqGraph r.1 _ _ _ _ _ _ _ _ ((HOg.out.keep Sg_11.out).pls) ((HOs.out.keep Ss_11.out).pls)).mono ?_
      rintro e w_12 ⟨rfl, hb⟩
      have z12 : w_11.heap.size ≤ w_12.heap.size := hb.size
      have HP_12 := Lib.hid (HP_11.out.trans (hb.mono (by omega)))
      have Ss_12 : Hid (V.Same w_2.heap.size w_3.heap.size w_3 w_12) := Ss_11.out.below hb (by omega)
      have SS_12 : Hid (V.Same w_3.heap.size w_4.heap.size w_4 w_12) := SS_11.out.below hb (by omega)
      have Sg_12 : Hid (V.Same w_6.heap.size w_7.heap.size w_7 w_12) := Sg_11.out.below hb (by omega)
      have SG_12 : Hid (V.Same w_7.heap.size w_8.heap.size w_8 w_12) := SG_11.out.below hb (by omega)
      clear HP_11 Ss_11 SS_11 Sg_11 SG_11
      clear hb
      obtain ⟨kG0, kG1⟩ := gsame HOG.out (SG_12.out w_7.heap.size (by omega) (by omega))
      go_wp2_with fail
      clear kG0 kG1
      refine (V.markGraph r.1 _ _ _ w_6.heap.size r.2.1 1 w_7 w_12 HOg.out Sg_12.out (by omega) (by omega) (by omega) (by omega)).mono ?_
      rintro e w_13 ⟨m, rfl, hm, HM, ho, hk, hsz, hBl⟩
      have hBl := hBl (by omega)
      have z13 := hsz
      have HP_13 := Lib.hid (HP_12.out.trans (hBl.mono (by omega)))
      have Ss_13 : Hid (V.Same w_2.heap.size w_3.heap.size w_3 w_13) := fun k q1 q2 => (hk k (by omega) (by omega)).trans (Ss_12.out k q1 q2)
      have SS_13 : Hid (V.Same w_3.heap.size w_4.heap.size w_4 w_13) := fun k q1 q2 => (hk k (by omega) (by omega)).trans (SS_12.out k q1 q2)
      have SG_13 : Hid (V.Same w_7.heap.size w_8.heap.size w_8 w_13) := fun k q1 q2 => (hk k (by omega) (by omega)).trans (SG_12.out k q1 q2)
      have HOm := Lib.hid ho
      clear HP_12 hk hsz hBl ho HOg Ss_12 SS_12 Sg_12 SG_12
      have HOg := HOm
      clear HOm
      have Sg_13 : Hid (V.Same w_6.heap.size w_13.heap.size w_13 w_13) := V.Same.refl _ _ _
      have hmb : m ≤ 200 := by have := HM.out; omega
      obtain ⟨kG0, kG1⟩ := gsame HOG.out (SG_13.out w_7.heap.size (by omega) (by omega))
      go_wp2_with fail
      clear kG0 kG1
      refine (V.heldGraph r.1 _ _ _ 1 m _ ((HOg.out.keep Sg_13.out).pls) (by omega) (by omega) (by omega) HM.out).mono ?_
      rintro e w_14 ⟨rfl, hb⟩
      have z14 : w_13.heap.size ≤ w_14.heap.size := hb.size
      have HP_14 := Lib.hid (HP_13.out.trans (hb.mono (by omega)))
      have Ss_14 : Hid (V.Same w_2.heap.size w_3.heap.size w_3 w_14) := Ss_13.out.below hb (by omega)
      have SS_14 : Hid (V.Same w_3.heap.size w_4.heap.size w_4 w_14) := SS_13.out.below hb (by omega)
      have SG_14 : Hid (V.Same w_7.heap.size w_8.heap.size w_8 w_14) := SG_13.out.below hb (by omega)
      have Sg_14 : Hid (V.Same w_6.heap.size w_13.heap.size w_13 w_14) := Sg_13.out.below hb (by omega)
      clear HP_13 Ss_13 SS_13 SG_13 Sg_13
      clear hb
      obtain ⟨g0, g1⟩ := HGb.out.below HP_14.out
      go_wp2_with fail
      clear g0 g1
      refine (V.toGraph x0 a0 len0 cap0 l0 _ (HA.out.below (bt HW.out HP_14.out)) hn).mono ?_
      rintro e w_15 ⟨bc, rfl, ho, hb⟩
      have z15 : w_14.heap.size ≤ w_15.heap.size := hb.size
      have HP_15 := Lib.hid (HP_14.out.trans (hb.mono (by omega)))
      have Ss_15 : Hid (V.Same w_2.heap.size w_3.heap.size w_3 w_15) := Ss_14.out.below hb (by omega)
      have SS_15 : Hid (V.Same w_3.heap.size w_4.heap.size w_4 w_15) := SS_14.out.below hb (by omega)
      have SG_15 : Hid (V.Same w_7.heap.size w_8.heap.size w_8 w_15) := SG_14.out.below hb (by omega)
      have Sg_15 : Hid (V.Same w_6.heap.size w_13.heap.size w_13 w_15) := Sg_14.out.below hb (by omega)
      clear HP_14 Ss_14 SS_14 SG_14 Sg_14
      have HOc := Lib.hid ho
      clear ho hb
      have Sc_15 : Hid (V.Same w_14.heap.size w_15.heap.size w_15 w_15) := V.Same.refl _ _ _
      go_wp2_with fail
      refine (V.dropPlace x0 _ _ _ l0 a1 _ ((HOc.out.keep Sc_15.out).pls) (Nat.le_refl _) hn).mono ?_
      rintro e w_16 ⟨ha, hn1, hc, rfl, ho, hb⟩
      rw [← HR.out] at ho ⊢
      have z16 : w_15.heap.size ≤ w_16.heap.size := hb.size
      have HP_16 := Lib.hid (HP_15.out.trans (hb.mono (by omega)))
      have Ss_16 : Hid (V.Same w_2.heap.size w_3.heap.size w_3 w_16) := Ss_15.out.below hb (by omega)
      have SS_16 : Hid (V.Same w_3.heap.size w_4.heap.size w_4 w_16) := SS_15.out.below hb (by omega)
      have SG_16 : Hid (V.Same w_7.heap.size w_8.heap.size w_8 w_16) := SG_15.out.below hb (by omega)
      have Sg_16 : Hid (V.Same w_6.heap.size w_13.heap.size w_13 w_16) := Sg_15.out.below hb (by omega)
      have Sc_16 : Hid (V.Same w_14.heap.size w_15.heap.size w_15 w_16) := Sc_15.out.below hb (by omega)
      clear HP_15 Ss_15 SS_15 SG_15 Sg_15 Sc_15
      have HOh := Lib.hid ho
      clear ho hb
      have Sh_16 : Hid (V.Same w_15.heap.size w_16.heap.size w_16 w_16) := V.Same.refl _ _ _
      clear Sc_16 HOc
      have hXb := V.gBox_new w_16 r.1 ha hn1 hc 26
      have hb : Below w_16.heap.size w_16 (w_16.alloc (.cells #[.int .i64 r.1, .slice ha hn1 hc] 26)) := V.b_alloc w_16 _
      obtain ⟨kS0, kS1⟩ := gsame HOS.out ((SS_16.out.below hb (by omega)) w_3.heap.size (by omega) (by omega))
      obtain ⟨w_17, hwx⟩ : ∃ z, z = (w_16.alloc (.cells #[.int .i64 r.1, .slice ha hn1 hc] 26)) := ⟨_, rfl⟩
      rw [← hwx] at hXb hb
      have zxH : w_16.heap.size < w_17.heap.size := V.cell_lt hXb.1
      have z17 : w_16.heap.size ≤ w_17.heap.size := hb.size
      have HP_17 := Lib.hid (HP_16.out.trans (hb.mono (by omega)))
      have Ss_17 : Hid (V.Same w_2.heap.size w_3.heap.size w_3 w_17) := Ss_16.out.below hb (by omega)
      have SS_17 : Hid (V.Same w_3.heap.size w_4.heap.size w_4 w_17) := SS_16.out.below hb (by omega)
      have SG_17 : Hid (V.Same w_7.heap.size w_8.heap.size w_8 w_17) := SG_16.out.below hb (by omega)
      have Sg_17 : Hid (V.Same w_6.heap.size w_13.heap.size w_13 w_17) := Sg_16.out.below hb (by omega)
      have Sh_17 : Hid (V.Same w_15.heap.size w_16.heap.size w_16 w_17) := Sh_16.out.below hb (by omega)
      clear HP_16 Ss_16 SS_16 SG_16 Sg_16 Sh_16
      have HOH := Lib.hid hXb
      clear hXb hb
      have SH_17 : Hid (V.Same w_16.heap.size w_17.heap.size w_17 w_17) := V.Same.refl _ _ _
      go_wp2_with fail
      rw [← hwx]
      clear hwx kS0 kS1
      refine (V.eqGraph r.1 _ _ _ _ _ _ _ _ ((HOh.out.keep Sh_17.out).pls) ((HOs.out.keep Ss_17.out).pls)).mono ?_
      rintro e w_18 ⟨rfl, hb⟩
      have z18 : w_17.heap.size ≤ w_18.heap.size := hb.size
      have HP_18 := Lib.hid (HP_17.out.trans (hb.mono (by omega)))
      have Ss_18 : Hid (V.Same w_2.heap.size w_3.heap.size w_3 w_18) := Ss_17.out.below hb (by omega)
      have SS_18 : Hid (V.Same w_3.heap.size w_4.heap.size w_4 w_18) := SS_17.out.below hb (by omega)
      have SG_18 : Hid (V.Same w_7.heap.size w_8.heap.size w_8 w_18) := SG_17.out.below hb (by omega)
      have Sg_18 : Hid (V.Same w_6.heap.size w_13.heap.size w_13 w_18) := Sg_17.out.below hb (by omega)
      have Sh_18 : Hid (V.Same w_15.heap.size w_16.heap.size w_16 w_18) := Sh_17.out.below hb (by omega)
      have SH_18 : Hid (V.Same w_16.heap.size w_17.heap.size w_17 w_18) := SH_17.out.below hb (by omega)
      clear HP_17 Ss_17 SS_17 SG_17 Sg_17 Sh_17 SH_17
      clear hb
      obtain ⟨kG0, kG1⟩ := gsame HOG.out (SG_18.out w_7.heap.size (by omega) (by omega))
      go_wp2_with fail
      clear kG0 kG1
      refine (V.heldGraph r.1 _ _ _ 1 m _ ((HOg.out.keep Sg_18.out).pls) (by omega) (by omega) (by omega) HM.out).mono ?_
      rintro e w_19 ⟨rfl, hb⟩
      have z19 : w_18.heap.size ≤ w_19.heap.size := hb.size
      have HP_19 := Lib.hid (HP_18.out.trans (hb.mono (by omega)))
      have Ss_19 : Hid (V.Same w_2.heap.size w_3.heap.size w_3 w_19) := Ss_18.out.below hb (by omega)
      have SS_19 : Hid (V.Same w_3.heap.size w_4.heap.size w_4 w_19) := SS_18.out.below hb (by omega)
      have SG_19 : Hid (V.Same w_7.heap.size w_8.heap.size w_8 w_19) := SG_18.out.below hb (by omega)
      have Sg_19 : Hid (V.Same w_6.heap.size w_13.heap.size w_13 w_19) := Sg_18.out.below hb (by omega)
      have Sh_19 : Hid (V.Same w_15.heap.size w_16.heap.size w_16 w_19) := Sh_18.out.below hb (by omega)
      have SH_19 : Hid (V.Same w_16.heap.size w_17.heap.size w_17 w_19) := SH_18.out.below hb (by omega)
      clear HP_18 Ss_18 SS_18 SG_18 Sg_18 Sh_18 SH_18
      clear hb
      go_wp2
      go_ret
      exact ⟨rfl, bt HW.out HP_19.out⟩
end Go.Proofs.Ytkjcnlihmhcakaa.fnExactDropPlace
