/- The walk through the law: it returns true and writes nothing that was there. The function LatenessOf answers as its model, for all arguments, leaves the graph and the run as they were, and its answer owns its memory. -/
import Derived.Test.YtjbffpmelglegaaRows
import Derived.Test.YtjbffpmelglegaaQa1
import Derived.Test.YtjbffpmelglegaaQa2
import Derived.Test.YtjbffpmelglegaaQa16
import Derived.Test.YtjbffpmelglegaaQa3
import Derived.Test.YtjbffpmelglegaaQa85
import Derived.WalkKit
import Derived.ProofKit
import Derived.OpenShut
import Derived.ShutString
import Derived.ChangeOld
import Derived.Below
import Derived.Lib.SmallJoins
import Derived.Lib.Hide
import Derived.WalkSmall
import Derived.Deep.Draws
import Derived.Deep.QuietTactic
import Derived.BigQuiet
import Derived.Deep.OwnRows
import Derived.Deep.RegionWith
import Derived.Deep.RegionHeld3
set_option linter.unusedSimpArgs false
set_option linter.unusedVariables false
set_option linter.unusedSectionVars false
namespace Go.Proofs.Ytjbffpmelglegaa.fnExactLatenessOf
open Go.ChangeShapes Go.WideShapes Go.ChangeAt Go.RowKit
open Go.ChangeMaps (open_string shut_string)
set_option linter.unusedVariables false

theorem keepG {w0 w1 w2 : World} {G X : Nat} {p q r s : Value} (h : w1.cell? ⟨G, 0, none⟩ = some p ∧ w1.cell? ⟨G, 1, none⟩ = some q ∧ w1.cell? ⟨X, 0, none⟩ = some r ∧ w1.cell? ⟨X, 1, none⟩ = some s ∧ Below w0.heap.size w0 w1) (hb : Below w1.heap.size w1 w2) :
    w2.cell? ⟨G, 0, none⟩ = some p ∧ w2.cell? ⟨G, 1, none⟩ = some q ∧ w2.cell? ⟨X, 0, none⟩ = some r ∧ w2.cell? ⟨X, 1, none⟩ = some s ∧ Below w0.heap.size w0 w2 := by
  obtain ⟨h1, h2, h3, h4, h5⟩ := h
  exact ⟨(hb.cell (V.cell_lt h1)).trans h1, (hb.cell (V.cell_lt h2)).trans h2, (hb.cell (V.cell_lt h3)).trans h3, (hb.cell (V.cell_lt h4)).trans h4, h5.trans (hb.mono h5.size)⟩
theorem bt {a b c : World} (h1 : Below a.heap.size a b) (h2 : Below b.heap.size b c) : Below a.heap.size a c := h1.trans (h2.mono h1.size)
theorem gsame {w w' : World} {g : Nat} {x : Int} {a : Option Addr} {n cap : Nat} (h : V.GBox w g x a n cap) (e : w'.heap[g]? = w.heap[g]?) : V.GBox w' g x a n cap :=
  ⟨(World.cell?_of_block (a := ⟨g, 0, none⟩) e).trans h.1, (World.cell?_of_block (a := ⟨g, 1, none⟩) e).trans h.2⟩

set_option maxRecDepth 100000 in
set_option maxHeartbeats 4000000 in
theorem walk (x0 : Int) (a0 : Option Addr) (len0 cap0 : Nat) (l0 : List M.Pc) (a1 : Option Addr) (len1 cap1 : Nat) (l1 : List M.Fr) (w : World) (wx0 : (Lit.int .i64 x0).wf = true) (w0 : V.Pls w a0 len0 l0) (w1 : V.Frs w a1 len1 l1) :
    Calls Try.prog 6 #[.agg #[.int .i64 x0, .slice a0 len0 cap0], .slice a1 len1 cap1] w fun e w' => e = .returned (.bool true) ∧ Below w.heap.size w w' := by
  have HV := Lib.hid w1
  clear w1
  have HA := Lib.hid w0
  have hlm := w0.2.1
  clear w0
  by_cases hbig : 1048576 < len0
  · go_enter Try.func6, Try.ntmps6
    go_wp2_with fail
    refine (V.szGr_f x0 a0 len0 cap0 _ hbig hlm).mono ?_
    rintro e w1 ⟨rfl, hb1⟩
    have HB1 := Lib.hid ((V.b_alloc w (.cells #[.int .i64 x0, .slice a0 len0 cap0] 36)).trans (hb1.mono (by simp)))
    clear hb1
    go_wp2
    go_ret
    exact ⟨rfl, HB1.out⟩
  · have hn : len0 ≤ 1048576 := by omega
    obtain ⟨r, hr⟩ : ∃ r, r = (M.latRes x0 l0 l1) := ⟨_, rfl⟩
    have hok := M.latRes_len x0 l0 l1
    rw [← hr] at hok
    have HR := Lib.hid hr
    clear hr
    have hGb := V.gBox_new w x0 a0 len0 cap0 36
    obtain ⟨w_0, hwb⟩ : ∃ z, z = w.alloc (.cells #[.int .i64 x0, .slice a0 len0 cap0] 36) := ⟨_, rfl⟩
    have HW : Hid (Below w.heap.size w w_0) := by show Below _ _ _; rw [hwb]; exact V.b_alloc w _
    rw [← hwb] at hGb
    have HGb := Lib.hid hGb
    have zb : w.heap.size < w_0.heap.size := V.cell_lt hGb.1
    have HP_0 := Lib.hid (Below.refl w_0.heap.size w_0)
    clear hGb hlm hbig
    go_enter Try.func6, Try.ntmps6
    go_wp2_with fail
    rw [← hwb]
    clear hwb
    refine (V.szGr_t x0 a0 len0 cap0 _ hn).mono ?_
    rintro e w_1 ⟨rfl, hb⟩
    have z1 : w_0.heap.size ≤ w_1.heap.size := hb.size
    have HP_1 := Lib.hid (HP_0.out.trans (hb.mono (by omega)))
    clear HP_0
    clear hb
    have hl0 : ¬ (1048576 - (len0 : Int) < 0) := by omega
    have hlm1 := HV.out.2.1
    by_cases hbig1 : 1048576 - (len0 : Int) < (len1 : Int)
    · go_wp2_with fail
      refine (V.szFr_f a1 len1 cap1 (1048576 - (len0 : Int)) _ hbig1 (by omega) hlm1).mono ?_
      rintro e w' ⟨rfl, rfl⟩
      go_wp2
      go_ret
      exact ⟨rfl, bt HW.out HP_1.out⟩
    have hnF : len1 ≤ 1048576 := by omega
    have hl1 : ¬ (1048576 - (len0 : Int) - (len1 : Int) < 0) := by omega
    go_wp2_with fail
    refine (V.szFr_t a1 len1 cap1 (1048576 - (len0 : Int)) _ (by omega) (by omega)).mono ?_
    rintro e w' ⟨rfl, rfl⟩
    clear hbig1 hlm1
    obtain ⟨g0, g1⟩ := HGb.out.below HP_1.out
    go_wp2_with fail
    clear g0 g1
    refine (V.toGraph x0 a0 len0 cap0 l0 _ (HA.out.below (bt HW.out HP_1.out)) hn).mono ?_
    rintro e w_2 ⟨bc, rfl, ho, hb⟩
    have z2 : w_1.heap.size ≤ w_2.heap.size := hb.size
    have HP_2 := Lib.hid (HP_1.out.trans (hb.mono (by omega)))
    clear HP_1
    have HOc := Lib.hid ho
    clear ho hb
    have Sc_2 : Hid (V.Same w_1.heap.size w_2.heap.size w_2 w_2) := V.Same.refl _ _ _
    go_wp2_with fail
    refine (V.toFirings a1 len1 cap1 l1 _ (HV.out.below (bt HW.out HP_2.out)) hnF).mono ?_
    rintro e w_3 ⟨be, rfl, ho, hb⟩
    have z3 : w_2.heap.size ≤ w_3.heap.size := hb.size
    have HP_3 := Lib.hid (HP_2.out.trans (hb.mono (by omega)))
    have Sc_3 : Hid (V.Same w_1.heap.size w_2.heap.size w_2 w_3) := Sc_2.out.below hb (by omega)
    clear HP_2 Sc_2
    have HOe := Lib.hid ho
    clear ho hb
    have Se_3 : Hid (V.Same w_2.heap.size w_3.heap.size w_3 w_3) := V.Same.refl _ _ _
    go_wp2_with fail
    refine (V.sLatenessOf x0 _ _ _ l0 _ _ _ l1  _ ((HOc.out.keep Sc_3.out).pls) ((HOe.out.keep Se_3.out).frs) (Nat.le_refl _) (by unfold maxLen; omega)).mono ?_
    rintro e w_4 ⟨sa, sn, sc, rfl, ho, hb⟩
    rw [← HR.out] at ho ⊢
    have z4 : w_3.heap.size ≤ w_4.heap.size := hb.size
    have HP_4 := Lib.hid (HP_3.out.trans (hb.mono (by omega)))
    have Sc_4 : Hid (V.Same w_1.heap.size w_2.heap.size w_2 w_4) := Sc_3.out.below hb (by omega)
    have Se_4 : Hid (V.Same w_2.heap.size w_3.heap.size w_3 w_4) := Se_3.out.below hb (by omega)
    clear HP_3 Sc_3 Se_3
    have HOs := Lib.hid ho
    clear ho hb
    have Ss_4 : Hid (V.Same w_3.heap.size w_4.heap.size w_4 w_4) := V.Same.refl _ _ _
    clear Sc_4 HOc Se_4 HOe
    obtain ⟨g0, g1⟩ := HGb.out.below HP_4.out
    go_wp2_with fail
    clear g0 g1
    refine (V.toGraph x0 a0 len0 cap0 l0 _ (HA.out.below (bt HW.out HP_4.out)) hn).mono ?_
    rintro e w_5 ⟨bx, rfl, ho, hb⟩
    have z5 : w_4.heap.size ≤ w_5.heap.size := hb.size
    have HP_5 := Lib.hid (HP_4.out.trans (hb.mono (by omega)))
    have Ss_5 : Hid (V.Same w_3.heap.size w_4.heap.size w_4 w_5) := Ss_4.out.below hb (by omega)
    clear HP_4 Ss_4
    have HOx := Lib.hid ho
    clear ho hb
    have Sx_5 : Hid (V.Same w_4.heap.size w_5.heap.size w_5 w_5) := V.Same.refl _ _ _
    have hXb := V.gBox_new w_5 x0 bx len0 len0 41
    obtain ⟨w_6, hwx⟩ : ∃ z, z = w_5.alloc (.cells #[.int .i64 x0, .slice bx len0 len0] 41) := ⟨_, rfl⟩
    have hb : Below w_5.heap.size w_5 w_6 := by rw [hwx]; exact V.b_alloc w_5 _
    rw [← hwx] at hXb
    have zx : w_5.heap.size < w_6.heap.size := V.cell_lt hXb.1
    have z6 : w_5.heap.size ≤ w_6.heap.size := hb.size
    have HP_6 := Lib.hid (HP_5.out.trans (hb.mono (by omega)))
    have Ss_6 : Hid (V.Same w_3.heap.size w_4.heap.size w_4 w_6) := Ss_5.out.below hb (by omega)
    have Sx_6 : Hid (V.Same w_4.heap.size w_5.heap.size w_5 w_6) := Sx_5.out.below hb (by omega)
    clear HP_5 Ss_5 Sx_5
    have HOX := Lib.hid hXb
    clear hXb hb
    have SX_6 : Hid (V.Same w_5.heap.size w_6.heap.size w_6 w_6) := V.Same.refl _ _ _
    go_wp2_with fail
    rw [← hwx]
    clear hwx
    refine (V.toFirings a1 len1 cap1 l1 _ (HV.out.below (bt HW.out HP_6.out)) hnF).mono ?_
    rintro e w_7 ⟨bv, rfl, ho, hb⟩
    have z7 : w_6.heap.size ≤ w_7.heap.size := hb.size
    have HP_7 := Lib.hid (HP_6.out.trans (hb.mono (by omega)))
    have Ss_7 : Hid (V.Same w_3.heap.size w_4.heap.size w_4 w_7) := Ss_6.out.below hb (by omega)
    have Sx_7 : Hid (V.Same w_4.heap.size w_5.heap.size w_5 w_7) := Sx_6.out.below hb (by omega)
    have SX_7 : Hid (V.Same w_5.heap.size w_6.heap.size w_6 w_7) := SX_6.out.below hb (by omega)
    clear HP_6 Ss_6 Sx_6 SX_6
    have HOv := Lib.hid ho
    clear ho hb
    have Sv_7 : Hid (V.Same w_6.heap.size w_7.heap.size w_7 w_7) := V.Same.refl _ _ _
    obtain ⟨k0, k1⟩ := gsame HOX.out (SX_7.out w_5.heap.size (by omega) (by omega))
    go_wp2_with fail
    refine (V.latenessOf x0 _ _ _ l0 _ _ _ l1  _ ((HOx.out.keep Sx_7.out).pls) ((HOv.out.keep Sv_7.out).frs)).mono ?_
    rintro e w_8 ⟨ga, gn, gc, rfl, ho, hb⟩
    rw [← HR.out] at ho ⊢
    have z8 : w_7.heap.size ≤ w_8.heap.size := hb.size
    have HP_8 := Lib.hid (HP_7.out.trans (hb.mono (by omega)))
    have Ss_8 : Hid (V.Same w_3.heap.size w_4.heap.size w_4 w_8) := Ss_7.out.below hb (by omega)
    have Sx_8 : Hid (V.Same w_4.heap.size w_5.heap.size w_5 w_8) := Sx_7.out.below hb (by omega)
    have SX_8 : Hid (V.Same w_5.heap.size w_6.heap.size w_6 w_8) := SX_7.out.below hb (by omega)
    have Sv_8 : Hid (V.Same w_6.heap.size w_7.heap.size w_7 w_8) := Sv_7.out.below hb (by omega)
    clear HP_7 Ss_7 Sx_7 SX_7 Sv_7
    have HOg := Lib.hid ho
    clear ho hb
    have Sg_8 : Hid (V.Same w_7.heap.size w_8.heap.size w_8 w_8) := V.Same.refl _ _ _
    clear k0 k1
    have hgn : gn ≤ 500 := by have := HOg.out.len; omega
    go_wp2_with fail
    refine (V.eqV _ _ _ _ _ _ _ _ ((HOg.out.keep Sg_8.out).ints') ((HOs.out.keep Ss_8.out).ints')).mono ?_
    rintro e w_9 ⟨rfl, hb⟩
    have z9 : w_8.heap.size ≤ w_9.heap.size := hb.size
    have HP_9 := Lib.hid (HP_8.out.trans (hb.mono (by omega)))
    have Ss_9 : Hid (V.Same w_3.heap.size w_4.heap.size w_4 w_9) := Ss_8.out.below hb (by omega)
    have Sx_9 : Hid (V.Same w_4.heap.size w_5.heap.size w_5 w_9) := Sx_8.out.below hb (by omega)
    have SX_9 : Hid (V.Same w_5.heap.size w_6.heap.size w_6 w_9) := SX_8.out.below hb (by omega)
    have Sv_9 : Hid (V.Same w_6.heap.size w_7.heap.size w_7 w_9) := Sv_8.out.below hb (by omega)
    have Sg_9 : Hid (V.Same w_7.heap.size w_8.heap.size w_8 w_9) := Sg_8.out.below hb (by omega)
    clear HP_8 Ss_8 Sx_8 SX_8 Sv_8 Sg_8
    clear hb
    obtain ⟨g0, g1⟩ := HGb.out.below HP_9.out
    obtain ⟨k0, k1⟩ := gsame HOX.out (SX_9.out w_5.heap.size (by omega) (by omega))
    go_wp2
    go_region_held3 (fun w' => w'.cell? ⟨w.heap.size, 0, none⟩ = some (.int .i64 x0) ∧ w'.cell? ⟨w.heap.size, 1, none⟩ = some (.slice a0 len0 cap0) ∧ w'.cell? ⟨w_5.heap.size, 0, none⟩ = some (.int .i64 x0) ∧ w'.cell? ⟨w_5.heap.size, 1, none⟩ = some (.slice bx len0 len0) ∧ Below w_9.heap.size w_9 w')
      (first | exact ⟨g0, g1, k0, k1, (Below.refl _ _).drew⟩ | exact keepG ‹_ ∧ _ ∧ _ ∧ _ ∧ Below _ _ _› hb)
      (first
        | (go_at_call 25; refine (V.toGraph x0 a0 len0 cap0 l0 _ ?hp hn).mono ?_; (case hp => exact HA.out.below (bt (bt HW.out HP_9.out) (‹_ ∧ _ ∧ _ ∧ _ ∧ Below _ _ _›).2.2.2.2)); rintro e wy ⟨b7, rfl, ho7, hb⟩; have HD := Lib.hid ho7.pls; have HBw := Lib.hid (bt (‹_ ∧ _ ∧ _ ∧ _ ∧ Below _ _ _›).2.2.2.2 hb); clear ho7)
        | (go_at_call 27; refine (V.eqGraph x0 _ _ _ _ _ _ l0 _ ?h1 ?h2).mono ?_; (case h1 => exact ((HOx.out.keep Sx_9.out).pls).below HBw.out); (case h2 => exact HD.out); rintro e w_10 ⟨rfl, hb⟩; have HBz := Lib.hid (bt HBw.out hb)))
    all_goals
      have z10 : w_9.heap.size ≤ w_10.heap.size := HBz.out.size
      have HP_10 := Lib.hid (HP_9.out.trans (HBz.out.mono (by omega)))
      have Ss_10 : Hid (V.Same w_3.heap.size w_4.heap.size w_4 w_10) := Ss_9.out.below HBz.out (by omega)
      have Sx_10 : Hid (V.Same w_4.heap.size w_5.heap.size w_5 w_10) := Sx_9.out.below HBz.out (by omega)
      have SX_10 : Hid (V.Same w_5.heap.size w_6.heap.size w_6 w_10) := SX_9.out.below HBz.out (by omega)
      have Sv_10 : Hid (V.Same w_6.heap.size w_7.heap.size w_7 w_10) := Sv_9.out.below HBz.out (by omega)
      have Sg_10 : Hid (V.Same w_7.heap.size w_8.heap.size w_8 w_10) := Sg_9.out.below HBz.out (by omega)
      clear HP_9 Ss_9 Sx_9 SX_9 Sv_9 Sg_9
      clear g0 g1 k0 k1
      go_wp2_with fail
      refine (V.toFirings a1 len1 cap1 l1 _ (HV.out.below (bt HW.out HP_10.out)) hnF).mono ?_
      rintro e w_11 ⟨bf, rfl, ho, hb⟩
      have z11 : w_10.heap.size ≤ w_11.heap.size := hb.size
      have HP_11 := Lib.hid (HP_10.out.trans (hb.mono (by omega)))
      have Ss_11 : Hid (V.Same w_3.heap.size w_4.heap.size w_4 w_11) := Ss_10.out.below hb (by omega)
      have Sx_11 : Hid (V.Same w_4.heap.size w_5.heap.size w_5 w_11) := Sx_10.out.below hb (by omega)
      have SX_11 : Hid (V.Same w_5.heap.size w_6.heap.size w_6 w_11) := SX_10.out.below hb (by omega)
      have Sv_11 : Hid (V.Same w_6.heap.size w_7.heap.size w_7 w_11) := Sv_10.out.below hb (by omega)
      have Sg_11 : Hid (V.Same w_7.heap.size w_8.heap.size w_8 w_11) := Sg_10.out.below hb (by omega)
      clear HP_10 Ss_10 Sx_10 SX_10 Sv_10 Sg_10
      have HOf := Lib.hid ho
      clear ho hb
      have Sf_11 : Hid (V.Same w_10.heap.size w_11.heap.size w_11 w_11) := V.Same.refl _ _ _
      go_wp2_with fail
      refine (V.eqFirings _ _ _ _ _ _ l1 _ ((HOv.out.keep Sv_11.out).frs) ((HOf.out.keep Sf_11.out).frs)).mono ?_
      rintro e w_12 ⟨rfl, hb⟩
      have z12 : w_11.heap.size ≤ w_12.heap.size := hb.size
      have HP_12 := Lib.hid (HP_11.out.trans (hb.mono (by omega)))
      have Ss_12 : Hid (V.Same w_3.heap.size w_4.heap.size w_4 w_12) := Ss_11.out.below hb (by omega)
      have Sx_12 : Hid (V.Same w_4.heap.size w_5.heap.size w_5 w_12) := Sx_11.out.below hb (by omega)
      have SX_12 : Hid (V.Same w_5.heap.size w_6.heap.size w_6 w_12) := SX_11.out.below hb (by omega)
      have Sv_12 : Hid (V.Same w_6.heap.size w_7.heap.size w_7 w_12) := Sv_11.out.below hb (by omega)
      have Sg_12 : Hid (V.Same w_7.heap.size w_8.heap.size w_8 w_12) := Sg_11.out.below hb (by omega)
      have Sf_12 : Hid (V.Same w_10.heap.size w_11.heap.size w_11 w_12) := Sf_11.out.below hb (by omega)
      clear HP_11 Ss_11 Sx_11 SX_11 Sv_11 Sg_11 Sf_11
      clear hb
      clear Sf_12 HOf
      obtain ⟨k0, k1⟩ := gsame HOX.out (SX_12.out w_5.heap.size (by omega) (by omega))
      go_wp2_with fail
      refine (V.markGraph x0 _ _ _ w_4.heap.size l0 1 w_5 w_12 HOx.out Sx_12.out (by omega) hn (by omega) (by omega)).mono ?_
      rintro e w_13 ⟨y, rfl, hy, HY, ho, hk, hsz, hBl⟩
      have hBl := hBl (by omega)
      have z13 := hsz
      have HP_13 := Lib.hid (HP_12.out.trans (hBl.mono (by omega)))
      have Ss_13 : Hid (V.Same w_3.heap.size w_4.heap.size w_4 w_13) := fun k q1 q2 => (hk k (by omega) (by omega)).trans (Ss_12.out k q1 q2)
      have SX_13 : Hid (V.Same w_5.heap.size w_6.heap.size w_6 w_13) := fun k q1 q2 => (hk k (by omega) (by omega)).trans (SX_12.out k q1 q2)
      have Sv_13 : Hid (V.Same w_6.heap.size w_7.heap.size w_7 w_13) := fun k q1 q2 => (hk k (by omega) (by omega)).trans (Sv_12.out k q1 q2)
      have Sg_13 : Hid (V.Same w_7.heap.size w_8.heap.size w_8 w_13) := fun k q1 q2 => (hk k (by omega) (by omega)).trans (Sg_12.out k q1 q2)
      clear HP_12 hk hsz hBl ho HOx k0 k1 Ss_12 Sx_12 SX_12 Sv_12 Sg_12
      clear SX_13 HOX
      have hyb : y ≤ 20000000 := by have := HY.out; omega
      go_wp2_with fail
      refine (V.markFirings _ _ _ w_6.heap.size l1 _ w_7 _ HOv.out Sv_13.out hnF (by omega) (by omega)).mono ?_
      rintro e w_14 ⟨y2, rfl, hy2, HY2, ho, hc⟩
      have z14 : w_13.heap.size ≤ w_14.heap.size := Nat.le_of_eq hc.size.symm
      have HP_14 := Lib.hid (HP_13.out.trans (hc.below (fun k hk => Nat.le_trans (by omega) hk.1)))
      have Ss_14 := Lib.hid (Ss_13.out.chg hc (fun k h1 h2 h3 => by omega))
      have Sg_14 := Lib.hid (Sg_13.out.chg hc (fun k h1 h2 h3 => by omega))
      clear HP_13 HOv ho hc HY2 Ss_13 Sv_13 Sg_13
      go_wp2_with fail
      refine (V.eqV _ _ _ _ _ _ _ _ ((HOg.out.keep Sg_14.out).ints') ((HOs.out.keep Ss_14.out).ints')).mono ?_
      rintro e w_15 ⟨rfl, hb⟩
      have z15 : w_14.heap.size ≤ w_15.heap.size := hb.size
      have HP_15 := Lib.hid (HP_14.out.trans (hb.mono (by omega)))
      have Ss_15 : Hid (V.Same w_3.heap.size w_4.heap.size w_4 w_15) := Ss_14.out.below hb (by omega)
      have Sg_15 : Hid (V.Same w_7.heap.size w_8.heap.size w_8 w_15) := Sg_14.out.below hb (by omega)
      clear HP_14 Ss_14 Sg_14
      clear hb
      go_wp2_with fail
      refine (V.markV _ _ _ _ r.1 _ w_8 _ HOg.out Sg_15.out (by omega) (by omega) (by omega)).mono ?_
      rintro e w_16 ⟨m, rfl, hm, HM, ho, hc⟩
      have z16 : w_15.heap.size ≤ w_16.heap.size := Nat.le_of_eq hc.size.symm
      have HP_16 := Lib.hid (HP_15.out.trans (hc.below (fun k hk => Nat.le_trans (by omega) hk.1)))
      have Ss_16 := Lib.hid (Ss_15.out.chg hc (fun k h1 h2 h3 => by omega))
      have HOm := Lib.hid ho
      clear HP_15 HOg ho hc Ss_15 Sg_15
      have HOg := HOm
      clear HOm
      have Sg_16 : Hid (V.Same w_7.heap.size w_16.heap.size w_16 w_16) := V.Same.refl _ _ _
      have hmb : m ≤ 3000 := by have := HM.out; omega
      go_wp2_with fail
      refine (V.heldV _ _ _ _ m _ ((HOg.out.keep Sg_16.out).ints') (by omega) (by omega) (by omega) HM.out).mono ?_
      rintro e w' ⟨rfl, rfl⟩
      obtain ⟨g0, g1⟩ := HGb.out.below HP_16.out
      go_wp2_with fail
      clear g0 g1
      refine (V.toGraph x0 a0 len0 cap0 l0 _ (HA.out.below (bt HW.out HP_16.out)) hn).mono ?_
      rintro e w_17 ⟨bc, rfl, ho, hb⟩
      have z17 : w_16.heap.size ≤ w_17.heap.size := hb.size
      have HP_17 := Lib.hid (HP_16.out.trans (hb.mono (by omega)))
      have Ss_17 : Hid (V.Same w_3.heap.size w_4.heap.size w_4 w_17) := Ss_16.out.below hb (by omega)
      have Sg_17 : Hid (V.Same w_7.heap.size w_16.heap.size w_16 w_17) := Sg_16.out.below hb (by omega)
      clear HP_16 Ss_16 Sg_16
      have HOc := Lib.hid ho
      clear ho hb
      have Sc_17 : Hid (V.Same w_16.heap.size w_17.heap.size w_17 w_17) := V.Same.refl _ _ _
      go_wp2_with fail
      refine (V.toFirings a1 len1 cap1 l1 _ (HV.out.below (bt HW.out HP_17.out)) hnF).mono ?_
      rintro e w_18 ⟨be, rfl, ho, hb⟩
      have z18 : w_17.heap.size ≤ w_18.heap.size := hb.size
      have HP_18 := Lib.hid (HP_17.out.trans (hb.mono (by omega)))
      have Ss_18 : Hid (V.Same w_3.heap.size w_4.heap.size w_4 w_18) := Ss_17.out.below hb (by omega)
      have Sg_18 : Hid (V.Same w_7.heap.size w_16.heap.size w_16 w_18) := Sg_17.out.below hb (by omega)
      have Sc_18 : Hid (V.Same w_16.heap.size w_17.heap.size w_17 w_18) := Sc_17.out.below hb (by omega)
      clear HP_17 Ss_17 Sg_17 Sc_17
      have HOe := Lib.hid ho
      clear ho hb
      have Se_18 : Hid (V.Same w_17.heap.size w_18.heap.size w_18 w_18) := V.Same.refl _ _ _
      go_wp2_with fail
      refine (V.latenessOf x0 _ _ _ l0 _ _ _ l1  _ ((HOc.out.keep Sc_18.out).pls) ((HOe.out.keep Se_18.out).frs)).mono ?_
      rintro e w_19 ⟨ha, hn, hc, rfl, ho, hb⟩
      rw [← HR.out] at ho ⊢
      have z19 : w_18.heap.size ≤ w_19.heap.size := hb.size
      have HP_19 := Lib.hid (HP_18.out.trans (hb.mono (by omega)))
      have Ss_19 : Hid (V.Same w_3.heap.size w_4.heap.size w_4 w_19) := Ss_18.out.below hb (by omega)
      have Sg_19 : Hid (V.Same w_7.heap.size w_16.heap.size w_16 w_19) := Sg_18.out.below hb (by omega)
      have Sc_19 : Hid (V.Same w_16.heap.size w_17.heap.size w_17 w_19) := Sc_18.out.below hb (by omega)
      have Se_19 : Hid (V.Same w_17.heap.size w_18.heap.size w_18 w_19) := Se_18.out.below hb (by omega)
      clear HP_18 Ss_18 Sg_18 Sc_18 Se_18
      have HOh := Lib.hid ho
      clear ho hb
      have Sh_19 : Hid (V.Same w_18.heap.size w_19.heap.size w_19 w_19) := V.Same.refl _ _ _
      clear Sc_19 HOc Se_19 HOe
      go_wp2_with fail
      refine (V.eqV _ _ _ _ _ _ _ _ ((HOh.out.keep Sh_19.out).ints') ((HOs.out.keep Ss_19.out).ints')).mono ?_
      rintro e w_20 ⟨rfl, hb⟩
      have z20 : w_19.heap.size ≤ w_20.heap.size := hb.size
      have HP_20 := Lib.hid (HP_19.out.trans (hb.mono (by omega)))
      have Ss_20 : Hid (V.Same w_3.heap.size w_4.heap.size w_4 w_20) := Ss_19.out.below hb (by omega)
      have Sg_20 : Hid (V.Same w_7.heap.size w_16.heap.size w_16 w_20) := Sg_19.out.below hb (by omega)
      have Sh_20 : Hid (V.Same w_18.heap.size w_19.heap.size w_19 w_20) := Sh_19.out.below hb (by omega)
      clear HP_19 Ss_19 Sg_19 Sh_19
      clear hb
      go_wp2_with fail
      refine (V.heldV _ _ _ _ m _ ((HOg.out.keep Sg_20.out).ints') (by omega) (by omega) (by omega) HM.out).mono ?_
      rintro e w' ⟨rfl, rfl⟩
      go_wp2
      go_ret
      exact ⟨rfl, bt HW.out HP_20.out⟩
end Go.Proofs.Ytjbffpmelglegaa.fnExactLatenessOf
