/- The walk through the law: it returns true and writes nothing that was there. For every code: EigenVector, IsEigenVector, IsSubEigen and StretchMatrix answer as their models, an eigenvector is a subeigenvector, the one that is told is one, and so it is when it is shifted. -/
import Derived.Test.YtcofjjipjcekjaaGreatRows
import Derived.Test.YtcofjjipjcekjaaGreatQy1
import Derived.Test.YtcofjjipjcekjaaGreatQy2
import Derived.Test.YtcofjjipjcekjaaGreatQy11
import Derived.Test.YtcofjjipjcekjaaGreatQy12
import Derived.Test.YtcofjjipjcekjaaGreatQy14
import Derived.Test.YtcofjjipjcekjaaGreatQy15
import Derived.Test.YtcofjjipjcekjaaGreatQy16
import Derived.WalkKit
import Derived.ProofKit
import Derived.OpenShut
import Derived.ShutString
import Derived.ChangeOld
import Derived.Below
import Derived.Lib.SmallJoins
import Derived.Lib.Hide
import Derived.WalkSmall
import Derived.Deep.Draws
import Derived.Deep.QuietTactic
import Derived.BigQuiet
import Derived.Deep.OwnRows
import Derived.Deep.RegionWith
import Derived.Deep.RegionHeld3
set_option linter.unusedSimpArgs false
set_option linter.unusedVariables false
set_option linter.unusedSectionVars false
namespace Go.Proofs.YtcofjjipjcekjaaGreat.fnEigenvectors
open Go.ChangeShapes Go.WideShapes Go.ChangeAt Go.RowKit
open Go.ChangeMaps (open_string shut_string)
set_option linter.unusedVariables false

theorem keepS {w0 w1 w2 : World} {p q r s t u : Addr} {x1 x2 x3 x4 x5 x6 : Value} (h : w1.cell? p = some x1 ∧ w1.cell? q = some x2 ∧ w1.cell? r = some x3 ∧ w1.cell? s = some x4 ∧ w1.cell? t = some x5 ∧ w1.cell? u = some x6 ∧ Below w0.heap.size w0 w1) (hp : p.block < w0.heap.size) (hq : q.block < w0.heap.size) (hr : r.block < w0.heap.size) (hs : s.block < w0.heap.size) (ht : t.block < w0.heap.size) (hu : u.block < w0.heap.size) (hb : Below w1.heap.size w1 w2) :
    w2.cell? p = some x1 ∧ w2.cell? q = some x2 ∧ w2.cell? r = some x3 ∧ w2.cell? s = some x4 ∧ w2.cell? t = some x5 ∧ w2.cell? u = some x6 ∧ Below w0.heap.size w0 w2 := by
  obtain ⟨h1, h2, h3, h4, h5, h6, h7⟩ := h
  have hz := h7.size
  exact ⟨(hb.cell (by omega)).trans h1, (hb.cell (by omega)).trans h2, (hb.cell (by omega)).trans h3, (hb.cell (by omega)).trans h4, (hb.cell (by omega)).trans h5, (hb.cell (by omega)).trans h6, h7.trans (hb.mono hz)⟩

set_option maxRecDepth 100000 in
set_option maxHeartbeats 4000000 in
theorem walk (a0 : Option Addr) (len0 cap0 : Nat) (z0 : List Int) (w : World) (w0 : V.IsRow .u8 w a0 len0 cap0 z0) :
    Calls Tryz.prog 3 #[.slice a0 len0 cap0] w fun e w' => e = .returned (.bool true) ∧ Below w.heap.size w w' := by
  have hB := w0.bytes
  have hm := hB.1
  by_cases hbig : 4096 < len0
  · have hd : decide (4096 < len0) = true := by simpa using hbig
    clear hB w0
    go_enter Tryz.func3, Tryz.ntmps3
    go_wp2_with (first | (go_at_call 4; refine (V.big _ _ _ _ hm).mono ?_; rintro e w' ⟨rfl, rfl⟩))
    go_ret
    exact ⟨rfl, Below.refl _ _⟩
  · have hd : decide (4096 < len0) = false := by simpa using hbig
    clear w0
    have HB := Lib.hid hB
    clear hB
    go_enter Tryz.func3, Tryz.ntmps3
    go_wp2_with (go_at_call 4; refine (V.big _ _ _ _ hm).mono ?_; rintro e w' ⟨rfl, rfl⟩)
    refine (V.drawEigenVector _ _ _ _ HB.out).mono ?_
    rintro e w1 ⟨a, n, cap, R, rfl, hA, hb⟩
    have HA_1 := Lib.hid hA
    have HP_1 := Lib.hid hb
    clear hb hA
    obtain ⟨ev, hev⟩ : ∃ v, v = M.eigRes R := ⟨_, rfl⟩
    have HEV := Lib.hid hev
    have hlaw := M.eig_law (R := R)
    rw [← hev] at hlaw
    have HLaw := Lib.hid hlaw
    clear hev hlaw
    obtain ⟨x, ⟨e1, e2⟩, d⟩ := ev
    go_wp2_with fail
    refine (V.eigenVector _ _ _ R _ HA_1.out).mono ?_
    rintro e w2 ⟨xa, xn, xc, rfl, ho, hb⟩
    rw [← HEV.out] at ho ⊢
    have HX_2 := Lib.hid (ho.ints')
    have HA_2 := Lib.hid (HA_1.out.below hb)
    have HP_2 := Lib.hid (V.bnext HP_1.out hb)
    clear HA_1 HP_1
    clear hb ho
    obtain ⟨w3, hw3⟩ : ∃ z, z = w2.alloc (V.rbox e1 e2) := ⟨_, rfl⟩
    have HXr : Hid (V.Boxed w2 w3 e1 e2) := by show V.Boxed _ _ _ _; rw [hw3]; exact V.boxed _ _ _
    have HA_3 := Lib.hid (HA_2.out.below HXr.out.below)
    have HX_3 := Lib.hid (HX_2.out.below HXr.out.below)
    have HP_3 := Lib.hid (V.bnext HP_2.out HXr.out.below)
    clear HA_2 HX_2 HP_2
    have Hbr_3 : Hid (Below w3.heap.size w3 w3) := Below.refl _ _
    go_wp2_with fail
    change Calls _ _ _ (w2.alloc (V.rbox e1 e2)) _
    rw [← hw3]
    clear hw3
    refine (V.sEigenVector _ _ _ R _ HA_3.out).mono ?_
    rintro e w4 ⟨ma, mn, mc, rfl, ho, hb⟩
    rw [← HEV.out] at ho ⊢
    have HM_4 := Lib.hid (ho.ints')
    have HA_4 := Lib.hid (HA_3.out.below hb)
    have HX_4 := Lib.hid (HX_3.out.below hb)
    have Hbr_4 := Lib.hid (V.thn Hbr_3.out hb)
    have HP_4 := Lib.hid (V.bnext HP_3.out hb)
    clear HA_3 HX_3 Hbr_3 HP_3
    clear hb ho
    obtain ⟨w5, hw5⟩ : ∃ z, z = w4.alloc (V.rbox e1 e2) := ⟨_, rfl⟩
    have HXm : Hid (V.Boxed w4 w5 e1 e2) := by show V.Boxed _ _ _ _; rw [hw5]; exact V.boxed _ _ _
    have HA_5 := Lib.hid (HA_4.out.below HXm.out.below)
    have HX_5 := Lib.hid (HX_4.out.below HXm.out.below)
    have Hbr_5 := Lib.hid (V.thn Hbr_4.out HXm.out.below)
    have HM_5 := Lib.hid (HM_4.out.below HXm.out.below)
    have HP_5 := Lib.hid (V.bnext HP_4.out HXm.out.below)
    clear HA_4 HX_4 Hbr_4 HM_4 HP_4
    have Hbm_5 : Hid (Below w5.heap.size w5 w5) := Below.refl _ _
    go_wp2_with fail
    change Calls _ _ _ (w4.alloc (V.rbox e1 e2)) _
    rw [← hw5]
    clear hw5
    refine (V.drawIsEigenVector _ _ _ _ (HB.out.below HP_5.out)).mono ?_
    rintro e w6 ⟨ba, bn, bc, Rb, q1, q2, ya, yn, yc, y, rfl, hA, hX, hb⟩
    have HBm_6 := Lib.hid (hA)
    have HY_6 := Lib.hid (hX)
    have HA_6 := Lib.hid (HA_5.out.below hb)
    have HX_6 := Lib.hid (HX_5.out.below hb)
    have Hbr_6 := Lib.hid (V.thn Hbr_5.out hb)
    have HM_6 := Lib.hid (HM_5.out.below hb)
    have Hbm_6 := Lib.hid (V.thn Hbm_5.out hb)
    have HP_6 := Lib.hid (V.bnext HP_5.out hb)
    clear HA_5 HX_5 Hbr_5 HM_5 Hbm_5 HP_5
    clear hb hA hX
    obtain ⟨w7, hw7⟩ : ∃ z, z = w6.alloc (V.rbox q1 q2) := ⟨_, rfl⟩
    have HXq : Hid (V.Boxed w6 w7 q1 q2) := by show V.Boxed _ _ _ _; rw [hw7]; exact V.boxed _ _ _
    have HA_7 := Lib.hid (HA_6.out.below HXq.out.below)
    have HX_7 := Lib.hid (HX_6.out.below HXq.out.below)
    have Hbr_7 := Lib.hid (V.thn Hbr_6.out HXq.out.below)
    have HM_7 := Lib.hid (HM_6.out.below HXq.out.below)
    have Hbm_7 := Lib.hid (V.thn Hbm_6.out HXq.out.below)
    have HBm_7 := Lib.hid (HBm_6.out.below HXq.out.below)
    have HY_7 := Lib.hid (HY_6.out.below HXq.out.below)
    have HP_7 := Lib.hid (V.bnext HP_6.out HXq.out.below)
    clear HA_6 HX_6 Hbr_6 HM_6 Hbm_6 HBm_6 HY_6 HP_6
    have Hbq_7 : Hid (Below w7.heap.size w7 w7) := Below.refl _ _
    go_wp2_with fail
    change Calls _ _ _ (w6.alloc (V.rbox q1 q2)) _
    rw [← hw7]
    clear hw7
    refine (V.drawStretchMatrix _ _ _ _ (HB.out.below HP_7.out)).mono ?_
    rintro e w8 ⟨ca, cn, cc, Rc, k, rfl, hA, hb⟩
    have HC_8 := Lib.hid (hA)
    have HA_8 := Lib.hid (HA_7.out.below hb)
    have HX_8 := Lib.hid (HX_7.out.below hb)
    have Hbr_8 := Lib.hid (V.thn Hbr_7.out hb)
    have HM_8 := Lib.hid (HM_7.out.below hb)
    have Hbm_8 := Lib.hid (V.thn Hbm_7.out hb)
    have HBm_8 := Lib.hid (HBm_7.out.below hb)
    have HY_8 := Lib.hid (HY_7.out.below hb)
    have Hbq_8 := Lib.hid (V.thn Hbq_7.out hb)
    have HP_8 := Lib.hid (V.bnext HP_7.out hb)
    clear HA_7 HX_7 Hbr_7 HM_7 Hbm_7 HBm_7 HY_7 Hbq_7 HP_7
    clear hb hA
    obtain ⟨sv, hsv⟩ : ∃ v, v = M.strRes Rc k := ⟨_, rfl⟩
    have HSV := Lib.hid hsv
    clear hsv
    obtain ⟨S, sc⟩ := sv
    go_wp2_with fail
    refine (V.stretchMatrix _ _ _ Rc k _ HC_8.out).mono ?_
    rintro e w9 ⟨sa, sn, scap, rfl, ho, hb⟩
    rw [← HSV.out] at ho ⊢
    have HS_9 := Lib.hid (ho.mat)
    have HA_9 := Lib.hid (HA_8.out.below hb)
    have HX_9 := Lib.hid (HX_8.out.below hb)
    have Hbr_9 := Lib.hid (V.thn Hbr_8.out hb)
    have HM_9 := Lib.hid (HM_8.out.below hb)
    have Hbm_9 := Lib.hid (V.thn Hbm_8.out hb)
    have HBm_9 := Lib.hid (HBm_8.out.below hb)
    have HY_9 := Lib.hid (HY_8.out.below hb)
    have Hbq_9 := Lib.hid (V.thn Hbq_8.out hb)
    have HC_9 := Lib.hid (HC_8.out.below hb)
    have HP_9 := Lib.hid (V.bnext HP_8.out hb)
    clear HA_8 HX_8 Hbr_8 HM_8 Hbm_8 HBm_8 HY_8 Hbq_8 HC_8 HP_8
    clear hb ho
    go_wp2_with fail
    refine (V.sStretchMatrix _ _ _ Rc k _ HC_9.out).mono ?_
    rintro e w10 ⟨ta, tn, tcap, rfl, ho, hb⟩
    rw [← HSV.out] at ho ⊢
    have HT_10 := Lib.hid (ho.mat)
    have HA_10 := Lib.hid (HA_9.out.below hb)
    have HX_10 := Lib.hid (HX_9.out.below hb)
    have Hbr_10 := Lib.hid (V.thn Hbr_9.out hb)
    have HM_10 := Lib.hid (HM_9.out.below hb)
    have Hbm_10 := Lib.hid (V.thn Hbm_9.out hb)
    have HBm_10 := Lib.hid (HBm_9.out.below hb)
    have HY_10 := Lib.hid (HY_9.out.below hb)
    have Hbq_10 := Lib.hid (V.thn Hbq_9.out hb)
    have HC_10 := Lib.hid (HC_9.out.below hb)
    have HS_10 := Lib.hid (HS_9.out.below hb)
    have HP_10 := Lib.hid (V.bnext HP_9.out hb)
    clear HA_9 HX_9 Hbr_9 HM_9 Hbm_9 HBm_9 HY_9 Hbq_9 HC_9 HS_9 HP_9
    clear hb ho
    clear HC_10
    obtain ⟨cr0, cr1⟩ := HXr.out.cells Hbr_10.out
    obtain ⟨cm0, cm1⟩ := HXm.out.cells Hbm_10.out
    obtain ⟨cq0, cq1⟩ := HXq.out.cells Hbq_10.out
    have lrr : w2.heap.size < w10.heap.size := by have := HXr.out.size; have := Hbr_10.out.size; omega
    have lmm : w4.heap.size < w10.heap.size := by have := HXm.out.size; have := Hbm_10.out.size; omega
    have lqq : w6.heap.size < w10.heap.size := by have := HXq.out.size; have := Hbq_10.out.size; omega
    obtain ⟨iv, hiv⟩ : ∃ b, b = M.eigB Rb q1 q2 y := ⟨_, rfl⟩
    obtain ⟨jv, hjv⟩ : ∃ b, b = M.subB Rb q1 q2 y := ⟨_, rfl⟩
    have hsub : iv = true → jv = true := fun h => by rw [hjv]; exact M.eig_sub (hiv.symm.trans h)
    have HIv := Lib.hid hiv.symm
    have HJv := Lib.hid hjv.symm
    have HSub := Lib.hid hsub
    clear hiv hjv hsub
    go_wp2
    go_region_held3 (fun w' => w'.cell? ⟨w2.heap.size, 0, none⟩ = some (.int .i64 e1) ∧ w'.cell? ⟨w2.heap.size, 1, none⟩ = some (.int .i64 e2) ∧ w'.cell? ⟨w4.heap.size, 0, none⟩ = some (.int .i64 e1) ∧ w'.cell? ⟨w4.heap.size, 1, none⟩ = some (.int .i64 e2) ∧ w'.cell? ⟨w6.heap.size, 0, none⟩ = some (.int .i64 q1) ∧ w'.cell? ⟨w6.heap.size, 1, none⟩ = some (.int .i64 q2) ∧ Below w10.heap.size w10 w')
      (first | exact ⟨cr0, cr1, cm0, cm1, cq0, cq1, (Below.refl _ _).drew⟩ | exact keepS ‹_ ∧ _ ∧ _ ∧ _ ∧ _ ∧ _ ∧ Below _ _ _› lrr lrr lmm lmm lqq lqq hb)
      (first
    | (go_at_call 13; refine (V.isEigenVector _ _ _ Rb q1 q2 _ _ _ y _ ?hm ?hi).mono ?_; (case hm => exact HBm_10.out.below (‹_ ∧ _ ∧ _ ∧ _ ∧ _ ∧ _ ∧ Below _ _ _›).2.2.2.2.2.2); (case hi => exact HY_10.out.below (‹_ ∧ _ ∧ _ ∧ _ ∧ _ ∧ _ ∧ Below _ _ _›).2.2.2.2.2.2); rintro e wy ⟨rfl, hb⟩; rw [HIv.out])
    | (go_at_call 14; refine (V.sIsEigenVector _ _ _ Rb q1 q2 _ _ _ y _ ?hm ?hi).mono ?_; (case hm => exact HBm_10.out.below (‹_ ∧ _ ∧ _ ∧ _ ∧ _ ∧ _ ∧ Below _ _ _›).2.2.2.2.2.2); (case hi => exact HY_10.out.below (‹_ ∧ _ ∧ _ ∧ _ ∧ _ ∧ _ ∧ Below _ _ _›).2.2.2.2.2.2); rintro e wy ⟨rfl, hb⟩; rw [HIv.out])
    | (go_at_call 15; refine (V.isSubEigen _ _ _ Rb q1 q2 _ _ _ y _ ?hm ?hi).mono ?_; (case hm => exact HBm_10.out.below (‹_ ∧ _ ∧ _ ∧ _ ∧ _ ∧ _ ∧ Below _ _ _›).2.2.2.2.2.2); (case hi => exact HY_10.out.below (‹_ ∧ _ ∧ _ ∧ _ ∧ _ ∧ _ ∧ Below _ _ _›).2.2.2.2.2.2); rintro e wy ⟨rfl, hb⟩; rw [HJv.out])
    | (go_at_call 16; refine (V.sIsSubEigen _ _ _ Rb q1 q2 _ _ _ y _ ?hm ?hi).mono ?_; (case hm => exact HBm_10.out.below (‹_ ∧ _ ∧ _ ∧ _ ∧ _ ∧ _ ∧ Below _ _ _›).2.2.2.2.2.2); (case hi => exact HY_10.out.below (‹_ ∧ _ ∧ _ ∧ _ ∧ _ ∧ _ ∧ Below _ _ _›).2.2.2.2.2.2); rintro e wy ⟨rfl, hb⟩; rw [HJv.out])
    | (go_at_call 17; refine (V.likeM _ _ _ S _ _ _ _ ?h1 ?h2).mono ?_; (case h1 => exact HS_10.out.below (‹_ ∧ _ ∧ _ ∧ _ ∧ _ ∧ _ ∧ Below _ _ _›).2.2.2.2.2.2); (case h2 => exact HT_10.out.below (‹_ ∧ _ ∧ _ ∧ _ ∧ _ ∧ _ ∧ Below _ _ _›).2.2.2.2.2.2); rintro e wz ⟨rfl, hb⟩)
    | (go_at_call 12; refine (V.likeV _ _ _ x _ _ _ _ ?h1 ?h2).mono ?_; (case h1 => exact HX_10.out.below (‹_ ∧ _ ∧ _ ∧ _ ∧ _ ∧ _ ∧ Below _ _ _›).2.2.2.2.2.2); (case h2 => exact HM_10.out.below (‹_ ∧ _ ∧ _ ∧ _ ∧ _ ∧ _ ∧ Below _ _ _›).2.2.2.2.2.2); rintro e wz ⟨rfl, hb⟩))
    all_goals
      have hS : Below w10.heap.size w10 wz := (‹_ ∧ _ ∧ _ ∧ _ ∧ _ ∧ _ ∧ Below _ _ wz›).2.2.2.2.2.2
      obtain ⟨w11, rfl⟩ : ∃ z, z = wz := ⟨_, rfl⟩
      clear HM_10 Hbm_10 HS_10 HT_10
      have HA_11 := Lib.hid (HA_10.out.below hS)
      have HX_11 := Lib.hid (HX_10.out.below hS)
      have Hbr_11 := Lib.hid (V.thn Hbr_10.out hS)
      have HBm_11 := Lib.hid (HBm_10.out.below hS)
      have HY_11 := Lib.hid (HY_10.out.below hS)
      have Hbq_11 := Lib.hid (V.thn Hbq_10.out hS)
      have HP_11 := Lib.hid (V.bnext HP_10.out hS)
      clear HA_10 HX_10 Hbr_10 HBm_10 HY_10 Hbq_10 HP_10
      clear hS
      obtain ⟨cq0, cq1⟩ := HXq.out.cells Hbq_11.out
      have lqq : w6.heap.size < w11.heap.size := by have := HXq.out.size; have := Hbq_11.out.size; omega
      go_wp2_with fail
      refine (V.isEigenVector _ _ _ Rb q1 q2 _ _ _ y _ HBm_11.out HY_11.out).mono ?_
      rintro e w12 ⟨rfl, hb⟩
      clear cq0 cq1 lqq
      rw [HIv.out]
      have HA_12 := Lib.hid (HA_11.out.below hb)
      have HX_12 := Lib.hid (HX_11.out.below hb)
      have Hbr_12 := Lib.hid (V.thn Hbr_11.out hb)
      have HBm_12 := Lib.hid (HBm_11.out.below hb)
      have HY_12 := Lib.hid (HY_11.out.below hb)
      have Hbq_12 := Lib.hid (V.thn Hbq_11.out hb)
      have HP_12 := Lib.hid (V.bnext HP_11.out hb)
      clear HA_11 HX_11 Hbr_11 HBm_11 HY_11 Hbq_11 HP_11
      clear hb 
      cases iv with
      | false =>
        clear HBm_12 HY_12 Hbq_12
        by_cases hd0 : d = 0
        · subst hd0
          obtain ⟨hself, hshift⟩ := HLaw.out (by first | rfl | trivial)
          have HSelf := Lib.hid hself
          have HShift := Lib.hid hshift
          clear hself hshift
          go_wp2_with fail
          refine (V.roll _ _ _ _ _ (HB.out.below HP_12.out)).mono ?_
          rintro e wd ⟨rfl, hdi, hbd⟩
          have HD := Lib.hid hdi
          have HBd := Lib.hid hbd
          clear hdi hbd
          go_wp2_with fail
          refine (V.below_ _ 50 _ HD.out (by omega) (by omega)).mono ?_
          rintro e w13 ⟨u, rfl, hu1, hu2, -, ht⟩
          have hb : Below w12.heap.size w12 w13 := HBd.out.trans ht.below
          have HA_13 := Lib.hid (HA_12.out.below hb)
          have HX_13 := Lib.hid (HX_12.out.below hb)
          have Hbr_13 := Lib.hid (V.thn Hbr_12.out hb)
          have HP_13 := Lib.hid (V.bnext HP_12.out hb)
          clear HA_12 HX_12 Hbr_12 HP_12
          clear hb ht
          obtain ⟨zv, hzv⟩ : ∃ v, v = M.shvRes x (u - 25) := ⟨_, rfl⟩
          have hsh := HShift.out (u - 25) (by omega) (by omega)
          have hsh : (M.shvRes x (u - 25)).2 = 3 ∨ ((M.shvRes x (u - 25)).2 = 0 ∧ M.eigB R e1 e2 (M.shvRes x (u - 25)).1 = true) := hsh
          rw [← hzv] at hsh
          have HZV := Lib.hid hzv
          have HSh := Lib.hid hsh
          clear hzv hsh
          obtain ⟨z, zc⟩ := zv
          go_wp2_with fail
          refine (V.shiftVector _ _ _ x (u - 25) _ HX_13.out).mono ?_
          rintro e w14 ⟨za, zn, zcap, rfl, ho, hb⟩
          rw [← HZV.out] at ho ⊢
          have HZ_14 := Lib.hid (ho.ints')
          have HA_14 := Lib.hid (HA_13.out.below hb)
          have HX_14 := Lib.hid (HX_13.out.below hb)
          have Hbr_14 := Lib.hid (V.thn Hbr_13.out hb)
          have HP_14 := Lib.hid (V.bnext HP_13.out hb)
          clear HA_13 HX_13 Hbr_13 HP_13
          clear hb ho
          obtain ⟨cr0, cr1⟩ := HXr.out.cells Hbr_14.out
          have lrr : w2.heap.size < w14.heap.size := by have := HXr.out.size; have := Hbr_14.out.size; omega
          go_wp2_with fail
          refine (V.isEigenVector _ _ _ R e1 e2 _ _ _ x _ HA_14.out HX_14.out).mono ?_
          rintro e w15 ⟨rfl, hb⟩
          clear cr0 cr1 lrr
          rw [HSelf.out]
          have HA_15 := Lib.hid (HA_14.out.below hb)
          have HX_15 := Lib.hid (HX_14.out.below hb)
          have Hbr_15 := Lib.hid (V.thn Hbr_14.out hb)
          have HZ_15 := Lib.hid (HZ_14.out.below hb)
          have HP_15 := Lib.hid (V.bnext HP_14.out hb)
          clear HA_14 HX_14 Hbr_14 HZ_14 HP_14
          clear hb 
          rcases HSh.out with h3 | ⟨h0, hz⟩
          · have h3 : zc = 3 := h3
            subst h3
            go_wp2
            go_ret
            exact ⟨rfl, HP_15.out⟩
          · have h0 : zc = 0 := h0
            subst h0
            have hz : M.eigB R e1 e2 z = true := hz
            have HZq := Lib.hid hz
            clear hz
            obtain ⟨cr0, cr1⟩ := HXr.out.cells Hbr_15.out
            have lrr : w2.heap.size < w15.heap.size := by have := HXr.out.size; have := Hbr_15.out.size; omega
            go_wp2_with fail
            refine (V.isEigenVector _ _ _ R e1 e2 _ _ _ z _ HA_15.out HZ_15.out).mono ?_
            rintro e w16 ⟨rfl, hb⟩
            clear cr0 cr1 lrr
            rw [HZq.out]
            have HA_16 := Lib.hid (HA_15.out.below hb)
            have HX_16 := Lib.hid (HX_15.out.below hb)
            have Hbr_16 := Lib.hid (V.thn Hbr_15.out hb)
            have HZ_16 := Lib.hid (HZ_15.out.below hb)
            have HP_16 := Lib.hid (V.bnext HP_15.out hb)
            clear HA_15 HX_15 Hbr_15 HZ_15 HP_15
            clear hb 
            go_wp2
            go_ret
            exact ⟨rfl, HP_16.out⟩
        · have hd0b : (d != 0) = true := by simpa using hd0
          go_wp2
          go_ret
          exact ⟨rfl, HP_12.out⟩
      | true =>
        have hj : jv = true := HSub.out (by first | rfl | trivial)
        subst hj
        obtain ⟨cq0, cq1⟩ := HXq.out.cells Hbq_12.out
        have lqq : w6.heap.size < w12.heap.size := by have := HXq.out.size; have := Hbq_12.out.size; omega
        go_wp2_with fail
        refine (V.isSubEigen _ _ _ Rb q1 q2 _ _ _ y _ HBm_12.out HY_12.out).mono ?_
        rintro e w13 ⟨rfl, hb⟩
        clear cq0 cq1 lqq
        rw [HJv.out]
        have HA_13 := Lib.hid (HA_12.out.below hb)
        have HX_13 := Lib.hid (HX_12.out.below hb)
        have Hbr_13 := Lib.hid (V.thn Hbr_12.out hb)
        have HBm_13 := Lib.hid (HBm_12.out.below hb)
        have HY_13 := Lib.hid (HY_12.out.below hb)
        have Hbq_13 := Lib.hid (V.thn Hbq_12.out hb)
        have HP_13 := Lib.hid (V.bnext HP_12.out hb)
        clear HA_12 HX_12 Hbr_12 HBm_12 HY_12 Hbq_12 HP_12
        clear hb 
        clear HBm_13 HY_13 Hbq_13
        by_cases hd0 : d = 0
        · subst hd0
          obtain ⟨hself, hshift⟩ := HLaw.out (by first | rfl | trivial)
          have HSelf := Lib.hid hself
          have HShift := Lib.hid hshift
          clear hself hshift
          go_wp2_with fail
          refine (V.roll _ _ _ _ _ (HB.out.below HP_13.out)).mono ?_
          rintro e wd ⟨rfl, hdi, hbd⟩
          have HD := Lib.hid hdi
          have HBd := Lib.hid hbd
          clear hdi hbd
          go_wp2_with fail
          refine (V.below_ _ 50 _ HD.out (by omega) (by omega)).mono ?_
          rintro e w14 ⟨u, rfl, hu1, hu2, -, ht⟩
          have hb : Below w13.heap.size w13 w14 := HBd.out.trans ht.below
          have HA_14 := Lib.hid (HA_13.out.below hb)
          have HX_14 := Lib.hid (HX_13.out.below hb)
          have Hbr_14 := Lib.hid (V.thn Hbr_13.out hb)
          have HP_14 := Lib.hid (V.bnext HP_13.out hb)
          clear HA_13 HX_13 Hbr_13 HP_13
          clear hb ht
          obtain ⟨zv, hzv⟩ : ∃ v, v = M.shvRes x (u - 25) := ⟨_, rfl⟩
          have hsh := HShift.out (u - 25) (by omega) (by omega)
          have hsh : (M.shvRes x (u - 25)).2 = 3 ∨ ((M.shvRes x (u - 25)).2 = 0 ∧ M.eigB R e1 e2 (M.shvRes x (u - 25)).1 = true) := hsh
          rw [← hzv] at hsh
          have HZV := Lib.hid hzv
          have HSh := Lib.hid hsh
          clear hzv hsh
          obtain ⟨z, zc⟩ := zv
          go_wp2_with fail
          refine (V.shiftVector _ _ _ x (u - 25) _ HX_14.out).mono ?_
          rintro e w15 ⟨za, zn, zcap, rfl, ho, hb⟩
          rw [← HZV.out] at ho ⊢
          have HZ_15 := Lib.hid (ho.ints')
          have HA_15 := Lib.hid (HA_14.out.below hb)
          have HX_15 := Lib.hid (HX_14.out.below hb)
          have Hbr_15 := Lib.hid (V.thn Hbr_14.out hb)
          have HP_15 := Lib.hid (V.bnext HP_14.out hb)
          clear HA_14 HX_14 Hbr_14 HP_14
          clear hb ho
          obtain ⟨cr0, cr1⟩ := HXr.out.cells Hbr_15.out
          have lrr : w2.heap.size < w15.heap.size := by have := HXr.out.size; have := Hbr_15.out.size; omega
          go_wp2_with fail
          refine (V.isEigenVector _ _ _ R e1 e2 _ _ _ x _ HA_15.out HX_15.out).mono ?_
          rintro e w16 ⟨rfl, hb⟩
          clear cr0 cr1 lrr
          rw [HSelf.out]
          have HA_16 := Lib.hid (HA_15.out.below hb)
          have HX_16 := Lib.hid (HX_15.out.below hb)
          have Hbr_16 := Lib.hid (V.thn Hbr_15.out hb)
          have HZ_16 := Lib.hid (HZ_15.out.below hb)
          have HP_16 := Lib.hid (V.bnext HP_15.out hb)
          clear HA_15 HX_15 Hbr_15 HZ_15 HP_15
          clear hb 
          rcases HSh.out with h3 | ⟨h0, hz⟩
          · have h3 : zc = 3 := h3
            subst h3
            go_wp2
            go_ret
            exact ⟨rfl, HP_16.out⟩
          · have h0 : zc = 0 := h0
            subst h0
            have hz : M.eigB R e1 e2 z = true := hz
            have HZq := Lib.hid hz
            clear hz
            obtain ⟨cr0, cr1⟩ := HXr.out.cells Hbr_16.out
            have lrr : w2.heap.size < w16.heap.size := by have := HXr.out.size; have := Hbr_16.out.size; omega
            go_wp2_with fail
            refine (V.isEigenVector _ _ _ R e1 e2 _ _ _ z _ HA_16.out HZ_16.out).mono ?_
            rintro e w17 ⟨rfl, hb⟩
            clear cr0 cr1 lrr
            rw [HZq.out]
            have HA_17 := Lib.hid (HA_16.out.below hb)
            have HX_17 := Lib.hid (HX_16.out.below hb)
            have Hbr_17 := Lib.hid (V.thn Hbr_16.out hb)
            have HZ_17 := Lib.hid (HZ_16.out.below hb)
            have HP_17 := Lib.hid (V.bnext HP_16.out hb)
            clear HA_16 HX_16 Hbr_16 HZ_16 HP_16
            clear hb 
            go_wp2
            go_ret
            exact ⟨rfl, HP_17.out⟩
        · have hd0b : (d != 0) = true := by simpa using hd0
          go_wp2
          go_ret
          exact ⟨rfl, HP_13.out⟩
end Go.Proofs.YtcofjjipjcekjaaGreat.fnEigenvectors
