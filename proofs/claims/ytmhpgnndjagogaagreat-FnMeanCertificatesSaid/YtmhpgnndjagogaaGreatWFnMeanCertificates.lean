/- The walk through the law: it returns true and writes nothing that was there. For every code: CertifyMean, IsMeanCertificate and BestCycle answer as their models, and what CertifyMean tells is a certificate. -/
import Derived.Test.YtmhpgnndjagogaaGreatRows
import Derived.Test.YtmhpgnndjagogaaGreatQz1
import Derived.Test.YtmhpgnndjagogaaGreatQz2
import Derived.Test.YtmhpgnndjagogaaGreatQz19
import Derived.Test.YtmhpgnndjagogaaGreatQz24
import Derived.Test.YtmhpgnndjagogaaGreatQz14
import Derived.Test.YtmhpgnndjagogaaGreatQz12
import Derived.Test.YtmhpgnndjagogaaGreatQz21
import Derived.Test.YtmhpgnndjagogaaGreatQz22
import Derived.WalkKit
import Derived.ProofKit
import Derived.OpenShut
import Derived.ShutString
import Derived.ChangeOld
import Derived.Below
import Derived.Lib.SmallJoins
import Derived.Lib.Hide
import Derived.WalkSmall
import Derived.Deep.Draws
import Derived.Deep.QuietTactic
import Derived.BigQuiet
import Derived.Deep.OwnRows
import Derived.Deep.RegionWith
import Derived.Deep.RegionHeld3
set_option linter.unusedSimpArgs false
set_option linter.unusedVariables false
set_option linter.unusedSectionVars false
namespace Go.Proofs.YtmhpgnndjagogaaGreat.fnMeanCertificates
open Go.ChangeShapes Go.WideShapes Go.ChangeAt Go.RowKit
open Go.ChangeMaps (open_string shut_string)
set_option linter.unusedVariables false

theorem keepS {w0 w1 w2 : World} {p q r s t u : Addr} {x1 x2 x3 x4 x5 x6 : Value} (h : w1.cell? p = some x1 ∧ w1.cell? q = some x2 ∧ w1.cell? r = some x3 ∧ w1.cell? s = some x4 ∧ w1.cell? t = some x5 ∧ w1.cell? u = some x6 ∧ Below w0.heap.size w0 w1) (hp : p.block < w0.heap.size) (hq : q.block < w0.heap.size) (hr : r.block < w0.heap.size) (hs : s.block < w0.heap.size) (ht : t.block < w0.heap.size) (hu : u.block < w0.heap.size) (hb : Below w1.heap.size w1 w2) :
    w2.cell? p = some x1 ∧ w2.cell? q = some x2 ∧ w2.cell? r = some x3 ∧ w2.cell? s = some x4 ∧ w2.cell? t = some x5 ∧ w2.cell? u = some x6 ∧ Below w0.heap.size w0 w2 := by
  obtain ⟨h1, h2, h3, h4, h5, h6, h7⟩ := h
  have hz := h7.size
  exact ⟨(hb.cell (by omega)).trans h1, (hb.cell (by omega)).trans h2, (hb.cell (by omega)).trans h3, (hb.cell (by omega)).trans h4, (hb.cell (by omega)).trans h5, (hb.cell (by omega)).trans h6, h7.trans (hb.mono hz)⟩

set_option maxRecDepth 100000 in
set_option maxHeartbeats 4000000 in
theorem walk (a0 : Option Addr) (len0 cap0 : Nat) (z0 : List Int) (w : World) (w0 : V.IsRow .u8 w a0 len0 cap0 z0) :
    Calls Tryz.prog 3 #[.slice a0 len0 cap0] w fun e w' => e = .returned (.bool true) ∧ Below w.heap.size w w' := by
  have hB := w0.bytes
  have hm := hB.1
  by_cases hbig : 4096 < len0
  · have hd : decide (4096 < len0) = true := by simpa using hbig
    clear hB w0
    go_enter Tryz.func3, Tryz.ntmps3
    go_wp2_with (first | (go_at_call 11; refine (V.big _ _ _ _ hm).mono ?_; rintro e w' ⟨rfl, rfl⟩))
    go_ret
    exact ⟨rfl, Below.refl _ _⟩
  · have hd : decide (4096 < len0) = false := by simpa using hbig
    clear w0
    have HB := Lib.hid hB
    clear hB
    go_enter Tryz.func3, Tryz.ntmps3
    go_wp2_with (go_at_call 11; refine (V.big _ _ _ _ hm).mono ?_; rintro e w' ⟨rfl, rfl⟩)
    refine (V.drawCertifyMean _ _ _ _ HB.out).mono ?_
    rintro e w1 ⟨a, n, cap, R, rfl, hA, hb⟩
    have HA_1 := Lib.hid hA
    have HP_1 := Lib.hid hb
    clear hb hA
    obtain ⟨cv, hcv⟩ : ∃ v, v = M.certRes R := ⟨_, rfl⟩
    have HCV := Lib.hid hcv
    have hok := M.cert_ok (R := R)
    rw [← hcv] at hok
    have HOk := Lib.hid hok
    clear hcv hok
    obtain ⟨⟨c1, c2⟩, cyc, pot, d⟩ := cv
    go_wp2_with fail
    refine (V.certifyMean _ _ _ R _ HA_1.out).mono ?_
    rintro e w2 ⟨wm, la, lm, lc, xa, xm, xc, rfl, ho1, hbm, ho2, hb2⟩
    rw [← HCV.out] at ho1 ho2 ⊢
    have hb := hbm.trans (hb2.mono hbm.size)
    have HCap := Lib.hid (V.own_caps ho2)
    have HL_2 := Lib.hid (ho2.ints')
    have HX_2 := Lib.hid ((ho1.below hb2).ints')
    have HA_2 := Lib.hid (HA_1.out.below hb)
    have HP_2 := Lib.hid (V.bnext HP_1.out hb)
    clear HA_1 HP_1
    clear hb ho1 ho2 hbm hb2
    obtain ⟨w3, hw3⟩ : ∃ z, z = w2.alloc (V.rbox c1 c2) := ⟨_, rfl⟩
    have HXr : Hid (V.Boxed w2 w3 c1 c2) := by show V.Boxed _ _ _ _; rw [hw3]; exact V.boxed _ _ _
    have HA_3 := Lib.hid (HA_2.out.below HXr.out.below)
    have HL_3 := Lib.hid (HL_2.out.below HXr.out.below)
    have HX_3 := Lib.hid (HX_2.out.below HXr.out.below)
    have HP_3 := Lib.hid (V.bnext HP_2.out HXr.out.below)
    clear HA_2 HL_2 HX_2 HP_2
    have Hbr_3 : Hid (Below w3.heap.size w3 w3) := Below.refl _ _
    go_wp2_with fail
    change Calls _ _ _ (w2.alloc (V.rbox c1 c2)) _
    rw [← hw3]
    clear hw3
    refine (V.sCertifyMean _ _ _ R _ HA_3.out).mono ?_
    rintro e w4 ⟨wm2, ma, mm, mc, ya, ym, yc, rfl, ho1, hbm, ho2, hb2⟩
    rw [← HCV.out] at ho1 ho2 ⊢
    have hb := hbm.trans (hb2.mono hbm.size)
    have HM_4 := Lib.hid (ho2.ints')
    have HY_4 := Lib.hid ((ho1.below hb2).ints')
    have HA_4 := Lib.hid (HA_3.out.below hb)
    have HL_4 := Lib.hid (HL_3.out.below hb)
    have HX_4 := Lib.hid (HX_3.out.below hb)
    have Hbr_4 := Lib.hid (V.thn Hbr_3.out hb)
    have HP_4 := Lib.hid (V.bnext HP_3.out hb)
    clear HA_3 HL_3 HX_3 Hbr_3 HP_3
    clear hb ho1 ho2 hbm hb2
    obtain ⟨w5, hw5⟩ : ∃ z, z = w4.alloc (V.rbox c1 c2) := ⟨_, rfl⟩
    have HXm : Hid (V.Boxed w4 w5 c1 c2) := by show V.Boxed _ _ _ _; rw [hw5]; exact V.boxed _ _ _
    have HA_5 := Lib.hid (HA_4.out.below HXm.out.below)
    have HL_5 := Lib.hid (HL_4.out.below HXm.out.below)
    have HX_5 := Lib.hid (HX_4.out.below HXm.out.below)
    have Hbr_5 := Lib.hid (V.thn Hbr_4.out HXm.out.below)
    have HM_5 := Lib.hid (HM_4.out.below HXm.out.below)
    have HY_5 := Lib.hid (HY_4.out.below HXm.out.below)
    have HP_5 := Lib.hid (V.bnext HP_4.out HXm.out.below)
    clear HA_4 HL_4 HX_4 Hbr_4 HM_4 HY_4 HP_4
    have Hbm_5 : Hid (Below w5.heap.size w5 w5) := Below.refl _ _
    go_wp2_with fail
    change Calls _ _ _ (w4.alloc (V.rbox c1 c2)) _
    rw [← hw5]
    clear hw5
    refine (V.drawIsMeanCertificate _ _ _ _ (HB.out.below HP_5.out)).mono ?_
    rintro e w6 ⟨ba, bn, bc, Rb, q1, q2, ka, kn, kc, k, za, zn, zc, z, rfl, hA, hK, hZ, hc1, hc2, hb⟩
    have HCk := Lib.hid (And.intro hc1 hc2)
    have HBm_6 := Lib.hid (hA)
    have HK_6 := Lib.hid (hK)
    have HZ_6 := Lib.hid (hZ)
    have HA_6 := Lib.hid (HA_5.out.below hb)
    have HL_6 := Lib.hid (HL_5.out.below hb)
    have HX_6 := Lib.hid (HX_5.out.below hb)
    have Hbr_6 := Lib.hid (V.thn Hbr_5.out hb)
    have HM_6 := Lib.hid (HM_5.out.below hb)
    have HY_6 := Lib.hid (HY_5.out.below hb)
    have Hbm_6 := Lib.hid (V.thn Hbm_5.out hb)
    have HP_6 := Lib.hid (V.bnext HP_5.out hb)
    clear HA_5 HL_5 HX_5 Hbr_5 HM_5 HY_5 Hbm_5 HP_5
    clear hb hA hK hZ hc1 hc2
    obtain ⟨w7, hw7⟩ : ∃ z, z = w6.alloc (V.rbox q1 q2) := ⟨_, rfl⟩
    have HXq : Hid (V.Boxed w6 w7 q1 q2) := by show V.Boxed _ _ _ _; rw [hw7]; exact V.boxed _ _ _
    have HA_7 := Lib.hid (HA_6.out.below HXq.out.below)
    have HL_7 := Lib.hid (HL_6.out.below HXq.out.below)
    have HX_7 := Lib.hid (HX_6.out.below HXq.out.below)
    have Hbr_7 := Lib.hid (V.thn Hbr_6.out HXq.out.below)
    have HM_7 := Lib.hid (HM_6.out.below HXq.out.below)
    have HY_7 := Lib.hid (HY_6.out.below HXq.out.below)
    have Hbm_7 := Lib.hid (V.thn Hbm_6.out HXq.out.below)
    have HBm_7 := Lib.hid (HBm_6.out.below HXq.out.below)
    have HK_7 := Lib.hid (HK_6.out.below HXq.out.below)
    have HZ_7 := Lib.hid (HZ_6.out.below HXq.out.below)
    have HP_7 := Lib.hid (V.bnext HP_6.out HXq.out.below)
    clear HA_6 HL_6 HX_6 Hbr_6 HM_6 HY_6 Hbm_6 HBm_6 HK_6 HZ_6 HP_6
    have Hbq_7 : Hid (Below w7.heap.size w7 w7) := Below.refl _ _
    go_wp2_with fail
    change Calls _ _ _ (w6.alloc (V.rbox q1 q2)) _
    rw [← hw7]
    clear hw7
    refine (V.drawBestCycle _ _ _ _ (HB.out.below HP_7.out)).mono ?_
    rintro e w8 ⟨ea, en, ec, Re, rfl, hA, hb⟩
    have HE_8 := Lib.hid (hA)
    have HA_8 := Lib.hid (HA_7.out.below hb)
    have HL_8 := Lib.hid (HL_7.out.below hb)
    have HX_8 := Lib.hid (HX_7.out.below hb)
    have Hbr_8 := Lib.hid (V.thn Hbr_7.out hb)
    have HM_8 := Lib.hid (HM_7.out.below hb)
    have HY_8 := Lib.hid (HY_7.out.below hb)
    have Hbm_8 := Lib.hid (V.thn Hbm_7.out hb)
    have HBm_8 := Lib.hid (HBm_7.out.below hb)
    have HK_8 := Lib.hid (HK_7.out.below hb)
    have HZ_8 := Lib.hid (HZ_7.out.below hb)
    have Hbq_8 := Lib.hid (V.thn Hbq_7.out hb)
    have HP_8 := Lib.hid (V.bnext HP_7.out hb)
    clear HA_7 HL_7 HX_7 Hbr_7 HM_7 HY_7 Hbm_7 HBm_7 HK_7 HZ_7 Hbq_7 HP_7
    clear hb hA
    obtain ⟨bv, hbv⟩ : ∃ v, v = M.bestRes Re := ⟨_, rfl⟩
    have HBV := Lib.hid hbv
    clear hbv
    obtain ⟨t, tc⟩ := bv
    go_wp2_with fail
    refine (V.bestCycle _ _ _ Re _ HE_8.out).mono ?_
    rintro e w9 ⟨ta, tn, tcap, rfl, ho, hb⟩
    rw [← HBV.out] at ho ⊢
    have HT_9 := Lib.hid (ho.ints')
    have HA_9 := Lib.hid (HA_8.out.below hb)
    have HL_9 := Lib.hid (HL_8.out.below hb)
    have HX_9 := Lib.hid (HX_8.out.below hb)
    have Hbr_9 := Lib.hid (V.thn Hbr_8.out hb)
    have HM_9 := Lib.hid (HM_8.out.below hb)
    have HY_9 := Lib.hid (HY_8.out.below hb)
    have Hbm_9 := Lib.hid (V.thn Hbm_8.out hb)
    have HBm_9 := Lib.hid (HBm_8.out.below hb)
    have HK_9 := Lib.hid (HK_8.out.below hb)
    have HZ_9 := Lib.hid (HZ_8.out.below hb)
    have Hbq_9 := Lib.hid (V.thn Hbq_8.out hb)
    have HE_9 := Lib.hid (HE_8.out.below hb)
    have HP_9 := Lib.hid (V.bnext HP_8.out hb)
    clear HA_8 HL_8 HX_8 Hbr_8 HM_8 HY_8 Hbm_8 HBm_8 HK_8 HZ_8 Hbq_8 HE_8 HP_8
    clear hb ho
    go_wp2_with fail
    refine (V.sBestCycle _ _ _ Re _ HE_9.out).mono ?_
    rintro e w10 ⟨ua, un, ucap, rfl, ho, hb⟩
    rw [← HBV.out] at ho ⊢
    have HU_10 := Lib.hid (ho.ints')
    have HA_10 := Lib.hid (HA_9.out.below hb)
    have HL_10 := Lib.hid (HL_9.out.below hb)
    have HX_10 := Lib.hid (HX_9.out.below hb)
    have Hbr_10 := Lib.hid (V.thn Hbr_9.out hb)
    have HM_10 := Lib.hid (HM_9.out.below hb)
    have HY_10 := Lib.hid (HY_9.out.below hb)
    have Hbm_10 := Lib.hid (V.thn Hbm_9.out hb)
    have HBm_10 := Lib.hid (HBm_9.out.below hb)
    have HK_10 := Lib.hid (HK_9.out.below hb)
    have HZ_10 := Lib.hid (HZ_9.out.below hb)
    have Hbq_10 := Lib.hid (V.thn Hbq_9.out hb)
    have HE_10 := Lib.hid (HE_9.out.below hb)
    have HT_10 := Lib.hid (HT_9.out.below hb)
    have HP_10 := Lib.hid (V.bnext HP_9.out hb)
    clear HA_9 HL_9 HX_9 Hbr_9 HM_9 HY_9 Hbm_9 HBm_9 HK_9 HZ_9 Hbq_9 HE_9 HT_9 HP_9
    clear hb ho
    clear HE_10
    obtain ⟨cr0, cr1⟩ := HXr.out.cells Hbr_10.out
    obtain ⟨cm0, cm1⟩ := HXm.out.cells Hbm_10.out
    obtain ⟨cq0, cq1⟩ := HXq.out.cells Hbq_10.out
    have lr : w2.heap.size < w10.heap.size := by have := HXr.out.size; have := Hbr_10.out.size; omega
    have lmm : w4.heap.size < w10.heap.size := by have := HXm.out.size; have := Hbm_10.out.size; omega
    have lq : w6.heap.size < w10.heap.size := by have := HXq.out.size; have := Hbq_10.out.size; omega
    obtain ⟨iv, hiv⟩ : ∃ b, b = M.certB Rb q1 q2 k z := ⟨_, rfl⟩
    have HIv := Lib.hid hiv.symm
    clear hiv
    go_wp2
    go_region_held3 (fun w' => w'.cell? ⟨w2.heap.size, 0, none⟩ = some (.int .i64 c1) ∧ w'.cell? ⟨w2.heap.size, 1, none⟩ = some (.int .i64 c2) ∧ w'.cell? ⟨w4.heap.size, 0, none⟩ = some (.int .i64 c1) ∧ w'.cell? ⟨w4.heap.size, 1, none⟩ = some (.int .i64 c2) ∧ w'.cell? ⟨w6.heap.size, 0, none⟩ = some (.int .i64 q1) ∧ w'.cell? ⟨w6.heap.size, 1, none⟩ = some (.int .i64 q2) ∧ Below w10.heap.size w10 w')
      (first | exact ⟨cr0, cr1, cm0, cm1, cq0, cq1, (Below.refl _ _).drew⟩ | exact keepS ‹_ ∧ _ ∧ _ ∧ _ ∧ _ ∧ _ ∧ Below _ _ _› lr lr lmm lmm lq lq hb)
      (first
    | (go_at_call 20; refine (V.isMeanCertificate _ _ _ Rb q1 q2 _ _ _ k _ _ _ z _ ?hm ?hi ?hj HCk.out.1 HCk.out.2).mono ?_; (case hm => exact HBm_10.out.below (‹_ ∧ _ ∧ _ ∧ _ ∧ _ ∧ _ ∧ Below _ _ _›).2.2.2.2.2.2); (case hi => exact HK_10.out.below (‹_ ∧ _ ∧ _ ∧ _ ∧ _ ∧ _ ∧ Below _ _ _›).2.2.2.2.2.2); (case hj => exact HZ_10.out.below (‹_ ∧ _ ∧ _ ∧ _ ∧ _ ∧ _ ∧ Below _ _ _›).2.2.2.2.2.2); rintro e wy ⟨rfl, hb⟩; rw [HIv.out])
    | (go_at_call 21; refine (V.sIsMeanCertificate _ _ _ Rb q1 q2 _ _ _ k _ _ _ z _ ?hm ?hi ?hj HCk.out.1 HCk.out.2).mono ?_; (case hm => exact HBm_10.out.below (‹_ ∧ _ ∧ _ ∧ _ ∧ _ ∧ _ ∧ Below _ _ _›).2.2.2.2.2.2); (case hi => exact HK_10.out.below (‹_ ∧ _ ∧ _ ∧ _ ∧ _ ∧ _ ∧ Below _ _ _›).2.2.2.2.2.2); (case hj => exact HZ_10.out.below (‹_ ∧ _ ∧ _ ∧ _ ∧ _ ∧ _ ∧ Below _ _ _›).2.2.2.2.2.2); rintro e wy ⟨rfl, hb⟩; rw [HIv.out])
    | (have _g := G2.out; clear _g; go_at_call 19; refine (V.likeV _ _ _ t _ _ _ _ ?h1 ?h2).mono ?_; (case h1 => exact HT_10.out.below (‹_ ∧ _ ∧ _ ∧ _ ∧ _ ∧ _ ∧ Below _ _ _›).2.2.2.2.2.2); (case h2 => exact HU_10.out.below (‹_ ∧ _ ∧ _ ∧ _ ∧ _ ∧ _ ∧ Below _ _ _›).2.2.2.2.2.2); rintro e wz ⟨rfl, hb⟩)
    | (have _g := G1.out; clear _g; go_at_call 19; refine (V.likeV _ _ _ pot _ _ _ _ ?h1 ?h2).mono ?_; (case h1 => exact HX_10.out.below (‹_ ∧ _ ∧ _ ∧ _ ∧ _ ∧ _ ∧ Below _ _ _›).2.2.2.2.2.2); (case h2 => exact HY_10.out.below (‹_ ∧ _ ∧ _ ∧ _ ∧ _ ∧ _ ∧ Below _ _ _›).2.2.2.2.2.2); rintro e wz2 ⟨rfl, hb⟩; have G2 : Hid True := Lib.hid trivial)
    | (go_at_call 19; refine (V.likeV _ _ _ cyc _ _ _ _ ?h1 ?h2).mono ?_; (case h1 => exact HL_10.out.below (‹_ ∧ _ ∧ _ ∧ _ ∧ _ ∧ _ ∧ Below _ _ _›).2.2.2.2.2.2); (case h2 => exact HM_10.out.below (‹_ ∧ _ ∧ _ ∧ _ ∧ _ ∧ _ ∧ Below _ _ _›).2.2.2.2.2.2); rintro e wz1 ⟨rfl, hb⟩; have G1 : Hid True := Lib.hid trivial))
    all_goals
      have hS : Below w10.heap.size w10 wz := (‹_ ∧ _ ∧ _ ∧ _ ∧ _ ∧ _ ∧ Below _ _ wz›).2.2.2.2.2.2
      obtain ⟨w11, rfl⟩ : ∃ z, z = wz := ⟨_, rfl⟩
      clear HM_10 HY_10 HBm_10 HK_10 HZ_10 HT_10 HU_10 Hbm_10 Hbq_10
      have HA_11 := Lib.hid (HA_10.out.below hS)
      have HL_11 := Lib.hid (HL_10.out.below hS)
      have HX_11 := Lib.hid (HX_10.out.below hS)
      have Hbr_11 := Lib.hid (V.thn Hbr_10.out hS)
      have HP_11 := Lib.hid (V.bnext HP_10.out hS)
      clear HA_10 HL_10 HX_10 Hbr_10 HP_10
      clear hS
      by_cases hd0 : d = 0
      · subst hd0
        obtain ⟨cr0, cr1⟩ := HXr.out.cells Hbr_11.out
        have hcert : M.certB R c1 c2 cyc pot = true := HOk.out (by first | rfl | trivial)
        go_wp2_with fail
        refine (V.isMeanCertificate _ _ _ R c1 c2 _ _ _ cyc _ _ _ pot _ HA_11.out HL_11.out HX_11.out HCap.out.1 HCap.out.2).mono ?_
        rintro e w12 ⟨rfl, hb⟩
        clear cr0 cr1
        rw [hcert]
        have HA_12 := Lib.hid (HA_11.out.below hb)
        have HL_12 := Lib.hid (HL_11.out.below hb)
        have HX_12 := Lib.hid (HX_11.out.below hb)
        have Hbr_12 := Lib.hid (V.thn Hbr_11.out hb)
        have HP_12 := Lib.hid (V.bnext HP_11.out hb)
        clear HA_11 HL_11 HX_11 Hbr_11 HP_11
        clear hb 
        go_wp2
        go_ret
        exact ⟨rfl, HP_12.out⟩
      · have hd0b : (d != 0) = true := by simpa using hd0
        go_wp2
        go_ret
        exact ⟨rfl, HP_11.out⟩
end Go.Proofs.YtmhpgnndjagogaaGreat.fnMeanCertificates
