/- The walk through the law: it returns true and writes nothing that was there. For every code: PotentialOf, IsPotential and ShiftMatrix answer as their models, a potential that is told holds, and there is none exactly below the cycle mean. -/
import Derived.Test.YtmhpgnndjagogaaGreatRows
import Derived.Test.YtmhpgnndjagogaaGreatQz1
import Derived.Test.YtmhpgnndjagogaaGreatQz2
import Derived.Test.YtmhpgnndjagogaaGreatQz14
import Derived.Test.YtmhpgnndjagogaaGreatQz7
import Derived.Test.YtmhpgnndjagogaaGreatQz9
import Derived.Test.YtmhpgnndjagogaaGreatQz22
import Derived.Test.YtmhpgnndjagogaaGreatQz24
import Derived.WalkKit
import Derived.ProofKit
import Derived.OpenShut
import Derived.ShutString
import Derived.ChangeOld
import Derived.Below
import Derived.Lib.SmallJoins
import Derived.Lib.Hide
import Derived.WalkSmall
import Derived.Deep.Draws
import Derived.Deep.QuietTactic
import Derived.BigQuiet
import Derived.Deep.OwnRows
import Derived.Deep.RegionWith
import Derived.Deep.RegionHeld3
set_option linter.unusedSimpArgs false
set_option linter.unusedVariables false
set_option linter.unusedSectionVars false
namespace Go.Proofs.YtmhpgnndjagogaaGreat.fnPotentials
open Go.ChangeShapes Go.WideShapes Go.ChangeAt Go.RowKit
open Go.ChangeMaps (open_string shut_string)
set_option linter.unusedVariables false

theorem keepR {w0 w1 w2 : World} {p q : Addr} {x y : Value} (h : w1.cell? p = some x ∧ w1.cell? q = some y ∧ Below w0.heap.size w0 w1) (hp : p.block < w0.heap.size) (hq : q.block < w0.heap.size) (hb : Below w1.heap.size w1 w2) :
    w2.cell? p = some x ∧ w2.cell? q = some y ∧ Below w0.heap.size w0 w2 := by
  obtain ⟨h1, h2, h3⟩ := h
  have hs := h3.size
  exact ⟨(hb.cell (by omega)).trans h1, (hb.cell (by omega)).trans h2, h3.trans (hb.mono hs)⟩

set_option maxRecDepth 100000 in
set_option maxHeartbeats 4000000 in
theorem walk (a0 : Option Addr) (len0 cap0 : Nat) (z0 : List Int) (w : World) (w0 : V.IsRow .u8 w a0 len0 cap0 z0) :
    Calls Tryz.prog 4 #[.slice a0 len0 cap0] w fun e w' => e = .returned (.bool true) ∧ Below w.heap.size w w' := by
  have hB := w0.bytes
  have hm := hB.1
  by_cases hbig : 4096 < len0
  · have hd : decide (4096 < len0) = true := by simpa using hbig
    clear hB w0
    go_enter Tryz.func4, Tryz.ntmps4
    go_wp2_with (first | (go_at_call 11; refine (V.big _ _ _ _ hm).mono ?_; rintro e w' ⟨rfl, rfl⟩))
    go_ret
    exact ⟨rfl, Below.refl _ _⟩
  · have hd : decide (4096 < len0) = false := by simpa using hbig
    clear w0
    have HB := Lib.hid hB
    clear hB
    go_enter Tryz.func4, Tryz.ntmps4
    go_wp2_with (go_at_call 11; refine (V.big _ _ _ _ hm).mono ?_; rintro e w' ⟨rfl, rfl⟩)
    refine (V.drawPotentialOf _ _ _ _ HB.out).mono ?_
    rintro e w1 ⟨a, n, cap, R, r1, r2, rfl, hA, hb⟩
    have HA_1 := Lib.hid hA
    have HP_1 := Lib.hid hb
    clear hb hA
    obtain ⟨w2, hw2⟩ : ∃ z, z = w1.alloc (V.rbox r1 r2) := ⟨_, rfl⟩
    have HXr : Hid (V.Boxed w1 w2 r1 r2) := by show V.Boxed _ _ _ _; rw [hw2]; exact V.boxed _ _ _
    have HA_2 := Lib.hid (HA_1.out.below HXr.out.below)
    have HP_2 := Lib.hid (V.bnext HP_1.out HXr.out.below)
    clear HA_1 HP_1
    have Hbr_2 : Hid (Below w2.heap.size w2 w2) := Below.refl _ _
    obtain ⟨mv, hmv⟩ : ∃ v, v = M.cycMeanRes R := ⟨_, rfl⟩
    obtain ⟨pv, hpv⟩ : ∃ v, v = M.potRes R r1 r2 := ⟨_, rfl⟩
    have HPV := Lib.hid hpv
    have hlaw := M.pot_law (R := R) (a := r1) (b := r2)
    have hpis := M.pot_is (R := R) (a := r1) (b := r2)
    rw [← hpv] at hlaw hpis
    rw [← hmv] at hlaw
    have HMV := Lib.hid hmv
    clear hmv
    obtain ⟨⟨m1, m2⟩, m3⟩ := mv
    have HLaw := Lib.hid hlaw
    have HPis := Lib.hid hpis
    clear hpv hlaw hpis
    obtain ⟨x, d⟩ := pv
    go_wp2_with fail
    change Calls _ _ _ (w1.alloc (V.rbox r1 r2)) _
    rw [← hw2]
    clear hw2
    refine (V.potentialOf _ _ _ R r1 r2 _ HA_2.out).mono ?_
    rintro e w3 ⟨xa, xn, xc, rfl, ho, hb⟩
    rw [← HPV.out] at ho ⊢
    have HX_3 := Lib.hid (ho.ints')
    have HA_3 := Lib.hid (HA_2.out.below hb)
    have Hbr_3 := Lib.hid (V.thn Hbr_2.out hb)
    have HP_3 := Lib.hid (V.bnext HP_2.out hb)
    clear HA_2 Hbr_2 HP_2
    clear hb ho
    obtain ⟨cr0, cr1⟩ := HXr.out.cells Hbr_3.out
    go_wp2_with fail
    refine (V.sPotentialOf _ _ _ R r1 r2 _ HA_3.out).mono ?_
    rintro e w4 ⟨ma, mn, mc, rfl, ho, hb⟩
    clear cr0 cr1
    rw [← HPV.out] at ho ⊢
    have HM_4 := Lib.hid (ho.ints')
    have HA_4 := Lib.hid (HA_3.out.below hb)
    have Hbr_4 := Lib.hid (V.thn Hbr_3.out hb)
    have HX_4 := Lib.hid (HX_3.out.below hb)
    have HP_4 := Lib.hid (V.bnext HP_3.out hb)
    clear HA_3 Hbr_3 HX_3 HP_3
    clear hb ho
    go_wp2_with fail
    refine (V.drawIsPotential _ _ _ _ (HB.out.below HP_4.out)).mono ?_
    rintro e w5 ⟨ba, bn, bc, Rb, q1, q2, ya, yn, yc, y, rfl, hA, hX, hb⟩
    have HBm_5 := Lib.hid (hA)
    have HY_5 := Lib.hid (hX)
    have HA_5 := Lib.hid (HA_4.out.below hb)
    have Hbr_5 := Lib.hid (V.thn Hbr_4.out hb)
    have HX_5 := Lib.hid (HX_4.out.below hb)
    have HM_5 := Lib.hid (HM_4.out.below hb)
    have HP_5 := Lib.hid (V.bnext HP_4.out hb)
    clear HA_4 Hbr_4 HX_4 HM_4 HP_4
    clear hb hA hX
    obtain ⟨w6, hw6⟩ : ∃ z, z = w5.alloc (V.rbox q1 q2) := ⟨_, rfl⟩
    have HXq : Hid (V.Boxed w5 w6 q1 q2) := by show V.Boxed _ _ _ _; rw [hw6]; exact V.boxed _ _ _
    have HA_6 := Lib.hid (HA_5.out.below HXq.out.below)
    have Hbr_6 := Lib.hid (V.thn Hbr_5.out HXq.out.below)
    have HX_6 := Lib.hid (HX_5.out.below HXq.out.below)
    have HM_6 := Lib.hid (HM_5.out.below HXq.out.below)
    have HBm_6 := Lib.hid (HBm_5.out.below HXq.out.below)
    have HY_6 := Lib.hid (HY_5.out.below HXq.out.below)
    have HP_6 := Lib.hid (V.bnext HP_5.out HXq.out.below)
    clear HA_5 Hbr_5 HX_5 HM_5 HBm_5 HY_5 HP_5
    have Hbq_6 : Hid (Below w6.heap.size w6 w6) := Below.refl _ _
    go_wp2_with fail
    change Calls _ _ _ (w5.alloc (V.rbox q1 q2)) _
    rw [← hw6]
    clear hw6
    refine (V.drawShiftMatrix _ _ _ _ (HB.out.below HP_6.out)).mono ?_
    rintro e w7 ⟨ca, cn, cc, Rc, p1, p2, rfl, hA, hb⟩
    have HC_7 := Lib.hid (hA)
    have HA_7 := Lib.hid (HA_6.out.below hb)
    have Hbr_7 := Lib.hid (V.thn Hbr_6.out hb)
    have HX_7 := Lib.hid (HX_6.out.below hb)
    have HM_7 := Lib.hid (HM_6.out.below hb)
    have HBm_7 := Lib.hid (HBm_6.out.below hb)
    have HY_7 := Lib.hid (HY_6.out.below hb)
    have Hbq_7 := Lib.hid (V.thn Hbq_6.out hb)
    have HP_7 := Lib.hid (V.bnext HP_6.out hb)
    clear HA_6 Hbr_6 HX_6 HM_6 HBm_6 HY_6 Hbq_6 HP_6
    clear hb hA
    obtain ⟨w8, hw8⟩ : ∃ z, z = w7.alloc (V.rbox p1 p2) := ⟨_, rfl⟩
    have HXp : Hid (V.Boxed w7 w8 p1 p2) := by show V.Boxed _ _ _ _; rw [hw8]; exact V.boxed _ _ _
    have HA_8 := Lib.hid (HA_7.out.below HXp.out.below)
    have Hbr_8 := Lib.hid (V.thn Hbr_7.out HXp.out.below)
    have HX_8 := Lib.hid (HX_7.out.below HXp.out.below)
    have HM_8 := Lib.hid (HM_7.out.below HXp.out.below)
    have HBm_8 := Lib.hid (HBm_7.out.below HXp.out.below)
    have HY_8 := Lib.hid (HY_7.out.below HXp.out.below)
    have Hbq_8 := Lib.hid (V.thn Hbq_7.out HXp.out.below)
    have HC_8 := Lib.hid (HC_7.out.below HXp.out.below)
    have HP_8 := Lib.hid (V.bnext HP_7.out HXp.out.below)
    clear HA_7 Hbr_7 HX_7 HM_7 HBm_7 HY_7 Hbq_7 HC_7 HP_7
    have Hbp_8 : Hid (Below w8.heap.size w8 w8) := Below.refl _ _
    obtain ⟨sv, hsv⟩ : ∃ v, v = M.shiftRes Rc p1 p2 := ⟨_, rfl⟩
    have HSV := Lib.hid hsv
    clear hsv
    obtain ⟨S, sc⟩ := sv
    go_wp2_with fail
    change Calls _ _ _ (w7.alloc (V.rbox p1 p2)) _
    rw [← hw8]
    clear hw8
    refine (V.shiftMatrix _ _ _ Rc p1 p2 _ HC_8.out).mono ?_
    rintro e w9 ⟨sa, sn, scap, rfl, ho, hb⟩
    rw [← HSV.out] at ho ⊢
    have HS_9 := Lib.hid (ho.mat)
    have HA_9 := Lib.hid (HA_8.out.below hb)
    have Hbr_9 := Lib.hid (V.thn Hbr_8.out hb)
    have HX_9 := Lib.hid (HX_8.out.below hb)
    have HM_9 := Lib.hid (HM_8.out.below hb)
    have HBm_9 := Lib.hid (HBm_8.out.below hb)
    have HY_9 := Lib.hid (HY_8.out.below hb)
    have Hbq_9 := Lib.hid (V.thn Hbq_8.out hb)
    have HC_9 := Lib.hid (HC_8.out.below hb)
    have Hbp_9 := Lib.hid (V.thn Hbp_8.out hb)
    have HP_9 := Lib.hid (V.bnext HP_8.out hb)
    clear HA_8 Hbr_8 HX_8 HM_8 HBm_8 HY_8 Hbq_8 HC_8 Hbp_8 HP_8
    clear hb ho
    obtain ⟨cp0, cp1⟩ := HXp.out.cells Hbp_9.out
    go_wp2_with fail
    refine (V.sShiftMatrix _ _ _ Rc p1 p2 _ HC_9.out).mono ?_
    rintro e w10 ⟨ta, tn, tcap, rfl, ho, hb⟩
    clear cp0 cp1
    rw [← HSV.out] at ho ⊢
    have HT_10 := Lib.hid (ho.mat)
    have HA_10 := Lib.hid (HA_9.out.below hb)
    have Hbr_10 := Lib.hid (V.thn Hbr_9.out hb)
    have HX_10 := Lib.hid (HX_9.out.below hb)
    have HM_10 := Lib.hid (HM_9.out.below hb)
    have HBm_10 := Lib.hid (HBm_9.out.below hb)
    have HY_10 := Lib.hid (HY_9.out.below hb)
    have Hbq_10 := Lib.hid (V.thn Hbq_9.out hb)
    have HC_10 := Lib.hid (HC_9.out.below hb)
    have Hbp_10 := Lib.hid (V.thn Hbp_9.out hb)
    have HS_10 := Lib.hid (HS_9.out.below hb)
    have HP_10 := Lib.hid (V.bnext HP_9.out hb)
    clear HA_9 Hbr_9 HX_9 HM_9 HBm_9 HY_9 Hbq_9 HC_9 Hbp_9 HS_9 HP_9
    clear hb ho
    clear HC_10 Hbp_10
    obtain ⟨cq0, cq1⟩ := HXq.out.cells Hbq_10.out
    have hql : w5.heap.size < w10.heap.size := by have := HXq.out.size; have := Hbq_10.out.size; omega
    obtain ⟨iv, hiv⟩ : ∃ b, b = M.isPotB Rb q1 q2 y := ⟨_, rfl⟩
    have HIv := Lib.hid hiv.symm
    clear hiv
    go_wp2
    go_region_held3 (fun w' => w'.cell? ⟨w5.heap.size, 0, none⟩ = some (.int .i64 q1) ∧ w'.cell? ⟨w5.heap.size, 1, none⟩ = some (.int .i64 q2) ∧ Below w10.heap.size w10 w')
      (first | exact ⟨cq0, cq1, (Below.refl _ _).drew⟩ | exact keepR ‹_ ∧ _ ∧ Below _ _ _› hql hql hb)
      (first
    | (go_at_call 29; refine (V.isPotential _ _ _ Rb q1 q2 _ _ _ y _ ?hm ?hi).mono ?_; (case hm => exact HBm_10.out.below (‹_ ∧ _ ∧ Below _ _ _›).2.2); (case hi => exact HY_10.out.below (‹_ ∧ _ ∧ Below _ _ _›).2.2); rintro e wy ⟨rfl, hb⟩; rw [HIv.out])
    | (go_at_call 30; refine (V.sIsPotential _ _ _ Rb q1 q2 _ _ _ y _ ?hm ?hi).mono ?_; (case hm => exact HBm_10.out.below (‹_ ∧ _ ∧ Below _ _ _›).2.2); (case hi => exact HY_10.out.below (‹_ ∧ _ ∧ Below _ _ _›).2.2); rintro e wy ⟨rfl, hb⟩; rw [HIv.out])
    | (go_at_call 19; refine (V.likeV _ _ _ x _ _ _ _ ?h1 ?h2).mono ?_; (case h1 => exact HX_10.out.below (‹_ ∧ _ ∧ Below _ _ _›).2.2); (case h2 => exact HM_10.out.below (‹_ ∧ _ ∧ Below _ _ _›).2.2); rintro e wy ⟨rfl, hb⟩)
    | (go_at_call 31; refine (V.likeM _ _ _ S _ _ _ _ ?h1 ?h2).mono ?_; (case h1 => exact HS_10.out.below (‹_ ∧ _ ∧ Below _ _ _›).2.2); (case h2 => exact HT_10.out.below (‹_ ∧ _ ∧ Below _ _ _›).2.2); rintro e wz ⟨rfl, hb⟩))
    all_goals
      have hS : Below w10.heap.size w10 wz := (‹_ ∧ _ ∧ Below _ _ wz›).2.2
      obtain ⟨w11, rfl⟩ : ∃ z, z = wz := ⟨_, rfl⟩
      clear HM_10 HBm_10 HY_10 Hbq_10 HS_10 HT_10
      have HA_11 := Lib.hid (HA_10.out.below hS)
      have Hbr_11 := Lib.hid (V.thn Hbr_10.out hS)
      have HX_11 := Lib.hid (HX_10.out.below hS)
      have HP_11 := Lib.hid (V.bnext HP_10.out hS)
      clear HA_10 Hbr_10 HX_10 HP_10
      clear hS
      by_cases hd0 : d = 0
      · subst hd0
        obtain ⟨cr0, cr1⟩ := HXr.out.cells Hbr_11.out
        have lr : w1.heap.size < w11.heap.size := by have := HXr.out.size; have := Hbr_11.out.size; omega
        go_wp2_with fail
        refine (V.isPotential _ _ _ R r1 r2 _ _ _ x _ HA_11.out HX_11.out).mono ?_
        rintro e w12 ⟨rfl, hb⟩
        clear cr0 cr1 lr
        rw [HPis.out (by first | rfl | trivial)]
        have HA_12 := Lib.hid (HA_11.out.below hb)
        have Hbr_12 := Lib.hid (V.thn Hbr_11.out hb)
        have HX_12 := Lib.hid (HX_11.out.below hb)
        have HP_12 := Lib.hid (V.bnext HP_11.out hb)
        clear HA_11 Hbr_11 HX_11 HP_11
        clear hb 
        clear HX_12
        obtain ⟨cr0, cr1⟩ := HXr.out.cells Hbr_12.out
        have lr : w1.heap.size < w12.heap.size := by have := HXr.out.size; have := Hbr_12.out.size; omega
        clear cr0 cr1 lr
        go_wp2_with fail
        refine (V.cycleMean _ _ _ R _ HA_12.out).mono ?_
        rintro e w13 ⟨rfl, hb⟩
        rw [← HMV.out]
        have HA_13 := Lib.hid (HA_12.out.below hb)
        have Hbr_13 := Lib.hid (V.thn Hbr_12.out hb)
        have HP_13 := Lib.hid (V.bnext HP_12.out hb)
        clear HA_12 Hbr_12 HP_12
        clear hb 
        obtain ⟨cr0, cr1⟩ := HXr.out.cells Hbr_13.out
        have lr : w1.heap.size < w13.heap.size := by have := HXr.out.size; have := Hbr_13.out.size; omega
        obtain ⟨w14, hw14⟩ : ∃ z, z = w13.alloc (V.rbox m1 m2) := ⟨_, rfl⟩
        have HXm : Hid (V.Boxed w13 w14 m1 m2) := by show V.Boxed _ _ _ _; rw [hw14]; exact V.boxed _ _ _
        have HA_14 := Lib.hid (HA_13.out.below HXm.out.below)
        have Hbr_14 := Lib.hid (V.thn Hbr_13.out HXm.out.below)
        have HP_14 := Lib.hid (V.bnext HP_13.out HXm.out.below)
        clear HA_13 Hbr_13 HP_13
        have Hbm_14 : Hid (Below w14.heap.size w14 w14) := Below.refl _ _
        have HPz : Hid (Below w.heap.size w (w13.alloc (V.rbox m1 m2))) := by show Below _ _ _; rw [← hw14]; exact HP_14.out
        by_cases hm3 : m3 = 0
        · subst hm3
          have hd1 : (0 : Int) ≠ 1 := by decide
          obtain ⟨hc2, hgt, hle⟩ := HLaw.out (by first | rfl | trivial) hd1
          obtain ⟨⟨k0, k2⟩, hk⟩ : ∃ k, k = M.cmpOf m1 m2 r1 r2 := ⟨_, rfl⟩
          rw [← hk] at hc2 hgt hle
          have HK := Lib.hid hk
          clear hk
          have hc2 : k2 = 0 := hc2
          subst hc2
          have hgt : (0 : Int) = 5 → 0 < k0 := hgt
          have hle : (0 : Int) ≠ 5 → k0 ≤ 0 := hle
          have HGt := Lib.hid hgt
          have HLe := Lib.hid hle
          clear hgt hle
          go_wp2_with fail
          change Calls _ _ _ (w13.alloc (V.rbox m1 m2)) _
          rw [← hw14]
          clear hw14
          clear cr0 cr1 lr HPz
          refine (V.compareRatios m1 m2 r1 r2 _).mono ?_
          rintro e w15 ⟨rfl, hb⟩
          rw [← HK.out]
          have HA_15 := Lib.hid (HA_14.out.below hb)
          have Hbr_15 := Lib.hid (V.thn Hbr_14.out hb)
          have Hbm_15 := Lib.hid (V.thn Hbm_14.out hb)
          have HP_15 := Lib.hid (V.bnext HP_14.out hb)
          clear HA_14 Hbr_14 Hbm_14 HP_14
          clear hb 
          by_cases hd5 : (0 : Int) = 5
          · have hk0 : 0 < k0 := HGt.out hd5
            exact absurd hd5 (by decide)
          · have hk0 : ¬ 0 < k0 := by have := HLe.out hd5; omega
            have hd5b : ((0 : Int) == 5) = false := by decide
            go_wp2
            go_ret
            exact ⟨by first | rfl | simp [hk0], HP_15.out⟩
        · have hm3b : (m3 != 0) = true := by simpa using hm3
          go_wp2
          go_ret
          exact ⟨rfl, HPz.out⟩
      · have hd0b : (d == 0) = false := by simpa using hd0
        clear HX_11
        obtain ⟨cr0, cr1⟩ := HXr.out.cells Hbr_11.out
        have lr : w1.heap.size < w11.heap.size := by have := HXr.out.size; have := Hbr_11.out.size; omega
        clear cr0 cr1 lr
        go_wp2_with fail
        refine (V.cycleMean _ _ _ R _ HA_11.out).mono ?_
        rintro e w12 ⟨rfl, hb⟩
        rw [← HMV.out]
        have HA_12 := Lib.hid (HA_11.out.below hb)
        have Hbr_12 := Lib.hid (V.thn Hbr_11.out hb)
        have HP_12 := Lib.hid (V.bnext HP_11.out hb)
        clear HA_11 Hbr_11 HP_11
        clear hb 
        obtain ⟨cr0, cr1⟩ := HXr.out.cells Hbr_12.out
        have lr : w1.heap.size < w12.heap.size := by have := HXr.out.size; have := Hbr_12.out.size; omega
        obtain ⟨w13, hw13⟩ : ∃ z, z = w12.alloc (V.rbox m1 m2) := ⟨_, rfl⟩
        have HXm : Hid (V.Boxed w12 w13 m1 m2) := by show V.Boxed _ _ _ _; rw [hw13]; exact V.boxed _ _ _
        have HA_13 := Lib.hid (HA_12.out.below HXm.out.below)
        have Hbr_13 := Lib.hid (V.thn Hbr_12.out HXm.out.below)
        have HP_13 := Lib.hid (V.bnext HP_12.out HXm.out.below)
        clear HA_12 Hbr_12 HP_12
        have Hbm_13 : Hid (Below w13.heap.size w13 w13) := Below.refl _ _
        have HPz : Hid (Below w.heap.size w (w12.alloc (V.rbox m1 m2))) := by show Below _ _ _; rw [← hw13]; exact HP_13.out
        by_cases hm3 : m3 = 0
        · subst hm3
          by_cases hd1 : d = 1
          · subst hd1
            go_wp2
            go_ret
            exact ⟨rfl, HPz.out⟩
          · have hd1b : (d == 1) = false := by simpa using hd1
            obtain ⟨hc2, hgt, hle⟩ := HLaw.out (by first | rfl | trivial) hd1
            obtain ⟨⟨k0, k2⟩, hk⟩ : ∃ k, k = M.cmpOf m1 m2 r1 r2 := ⟨_, rfl⟩
            rw [← hk] at hc2 hgt hle
            have HK := Lib.hid hk
            clear hk
            have hc2 : k2 = 0 := hc2
            subst hc2
            have hgt : d = 5 → 0 < k0 := hgt
            have hle : d ≠ 5 → k0 ≤ 0 := hle
            have HGt := Lib.hid hgt
            have HLe := Lib.hid hle
            clear hgt hle
            go_wp2_with fail
            change Calls _ _ _ (w12.alloc (V.rbox m1 m2)) _
            rw [← hw13]
            clear hw13
            clear cr0 cr1 lr HPz
            refine (V.compareRatios m1 m2 r1 r2 _).mono ?_
            rintro e w14 ⟨rfl, hb⟩
            rw [← HK.out]
            have HA_14 := Lib.hid (HA_13.out.below hb)
            have Hbr_14 := Lib.hid (V.thn Hbr_13.out hb)
            have Hbm_14 := Lib.hid (V.thn Hbm_13.out hb)
            have HP_14 := Lib.hid (V.bnext HP_13.out hb)
            clear HA_13 Hbr_13 Hbm_13 HP_13
            clear hb 
            by_cases hd5 : d = 5
            · have hk0 : 0 < k0 := HGt.out hd5
              subst hd5
              go_wp2
              go_ret
              exact ⟨by first | rfl | simp [hk0], HP_14.out⟩
            · have hk0 : ¬ 0 < k0 := by have := HLe.out hd5; omega
              have hd5b : (d == 5) = false := by simpa using hd5
              go_wp2
              go_ret
              exact ⟨by first | rfl | simp [hk0], HP_14.out⟩
        · have hm3b : (m3 != 0) = true := by simpa using hm3
          go_wp2
          go_ret
          exact ⟨rfl, HPz.out⟩
end Go.Proofs.YtmhpgnndjagogaaGreat.fnPotentials
