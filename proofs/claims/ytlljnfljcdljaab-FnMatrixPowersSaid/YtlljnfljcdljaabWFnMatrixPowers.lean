/- The walk through the law: it returns true and writes nothing that was there. For every code: the power of a sum of exponents is the product of the powers, the unit is neutral, and the functions answer as their models. -/
import Derived.Test.YtlljnfljcdljaabRows
import Derived.Test.YtlljnfljcdljaabQb1
import Derived.Test.YtlljnfljcdljaabQb2
import Derived.Test.YtlljnfljcdljaabQb4
import Derived.Test.YtlljnfljcdljaabQb6
import Derived.Test.YtlljnfljcdljaabQb5
import Derived.Test.YtlljnfljcdljaabQb8
import Derived.Test.YtlljnfljcdljaabQb9
import Derived.WalkKit
import Derived.ProofKit
import Derived.OpenShut
import Derived.ShutString
import Derived.ChangeOld
import Derived.Below
import Derived.Lib.SmallJoins
import Derived.Lib.Hide
import Derived.WalkSmall
import Derived.Deep.Draws
import Derived.Deep.QuietTactic
import Derived.BigQuiet
import Derived.Deep.OwnRows
import Derived.Deep.RegionWith
import Derived.Deep.RegionHeld3
set_option linter.unusedSimpArgs false
set_option linter.unusedVariables false
set_option linter.unusedSectionVars false
namespace Go.Proofs.Ytlljnfljcdljaab.fnMatrixPowers
open Go.ChangeShapes Go.WideShapes Go.ChangeAt Go.RowKit
open Go.ChangeMaps (open_string shut_string)
set_option linter.unusedVariables false

set_option maxRecDepth 100000 in
set_option maxHeartbeats 4000000 in
theorem walk (a0 : Option Addr) (len0 cap0 : Nat) (z0 : List Int) (w : World) (w0 : V.IsRow .u8 w a0 len0 cap0 z0) :
    Calls Try.prog 5 #[.slice a0 len0 cap0] w fun e w' => e = .returned (.bool true) ∧ Below w.heap.size w w' := by
  have hB := w0.bytes
  have hm := hB.1
  by_cases hbig : 4096 < len0
  · have hd : decide (4096 < len0) = true := by simpa using hbig
    clear hB w0
    go_enter Try.func5, Try.ntmps5
    go_wp2_with (first | (go_at_call 12; refine (V.big _ _ _ _ hm).mono ?_; rintro e w' ⟨rfl, rfl⟩))
    go_ret
    exact ⟨rfl, Below.refl _ _⟩
  · have hd : decide (4096 < len0) = false := by simpa using hbig
    clear w0
    have HBy := Lib.hid hB
    clear hB
    go_enter Try.func5, Try.ntmps5
    go_wp2_with (go_at_call 12; refine (V.big _ _ _ _ hm).mono ?_; rintro e w' ⟨rfl, rfl⟩)
    refine (V.drawPowerMatrix _ _ _ _ HBy.out).mono ?_
    rintro e w_1 ⟨a, na, cap, R, x, rfl, hA, hb⟩
    have HA_1 := Lib.hid hA
    have HB_1 := Lib.hid hb
    clear hb hA
    obtain ⟨r, hr⟩ : ∃ r, r = M.powRes R x := ⟨_, rfl⟩
    have HR := Lib.hid hr
    clear hr
    go_wp2_with fail
    refine (V.powerMatrix _ _ _ R x _ HA_1.out).mono ?_
    rintro e w_2 ⟨_, _, _, rfl, ho, hb⟩
    rw [← HR.out] at ho ⊢
    have HX_2 := Lib.hid ho.mat
    clear ho
    have HA_2 := Lib.hid (HA_1.out.below hb)
    have HB_2 := Lib.hid (V.bnext HB_1.out hb)
    clear hb HA_1 HB_1
    go_wp2_with fail
    refine (V.sPowerMatrix _ _ _ R x _ HA_2.out).mono ?_
    rintro e w_3 ⟨_, _, _, rfl, ho, hb⟩
    rw [← HR.out] at ho ⊢
    have HM_3 := Lib.hid ho.mat
    clear ho
    have HA_3 := Lib.hid (HA_2.out.below hb)
    have HX_3 := Lib.hid (HX_2.out.below hb)
    have HB_3 := Lib.hid (V.bnext HB_2.out hb)
    clear hb HA_2 HX_2 HB_2
    go_wp2_with fail
    refine (V.drawUnitMatrix _ _ _ _ (HBy.out.below HB_3.out)).mono ?_
    rintro e w_4 ⟨u, rfl, hb⟩
    have HA_4 := Lib.hid (HA_3.out.below hb)
    have HX_4 := Lib.hid (HX_3.out.below hb)
    have HM_4 := Lib.hid (HM_3.out.below hb)
    have HB_4 := Lib.hid (V.bnext HB_3.out hb)
    clear hb HA_3 HX_3 HM_3 HB_3
    obtain ⟨ru, hru⟩ : ∃ ru, ru = M.unitRes u := ⟨_, rfl⟩
    have HRU := Lib.hid hru
    clear hru
    go_wp2_with fail
    refine (V.unitMatrix u _).mono ?_
    rintro e w_5 ⟨_, _, _, rfl, ho, hb⟩
    rw [← HRU.out] at ho ⊢
    have HU_5 := Lib.hid ho.mat
    clear ho
    have HA_5 := Lib.hid (HA_4.out.below hb)
    have HX_5 := Lib.hid (HX_4.out.below hb)
    have HM_5 := Lib.hid (HM_4.out.below hb)
    have HB_5 := Lib.hid (V.bnext HB_4.out hb)
    clear hb HA_4 HX_4 HM_4 HB_4
    go_wp2_with fail
    refine (V.sUnitMatrix u _).mono ?_
    rintro e w_6 ⟨_, _, _, rfl, ho, hb⟩
    rw [← HRU.out] at ho ⊢
    have HUS_6 := Lib.hid ho.mat
    clear ho
    have HA_6 := Lib.hid (HA_5.out.below hb)
    have HX_6 := Lib.hid (HX_5.out.below hb)
    have HM_6 := Lib.hid (HM_5.out.below hb)
    have HU_6 := Lib.hid (HU_5.out.below hb)
    have HB_6 := Lib.hid (V.bnext HB_5.out hb)
    clear hb HA_5 HX_5 HM_5 HU_5 HB_5
    go_wp2_with fail
    refine (V.drawBottomMatrix _ _ _ _ (HBy.out.below HB_6.out)).mono ?_
    rintro e w_7 ⟨bm, bk, rfl, hb⟩
    have HA_7 := Lib.hid (HA_6.out.below hb)
    have HX_7 := Lib.hid (HX_6.out.below hb)
    have HM_7 := Lib.hid (HM_6.out.below hb)
    have HU_7 := Lib.hid (HU_6.out.below hb)
    have HUS_7 := Lib.hid (HUS_6.out.below hb)
    have HB_7 := Lib.hid (V.bnext HB_6.out hb)
    clear hb HA_6 HX_6 HM_6 HU_6 HUS_6 HB_6
    obtain ⟨rb, hrb⟩ : ∃ rb, rb = M.botRes bm bk := ⟨_, rfl⟩
    have HRB := Lib.hid hrb
    clear hrb
    go_wp2_with fail
    refine (V.bottomMatrix bm bk _).mono ?_
    rintro e w_8 ⟨_, _, _, rfl, ho, hb⟩
    rw [← HRB.out] at ho ⊢
    have HZ_8 := Lib.hid ho.mat
    clear ho
    have HA_8 := Lib.hid (HA_7.out.below hb)
    have HX_8 := Lib.hid (HX_7.out.below hb)
    have HM_8 := Lib.hid (HM_7.out.below hb)
    have HU_8 := Lib.hid (HU_7.out.below hb)
    have HUS_8 := Lib.hid (HUS_7.out.below hb)
    have HB_8 := Lib.hid (V.bnext HB_7.out hb)
    clear hb HA_7 HX_7 HM_7 HU_7 HUS_7 HB_7
    go_wp2_with fail
    refine (V.sBottomMatrix bm bk _).mono ?_
    rintro e w_9 ⟨_, _, _, rfl, ho, hb⟩
    rw [← HRB.out] at ho ⊢
    have HZS_9 := Lib.hid ho.mat
    clear ho
    have HA_9 := Lib.hid (HA_8.out.below hb)
    have HX_9 := Lib.hid (HX_8.out.below hb)
    have HM_9 := Lib.hid (HM_8.out.below hb)
    have HU_9 := Lib.hid (HU_8.out.below hb)
    have HUS_9 := Lib.hid (HUS_8.out.below hb)
    have HZ_9 := Lib.hid (HZ_8.out.below hb)
    have HB_9 := Lib.hid (V.bnext HB_8.out hb)
    clear hb HA_8 HX_8 HM_8 HU_8 HUS_8 HZ_8 HB_8
    go_wp2_with fail
    refine (V.likeM _ _ _ r.1 _ _ _ _ HX_9.out HM_9.out).mono ?_
    rintro e w_10 ⟨rfl, hb⟩
    have HA_10 := Lib.hid (HA_9.out.below hb)
    have HX_10 := Lib.hid (HX_9.out.below hb)
    have HM_10 := Lib.hid (HM_9.out.below hb)
    have HU_10 := Lib.hid (HU_9.out.below hb)
    have HUS_10 := Lib.hid (HUS_9.out.below hb)
    have HZ_10 := Lib.hid (HZ_9.out.below hb)
    have HZS_10 := Lib.hid (HZS_9.out.below hb)
    have HB_10 := Lib.hid (V.bnext HB_9.out hb)
    clear hb HA_9 HX_9 HM_9 HU_9 HUS_9 HZ_9 HZS_9 HB_9
    clear HM_10
    go_wp2_with fail
    refine (V.likeM _ _ _ ru.1 _ _ _ _ HU_10.out HUS_10.out).mono ?_
    rintro e w_11 ⟨rfl, hb⟩
    have HA_11 := Lib.hid (HA_10.out.below hb)
    have HX_11 := Lib.hid (HX_10.out.below hb)
    have HU_11 := Lib.hid (HU_10.out.below hb)
    have HUS_11 := Lib.hid (HUS_10.out.below hb)
    have HZ_11 := Lib.hid (HZ_10.out.below hb)
    have HZS_11 := Lib.hid (HZS_10.out.below hb)
    have HB_11 := Lib.hid (V.bnext HB_10.out hb)
    clear hb HA_10 HX_10 HU_10 HUS_10 HZ_10 HZS_10 HB_10
    clear HU_11
    clear HUS_11
    go_wp2_with fail
    refine (V.likeM _ _ _ rb.1 _ _ _ _ HZ_11.out HZS_11.out).mono ?_
    rintro e w_12 ⟨rfl, hb⟩
    have HA_12 := Lib.hid (HA_11.out.below hb)
    have HX_12 := Lib.hid (HX_11.out.below hb)
    have HZ_12 := Lib.hid (HZ_11.out.below hb)
    have HZS_12 := Lib.hid (HZS_11.out.below hb)
    have HB_12 := Lib.hid (V.bnext HB_11.out hb)
    clear hb HA_11 HX_11 HZ_11 HZS_11 HB_11
    clear HZ_12
    clear HZS_12
    by_cases hz : r.2 = 0
    · have h0 := hz
      rw [HR.out] at h0
      obtain ⟨hR, x0, x1, hs, hN, he⟩ := M.powRes_t h0
      obtain ⟨N, rfl⟩ := Int.eq_ofNat_of_zero_le x0
      have HN0 : Hid ((M.powN R N).2 = true) := hN
      have HE : Hid (r = ((M.powN R N).1, 0)) := by show _ = _; rw [HR.out]; exact he
      have HMR := Lib.hid hR
      have HS := Lib.hid hs
      have N100 : N ≤ 100 := by omega
      have HXX_12 := HX_12.out
      rw [HE.out] at HXX_12
      have HY_12 := Lib.hid HXX_12
      have hr2 := HE.out
      subst hr2
      clear h0 hN he hR hs hz HX_12 HXX_12 x0 x1 HE HR
      go_wp2_with fail
      refine (V.roll _ _ _ _ _ (HBy.out.below HB_12.out)).mono ?_
      rintro e wd ⟨rfl, hdice, hbd⟩
      have HD := Lib.hid hdice
      have HBD := Lib.hid hbd
      clear hdice hbd
      go_wp2_with fail
      refine (V.below_ w_12.heap.size _ _ HD.out (by omega) (by omega)).mono ?_
      rintro e w_13 ⟨part, rfl, hp0, hp1, -, hthr⟩
      obtain ⟨part, rfl⟩ := Int.eq_ofNat_of_zero_le hp0
      have hp2 : part ≤ N := by omega
      have hb : Below w_12.heap.size w_12 w_13 := HBD.out.trans hthr.below
      clear HD HBD hthr hp0 hp1
      have HA_13 := Lib.hid (HA_12.out.below hb)
      have HY_13 := Lib.hid (HY_12.out.below hb)
      have HB_13 := Lib.hid (V.bnext HB_12.out hb)
      clear hb HA_12 HY_12 HB_12
      obtain ⟨l1, l2, l3, l4, l5⟩ := M.pow_law HMR.out HS.out N100 hp2 HN0.out
      have L1 := Lib.hid l1
      have L2 := Lib.hid l2
      have L3 := Lib.hid l3
      have L4 := Lib.hid l4
      have L5 := Lib.hid l5
      clear l1 l2 l3 l4 l5
      go_wp2_with fail
      refine (V.powerMatrix _ _ _ R (part : Int) _ HA_13.out).mono ?_
      rintro e w_14 ⟨_, _, _, rfl, ho, hb⟩
      rw [L1.out] at ho ⊢
      have HP_14 := Lib.hid ho.mat
      clear ho
      have HA_14 := Lib.hid (HA_13.out.below hb)
      have HY_14 := Lib.hid (HY_13.out.below hb)
      have HB_14 := Lib.hid (V.bnext HB_13.out hb)
      clear hb HA_13 HY_13 HB_13
      go_wp2_with fail
      refine (V.powerMatrix _ _ _ R ((N : Int) - (part : Int)) _ HA_14.out).mono ?_
      rintro e w_15 ⟨_, _, _, rfl, ho, hb⟩
      rw [L2.out] at ho ⊢
      have HQ_15 := Lib.hid ho.mat
      clear ho
      have HA_15 := Lib.hid (HA_14.out.below hb)
      have HY_15 := Lib.hid (HY_14.out.below hb)
      have HP_15 := Lib.hid (HP_14.out.below hb)
      have HB_15 := Lib.hid (V.bnext HB_14.out hb)
      clear hb HA_14 HY_14 HP_14 HB_14
      go_wp2_with fail
      refine (V.multiplyMatrices _ _ _ (M.powN R part).1 _ _ _ (M.powN R (N - part)).1 _ HP_15.out HQ_15.out).mono ?_
      rintro e w_16 ⟨_, _, _, rfl, ho, hb⟩
      rw [L3.out] at ho ⊢
      have HYY_16 := Lib.hid ho.mat
      clear ho
      have HA_16 := Lib.hid (HA_15.out.below hb)
      have HY_16 := Lib.hid (HY_15.out.below hb)
      have HP_16 := Lib.hid (HP_15.out.below hb)
      have HQ_16 := Lib.hid (HQ_15.out.below hb)
      have HB_16 := Lib.hid (V.bnext HB_15.out hb)
      clear hb HA_15 HY_15 HP_15 HQ_15 HB_15
      clear HP_16
      clear HQ_16
      have HLA : Hid ((na : Int) = (R.length : Int)) := by show _ = _; rw [HA_16.out.1]
      go_wp2_with fail
      rw [HLA.out]
      refine (V.unitMatrix _ _).mono ?_
      rintro e w_17 ⟨_, _, _, rfl, ho, hb⟩
      rw [L4.out] at ho ⊢
      have HE1_17 := Lib.hid ho.mat
      clear ho
      have HA_17 := Lib.hid (HA_16.out.below hb)
      have HY_17 := Lib.hid (HY_16.out.below hb)
      have HYY_17 := Lib.hid (HYY_16.out.below hb)
      have HB_17 := Lib.hid (V.bnext HB_16.out hb)
      clear hb HA_16 HY_16 HYY_16 HB_16
      go_wp2_with fail
      refine (V.multiplyMatrices _ _ _ (M.unitM R.length) _ _ _ (M.powN R N).1 _ HE1_17.out HY_17.out).mono ?_
      rintro e w_18 ⟨_, _, _, rfl, ho, hb⟩
      rw [L5.out] at ho ⊢
      have HSM_18 := Lib.hid ho.mat
      clear ho
      have HA_18 := Lib.hid (HA_17.out.below hb)
      have HY_18 := Lib.hid (HY_17.out.below hb)
      have HYY_18 := Lib.hid (HYY_17.out.below hb)
      have HE1_18 := Lib.hid (HE1_17.out.below hb)
      have HB_18 := Lib.hid (V.bnext HB_17.out hb)
      clear hb HA_17 HY_17 HYY_17 HE1_17 HB_17
      clear HE1_18
      go_wp2_with fail
      refine (V.likeM _ _ _ (M.powN R N).1 _ _ _ _ HYY_18.out HY_18.out).mono ?_
      rintro e w_19 ⟨rfl, hb⟩
      have HA_19 := Lib.hid (HA_18.out.below hb)
      have HY_19 := Lib.hid (HY_18.out.below hb)
      have HYY_19 := Lib.hid (HYY_18.out.below hb)
      have HSM_19 := Lib.hid (HSM_18.out.below hb)
      have HB_19 := Lib.hid (V.bnext HB_18.out hb)
      clear hb HA_18 HY_18 HYY_18 HSM_18 HB_18
      go_wp2_with fail
      refine (V.likeM _ _ _ (M.powN R N).1 _ _ _ _ HSM_19.out HY_19.out).mono ?_
      rintro e w_20 ⟨rfl, hb⟩
      have HA_20 := Lib.hid (HA_19.out.below hb)
      have HY_20 := Lib.hid (HY_19.out.below hb)
      have HYY_20 := Lib.hid (HYY_19.out.below hb)
      have HSM_20 := Lib.hid (HSM_19.out.below hb)
      have HB_20 := Lib.hid (V.bnext HB_19.out hb)
      clear hb HA_19 HY_19 HYY_19 HSM_19 HB_19
      go_wp2
      go_ret
      exact ⟨rfl, HB_20.out⟩
    · have hz1 : (r.2 == 0) = false := by simpa using hz
      have hz2 : (r.2 != 0) = true := by simpa using hz
      clear hz
      go_wp2
      go_ret
      exact ⟨rfl, HB_12.out⟩
end Go.Proofs.Ytlljnfljcdljaab.fnMatrixPowers
