/- The walk through the law: it returns true and writes nothing that was there. For every code: full polynomials, essential terms and the sameness of functions are those of their models; a full polynomial is the same function, full again, nowhere below, and equal at the essential terms. -/
import Derived.Test.YtlljnfljcdljaaaRows
import Derived.Test.YtlljnfljcdljaaaQa1
import Derived.Test.YtlljnfljcdljaaaQa11
import Derived.Test.YtlljnfljcdljaaaQa17
import Derived.Test.YtlljnfljcdljaaaQa18
import Derived.Test.YtlljnfljcdljaaaQa30
import Derived.Test.YtlljnfljcdljaaaQa33
import Derived.Test.YtlljnfljcdljaaaQa34
import Derived.Test.YtlljnfljcdljaaaQa32
import Derived.WalkKit
import Derived.ProofKit
import Derived.OpenShut
import Derived.ShutString
import Derived.ChangeOld
import Derived.Below
import Derived.Lib.SmallJoins
import Derived.Lib.Hide
import Derived.WalkSmall
import Derived.Deep.Draws
import Derived.Deep.QuietTactic
import Derived.BigQuiet
import Derived.Deep.OwnRows
import Derived.Deep.RegionWith
import Derived.Deep.RegionHeld3
set_option linter.unusedSimpArgs false
set_option linter.unusedVariables false
set_option linter.unusedSectionVars false
namespace Go.Proofs.Ytlljnfljcdljaaa.fnFullPolynomials
open Go.ChangeShapes Go.WideShapes Go.ChangeAt Go.RowKit
open Go.ChangeMaps (open_string shut_string)
set_option linter.unusedVariables false

set_option maxRecDepth 100000 in
set_option maxHeartbeats 4000000 in
theorem walk (a0 : Option Addr) (len0 cap0 : Nat) (z0 : List Int) (w : World) (w0 : V.IsRow .u8 w a0 len0 cap0 z0) :
    Calls Try.prog 5 #[.slice a0 len0 cap0] w fun e w' => e = .returned (.bool true) ∧ Below w.heap.size w w' := by
  have hB := w0.bytes
  have hm := hB.1
  by_cases hbig : 4096 < len0
  · have hd : decide (4096 < len0) = true := by simpa using hbig
    clear hB w0
    go_enter Try.func5, Try.ntmps5
    go_wp2_with (first | (go_at_call 14; refine (V.big _ _ _ _ hm).mono ?_; rintro e w' ⟨rfl, rfl⟩))
    go_ret
    exact ⟨rfl, Below.refl _ _⟩
  · have hd : decide (4096 < len0) = false := by simpa using hbig
    clear w0
    have HB := Lib.hid hB
    clear hB
    go_enter Try.func5, Try.ntmps5
    go_wp2_with (go_at_call 14; refine (V.big _ _ _ _ hm).mono ?_; rintro e w' ⟨rfl, rfl⟩)
    refine (V.drawFullPolynomial _ _ _ _ HB.out).mono ?_
    rintro e w1 ⟨ca, cn, cc, c, rfl, hA, hb⟩
    have HC_1 := Lib.hid hA
    have HP_1 := Lib.hid hb
    clear hb hA
    obtain ⟨fv, hfv⟩ : ∃ v, v = M.fullRes c := ⟨_, rfl⟩
    obtain ⟨tv, htv⟩ : ∃ v, v = M.termRes c := ⟨_, rfl⟩
    have hlw : fv.2 = 0 → _ := fun h => M.full_law (f := fv.1) (by rw [← hfv, ← h])
    have HLaw := Lib.hid hlw
    have HFV := Lib.hid hfv
    have HTV := Lib.hid htv
    clear hlw hfv htv
    obtain ⟨f, fc⟩ := fv
    obtain ⟨t, tc⟩ := tv
    go_wp2_with fail
    refine (V.fullPolynomial _ _ _ c _ HC_1.out).mono ?_
    rintro e w2 ⟨a1a, a1n, a1c, rfl, ho, hb⟩
    rw [← HFV.out] at ho ⊢
    have HF_2 := Lib.hid (ho.ints')
    have HC_2 := Lib.hid (HC_1.out.below hb)
    have HP_2 := Lib.hid (V.bnext HP_1.out hb)
    clear HC_1 HP_1
    clear hb ho
    go_wp2_with fail
    refine (V.sFullPolynomial _ _ _ c _ HC_2.out).mono ?_
    rintro e w3 ⟨a2a, a2n, a2c, rfl, ho, hb⟩
    rw [← HFV.out] at ho ⊢
    have HG_3 := Lib.hid (ho.ints')
    have HC_3 := Lib.hid (HC_2.out.below hb)
    have HF_3 := Lib.hid (HF_2.out.below hb)
    have HP_3 := Lib.hid (V.bnext HP_2.out hb)
    clear HC_2 HF_2 HP_2
    clear hb ho
    go_wp2_with fail
    refine (V.drawSameFunction _ _ _ _ (HB.out.below HP_3.out)).mono ?_
    rintro e w4 ⟨da, dn, dc, d, ea, en, ec, d2, rfl, hX, hY, hb⟩
    have HD_4 := Lib.hid (hX)
    have HE_4 := Lib.hid (hY)
    have HC_4 := Lib.hid (HC_3.out.below hb)
    have HF_4 := Lib.hid (HF_3.out.below hb)
    have HG_4 := Lib.hid (HG_3.out.below hb)
    have HP_4 := Lib.hid (V.bnext HP_3.out hb)
    clear HC_3 HF_3 HG_3 HP_3
    clear hb hX hY
    obtain ⟨sv, hsv⟩ : ∃ v, v = M.sameRes d d2 := ⟨_, rfl⟩
    have HSV := Lib.hid hsv
    clear hsv
    obtain ⟨s1, s2⟩ := sv
    go_wp2_with fail
    refine (V.sameFunction _ _ _ d _ _ _ d2 _ HD_4.out HE_4.out).mono ?_
    rintro e w5 ⟨rfl, hb⟩
    rw [← HSV.out]
    have HC_5 := Lib.hid (HC_4.out.below hb)
    have HF_5 := Lib.hid (HF_4.out.below hb)
    have HG_5 := Lib.hid (HG_4.out.below hb)
    have HD_5 := Lib.hid (HD_4.out.below hb)
    have HE_5 := Lib.hid (HE_4.out.below hb)
    have HP_5 := Lib.hid (V.bnext HP_4.out hb)
    clear HC_4 HF_4 HG_4 HD_4 HE_4 HP_4
    clear hb 
    go_wp2_with fail
    refine (V.sSameFunction _ _ _ d _ _ _ d2 _ HD_5.out HE_5.out).mono ?_
    rintro e w6 ⟨rfl, hb⟩
    rw [← HSV.out]
    have HC_6 := Lib.hid (HC_5.out.below hb)
    have HF_6 := Lib.hid (HF_5.out.below hb)
    have HG_6 := Lib.hid (HG_5.out.below hb)
    have HD_6 := Lib.hid (HD_5.out.below hb)
    have HE_6 := Lib.hid (HE_5.out.below hb)
    have HP_6 := Lib.hid (V.bnext HP_5.out hb)
    clear HC_5 HF_5 HG_5 HD_5 HE_5 HP_5
    clear hb 
    clear HD_6 HE_6
    go_wp2_with fail
    refine (V.essentialTermsX _ _ _ c _ HC_6.out).mono ?_
    rintro e w7 ⟨a3a, a3n, a3c, rfl, ho, hb⟩
    rw [← HTV.out] at ho ⊢
    have HT_7 := Lib.hid (ho.ints')
    have HC_7 := Lib.hid (HC_6.out.below hb)
    have HF_7 := Lib.hid (HF_6.out.below hb)
    have HG_7 := Lib.hid (HG_6.out.below hb)
    have HP_7 := Lib.hid (V.bnext HP_6.out hb)
    clear HC_6 HF_6 HG_6 HP_6
    clear hb ho
    go_wp2_with fail
    refine (V.sEssentialTerms _ _ _ c _ HC_7.out).mono ?_
    rintro e w8 ⟨a4a, a4n, a4c, rfl, ho, hb⟩
    rw [← HTV.out] at ho ⊢
    have HU_8 := Lib.hid (ho.ints')
    have HC_8 := Lib.hid (HC_7.out.below hb)
    have HF_8 := Lib.hid (HF_7.out.below hb)
    have HG_8 := Lib.hid (HG_7.out.below hb)
    have HT_8 := Lib.hid (HT_7.out.below hb)
    have HP_8 := Lib.hid (V.bnext HP_7.out hb)
    clear HC_7 HF_7 HG_7 HT_7 HP_7
    clear hb ho
    have hss : (s1 != s1) = false := by simp
    go_wp2_with fail
    refine (V.likeV _ _ _ f _ _ _ _ HF_8.out HG_8.out).mono ?_
    rintro e w9 ⟨rfl, hb⟩
    have HC_9 := Lib.hid (HC_8.out.below hb)
    have HF_9 := Lib.hid (HF_8.out.below hb)
    have HG_9 := Lib.hid (HG_8.out.below hb)
    have HT_9 := Lib.hid (HT_8.out.below hb)
    have HU_9 := Lib.hid (HU_8.out.below hb)
    have HP_9 := Lib.hid (V.bnext HP_8.out hb)
    clear HC_8 HF_8 HG_8 HT_8 HU_8 HP_8
    clear hb 
    clear HG_9
    go_wp2_with fail
    refine (V.likeV _ _ _ t _ _ _ _ HT_9.out HU_9.out).mono ?_
    rintro e w10 ⟨rfl, hb⟩
    have HC_10 := Lib.hid (HC_9.out.below hb)
    have HF_10 := Lib.hid (HF_9.out.below hb)
    have HT_10 := Lib.hid (HT_9.out.below hb)
    have HU_10 := Lib.hid (HU_9.out.below hb)
    have HP_10 := Lib.hid (V.bnext HP_9.out hb)
    clear HC_9 HF_9 HT_9 HU_9 HP_9
    clear hb 
    clear HU_10
    by_cases h0 : fc = 0
    · subst h0
      have hlw := HLaw.out (by first | rfl | trivial)
      obtain ⟨l1, l2, l3, l4, l5, l6, l7⟩ := hlw
      rw [← HTV.out] at l1
      have ht : t = M.iL (M.tL c) := congrArg Prod.fst l1
      clear l1
      have HL2 := Lib.hid l2
      have HL3 := Lib.hid l3
      have HL4 := Lib.hid l4
      have HL5 := Lib.hid l5
      have HL6 := Lib.hid l6
      have HTE := Lib.hid ht
      clear l2 l3 l4 l5 l6 ht HLaw
      go_wp2_with fail
      refine (V.sameFunction _ _ _ c _ _ _ f _ HC_10.out HF_10.out).mono ?_
      rintro e w11 ⟨rfl, hb⟩
      rw [HL2.out]
      have HC_11 := Lib.hid (HC_10.out.below hb)
      have HF_11 := Lib.hid (HF_10.out.below hb)
      have HT_11 := Lib.hid (HT_10.out.below hb)
      have HP_11 := Lib.hid (V.bnext HP_10.out hb)
      clear HC_10 HF_10 HT_10 HP_10
      clear hb 
      go_wp2_with fail
      refine (V.fullPolynomial _ _ _ f _ HF_11.out).mono ?_
      rintro e w12 ⟨b1, b2, b3, rfl, ho, hb⟩
      rw [HL3.out] at ho ⊢
      have HA_12 := Lib.hid (ho.ints')
      have HC_12 := Lib.hid (HC_11.out.below hb)
      have HF_12 := Lib.hid (HF_11.out.below hb)
      have HT_12 := Lib.hid (HT_11.out.below hb)
      have HP_12 := Lib.hid (V.bnext HP_11.out hb)
      clear HC_11 HF_11 HT_11 HP_11
      clear hb ho
      go_wp2_with fail
      refine (V.likeV _ _ _ f _ _ _ _ HA_12.out HF_12.out).mono ?_
      rintro e w13 ⟨rfl, hb⟩
      have HC_13 := Lib.hid (HC_12.out.below hb)
      have HF_13 := Lib.hid (HF_12.out.below hb)
      have HT_13 := Lib.hid (HT_12.out.below hb)
      have HA_13 := Lib.hid (HA_12.out.below hb)
      have HP_13 := Lib.hid (V.bnext HP_12.out hb)
      clear HC_12 HF_12 HT_12 HA_12 HP_12
      clear hb 
      clear HA_13
      go_wp2_with fail
      refine (V.below9 _ _ _ c _ _ _ f _ HC_13.out HF_13.out HL4.out HL5.out).mono ?_
      rintro e w14 ⟨rfl, hb⟩
      have HC_14 := Lib.hid (HC_13.out.below hb)
      have HF_14 := Lib.hid (HF_13.out.below hb)
      have HT_14 := Lib.hid (HT_13.out.below hb)
      have HP_14 := Lib.hid (V.bnext HP_13.out hb)
      clear HC_13 HF_13 HT_13 HP_13
      clear hb 
      have hTL : Hid (a3n = (M.tL c).length) := by have := HT_14.out.1; rw [HTE.out, M.iL_len] at this; exact this.symm
      have hcl : Hid (c.length = cn) := HC_14.out.1
      have HM : Hid (a3n ≤ 12) := by have := hTL.out; show _ ≤ _; omega
      go_wp2
      go_loopw [22] (fun iv wr => ∃ j : Nat, j ≤ a3n ∧ iv = .int .i64 j ∧ Hid (Below w14.heap.size w14 wr)) (fun iv _ => a3n - (intOf iv).toNat)
      case atStart => exact ⟨0, Nat.zero_le _, rfl, Below.refl _ _⟩
      case round =>
        obtain ⟨j, hj, rfl, HBj⟩ := hrel
        obtain ⟨wo, rfl⟩ : ∃ x, x = wr := ⟨_, rfl⟩
        have hm := HM.out
        by_cases hlt : j < a3n
        · have hji : (j : Int) < (a3n : Int) := by omega
          obtain ⟨tb, to, x, rfl, -, hx, hcx⟩ := (HT_14.out.below HBj.out).at j hlt
          rw [HTE.out, M.iL_get (by have := hTL.out; omega)] at hx
          subst hx
          obtain ⟨m, hmE⟩ : ∃ m, m = (M.tL c).getD j 0 := ⟨_, rfl⟩
          obtain ⟨hmc, hmf⟩ := HL6.out j (by have := hTL.out; omega)
          rw [← hmE] at hmc hmf hcx
          have hmn : m < cn := by have := hcl.out; omega
          have hmf2 : m < a1n := by have := HF_14.out.1; have := HL4.out; omega
          obtain ⟨cb, co, y, rfl, -, hy, hcy⟩ := (HC_14.out.below HBj.out).at m hmn
          obtain ⟨fb, fo, z, rfl, -, hz, hcz⟩ := (HF_14.out.below HBj.out).at m hmf2
          obtain rfl : z = y := by rw [hy, hz]; exact hmf
          have hmi : (m : Int) < (cn : Int) := by omega
          have hmi2 : (m : Int) < (a1n : Int) := by omega
          clear hy hz hmf hmc hmE
          go_wp2
          go_quiet (fail)
          go_wp2
          go_roundw
          case rel => exact ⟨j + 1, by omega, by go_num, V.bnext HBj.out (V.b_draws _ _)⟩
          case measure => simp [intOf]; omega
        · obtain rfl : j = a3n := by omega
          go_wp2
          go_ret
          exact ⟨rfl, V.bnext HP_14.out HBj.out⟩
    · have hf1 : (fc != 0) = true := by simpa using h0
      go_wp2
      go_ret
      exact ⟨rfl, HP_10.out⟩
end Go.Proofs.Ytlljnfljcdljaaa.fnFullPolynomials
