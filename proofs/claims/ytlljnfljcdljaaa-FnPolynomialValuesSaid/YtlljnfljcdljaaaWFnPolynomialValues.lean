/- The walk through the law: it returns true and writes nothing that was there. For every code: sums, products and values of polynomials are those of their models; the value of the sum is the greatest, and that of the product the sum. -/
import Derived.Test.YtlljnfljcdljaaaRows
import Derived.Test.YtlljnfljcdljaaaQa1
import Derived.Test.YtlljnfljcdljaaaQa11
import Derived.Test.YtlljnfljcdljaaaQa13
import Derived.Test.YtlljnfljcdljaaaQa20
import Derived.Test.YtlljnfljcdljaaaQa30
import Derived.Test.YtlljnfljcdljaaaQa33
import Derived.Test.YtlljnfljcdljaaaQa31
import Derived.Test.YtlljnfljcdljaaaQa32
import Derived.WalkKit
import Derived.ProofKit
import Derived.OpenShut
import Derived.ShutString
import Derived.ChangeOld
import Derived.Below
import Derived.Lib.SmallJoins
import Derived.Lib.Hide
import Derived.WalkSmall
import Derived.Deep.Draws
import Derived.Deep.QuietTactic
import Derived.BigQuiet
import Derived.Deep.OwnRows
import Derived.Deep.RegionWith
import Derived.Deep.RegionHeld3
set_option linter.unusedSimpArgs false
set_option linter.unusedVariables false
set_option linter.unusedSectionVars false
namespace Go.Proofs.Ytlljnfljcdljaaa.fnPolynomialValues
open Go.ChangeShapes Go.WideShapes Go.ChangeAt Go.RowKit
open Go.ChangeMaps (open_string shut_string)
set_option linter.unusedVariables false

set_option maxRecDepth 100000 in
set_option maxHeartbeats 4000000 in
theorem walk (a0 : Option Addr) (len0 cap0 : Nat) (z0 : List Int) (w : World) (w0 : V.IsRow .u8 w a0 len0 cap0 z0) :
    Calls Try.prog 3 #[.slice a0 len0 cap0] w fun e w' => e = .returned (.bool true) ∧ Below w.heap.size w w' := by
  have hB := w0.bytes
  have hm := hB.1
  by_cases hbig : 4096 < len0
  · have hd : decide (4096 < len0) = true := by simpa using hbig
    clear hB w0
    go_enter Try.func3, Try.ntmps3
    go_wp2_with (first | (go_at_call 14; refine (V.big _ _ _ _ hm).mono ?_; rintro e w' ⟨rfl, rfl⟩))
    go_ret
    exact ⟨rfl, Below.refl _ _⟩
  · have hd : decide (4096 < len0) = false := by simpa using hbig
    clear w0
    have HB := Lib.hid hB
    clear hB
    go_enter Try.func3, Try.ntmps3
    go_wp2_with (go_at_call 14; refine (V.big _ _ _ _ hm).mono ?_; rintro e w' ⟨rfl, rfl⟩)
    refine (V.drawAddPolynomials _ _ _ _ HB.out).mono ?_
    rintro e w1 ⟨ca, cn, cc, c, da, dn, dc, d, rfl, hA, hX, hb⟩
    have HC_1 := Lib.hid hA
    have HD_1 := Lib.hid hX
    have HP_1 := Lib.hid hb
    clear hb hA hX
    obtain ⟨sv, hsv⟩ : ∃ v, v = M.addPRes c d := ⟨_, rfl⟩
    obtain ⟨pv, hpv⟩ : ∃ v, v = M.mulPRes c d := ⟨_, rfl⟩
    have hlw : ∀ (x : Int) (a b s q : Int × Int), sv.2 = 0 → pv.2 = 0 → M.isFin x = true → a = M.evalRes c x → b = M.evalRes d x → s = M.evalRes sv.1 x → q = M.evalRes pv.1 x → _ := fun x a b s q h1 h2 h3 h4 h5 h6 h7 => M.ev_law (s := s) (p := q) (by rw [← hsv]; exact h1) (by rw [← hpv]; exact h2) h3 h4 h5 (by rw [← hsv]; exact h6) (by rw [← hpv]; exact h7)
    have HLaw := Lib.hid hlw
    have HSV := Lib.hid hsv
    have HPV := Lib.hid hpv
    clear hlw hsv hpv
    obtain ⟨s, sc⟩ := sv
    obtain ⟨q, qc⟩ := pv
    go_wp2_with fail
    refine (V.addPolynomials _ _ _ c _ _ _ d _ HC_1.out HD_1.out).mono ?_
    rintro e w2 ⟨a1a, a1n, a1c, rfl, ho, hb⟩
    rw [← HSV.out] at ho ⊢
    have HS_2 := Lib.hid (ho.ints')
    have HC_2 := Lib.hid (HC_1.out.below hb)
    have HD_2 := Lib.hid (HD_1.out.below hb)
    have HP_2 := Lib.hid (V.bnext HP_1.out hb)
    clear HC_1 HD_1 HP_1
    clear hb ho
    go_wp2_with fail
    refine (V.sAddPolynomials _ _ _ c _ _ _ d _ HC_2.out HD_2.out).mono ?_
    rintro e w3 ⟨a2a, a2n, a2c, rfl, ho, hb⟩
    rw [← HSV.out] at ho ⊢
    have HT_3 := Lib.hid (ho.ints')
    have HC_3 := Lib.hid (HC_2.out.below hb)
    have HD_3 := Lib.hid (HD_2.out.below hb)
    have HS_3 := Lib.hid (HS_2.out.below hb)
    have HP_3 := Lib.hid (V.bnext HP_2.out hb)
    clear HC_2 HD_2 HS_2 HP_2
    clear hb ho
    go_wp2_with fail
    refine (V.multiplyPolynomials _ _ _ c _ _ _ d _ HC_3.out HD_3.out).mono ?_
    rintro e w4 ⟨a3a, a3n, a3c, rfl, ho, hb⟩
    rw [← HPV.out] at ho ⊢
    have HQ_4 := Lib.hid (ho.ints')
    have HC_4 := Lib.hid (HC_3.out.below hb)
    have HD_4 := Lib.hid (HD_3.out.below hb)
    have HS_4 := Lib.hid (HS_3.out.below hb)
    have HT_4 := Lib.hid (HT_3.out.below hb)
    have HP_4 := Lib.hid (V.bnext HP_3.out hb)
    clear HC_3 HD_3 HS_3 HT_3 HP_3
    clear hb ho
    go_wp2_with fail
    refine (V.sMultiplyPolynomials _ _ _ c _ _ _ d _ HC_4.out HD_4.out).mono ?_
    rintro e w5 ⟨a4a, a4n, a4c, rfl, ho, hb⟩
    rw [← HPV.out] at ho ⊢
    have HR_5 := Lib.hid (ho.ints')
    have HC_5 := Lib.hid (HC_4.out.below hb)
    have HD_5 := Lib.hid (HD_4.out.below hb)
    have HS_5 := Lib.hid (HS_4.out.below hb)
    have HT_5 := Lib.hid (HT_4.out.below hb)
    have HQ_5 := Lib.hid (HQ_4.out.below hb)
    have HP_5 := Lib.hid (V.bnext HP_4.out hb)
    clear HC_4 HD_4 HS_4 HT_4 HQ_4 HP_4
    clear hb ho
    go_wp2_with fail
    refine (V.drawEvaluatePolynomial _ _ _ _ (HB.out.below HP_5.out)).mono ?_
    rintro e w6 ⟨ea, en, ec, el, ex, rfl, -, hX, hb⟩
    have HE_6 := Lib.hid (hX)
    have HC_6 := Lib.hid (HC_5.out.below hb)
    have HD_6 := Lib.hid (HD_5.out.below hb)
    have HS_6 := Lib.hid (HS_5.out.below hb)
    have HT_6 := Lib.hid (HT_5.out.below hb)
    have HQ_6 := Lib.hid (HQ_5.out.below hb)
    have HR_6 := Lib.hid (HR_5.out.below hb)
    have HP_6 := Lib.hid (V.bnext HP_5.out hb)
    clear HC_5 HD_5 HS_5 HT_5 HQ_5 HR_5 HP_5
    clear hb hX
    obtain ⟨ev, hev⟩ : ∃ v, v = M.evalRes el ex := ⟨_, rfl⟩
    have HEV := Lib.hid hev
    clear hev
    obtain ⟨ev1, ev2⟩ := ev
    go_wp2_with fail
    refine (V.evaluatePolynomial _ _ _ el ex _ HE_6.out).mono ?_
    rintro e w7 ⟨rfl, hb⟩
    rw [← HEV.out]
    have HC_7 := Lib.hid (HC_6.out.below hb)
    have HD_7 := Lib.hid (HD_6.out.below hb)
    have HS_7 := Lib.hid (HS_6.out.below hb)
    have HT_7 := Lib.hid (HT_6.out.below hb)
    have HQ_7 := Lib.hid (HQ_6.out.below hb)
    have HR_7 := Lib.hid (HR_6.out.below hb)
    have HE_7 := Lib.hid (HE_6.out.below hb)
    have HP_7 := Lib.hid (V.bnext HP_6.out hb)
    clear HC_6 HD_6 HS_6 HT_6 HQ_6 HR_6 HE_6 HP_6
    clear hb 
    go_wp2_with fail
    refine (V.sEvaluatePolynomial _ _ _ el ex _ HE_7.out).mono ?_
    rintro e w8 ⟨rfl, hb⟩
    rw [← HEV.out]
    have HC_8 := Lib.hid (HC_7.out.below hb)
    have HD_8 := Lib.hid (HD_7.out.below hb)
    have HS_8 := Lib.hid (HS_7.out.below hb)
    have HT_8 := Lib.hid (HT_7.out.below hb)
    have HQ_8 := Lib.hid (HQ_7.out.below hb)
    have HR_8 := Lib.hid (HR_7.out.below hb)
    have HE_8 := Lib.hid (HE_7.out.below hb)
    have HP_8 := Lib.hid (V.bnext HP_7.out hb)
    clear HC_7 HD_7 HS_7 HT_7 HQ_7 HR_7 HE_7 HP_7
    clear hb 
    clear HE_8
    obtain ⟨v1, hv1⟩ : ∃ v, v = M.isPoly c := ⟨_, rfl⟩
    have HV1 := Lib.hid hv1.symm
    clear hv1
    go_wp2_with fail
    refine (V.likeV _ _ _ s _ _ _ _ HS_8.out HT_8.out).mono ?_
    rintro e w9 ⟨rfl, hb⟩
    have HC_9 := Lib.hid (HC_8.out.below hb)
    have HD_9 := Lib.hid (HD_8.out.below hb)
    have HS_9 := Lib.hid (HS_8.out.below hb)
    have HT_9 := Lib.hid (HT_8.out.below hb)
    have HQ_9 := Lib.hid (HQ_8.out.below hb)
    have HR_9 := Lib.hid (HR_8.out.below hb)
    have HP_9 := Lib.hid (V.bnext HP_8.out hb)
    clear HC_8 HD_8 HS_8 HT_8 HQ_8 HR_8 HP_8
    clear hb 
    clear HT_9
    go_wp2_with fail
    refine (V.likeV _ _ _ q _ _ _ _ HQ_9.out HR_9.out).mono ?_
    rintro e w10 ⟨rfl, hb⟩
    have HC_10 := Lib.hid (HC_9.out.below hb)
    have HD_10 := Lib.hid (HD_9.out.below hb)
    have HS_10 := Lib.hid (HS_9.out.below hb)
    have HQ_10 := Lib.hid (HQ_9.out.below hb)
    have HR_10 := Lib.hid (HR_9.out.below hb)
    have HP_10 := Lib.hid (V.bnext HP_9.out hb)
    clear HC_9 HD_9 HS_9 HQ_9 HR_9 HP_9
    clear hb 
    clear HR_10
    go_wp2_with fail
    refine (V.isPolynomial_b _ _ _ c _ v1 HV1.out HC_10.out).mono ?_
    rintro e w' ⟨rfl, rfl⟩
    go_wp2_with fail
    refine (V.sIsPolynomial_b _ _ _ c _ v1 HV1.out HC_10.out).mono ?_
    rintro e w' ⟨rfl, rfl⟩
    have hvv : (v1 != v1) = false := by simp
    by_cases h0 : sc = 0
    · subst h0
      by_cases h0 : qc = 0
      · subst h0
        go_wp2_with fail
        refine (V.roll _ _ _ _ _ (HB.out.below HP_10.out)).mono ?_
        rintro e wd ⟨rfl, hdi, hbd⟩
        have HDi := Lib.hid hdi
        have HBd := Lib.hid hbd
        clear hdi hbd
        go_wp2_with fail
        refine (V.below_ _ 41 _ HDi.out (by omega) (by omega)).mono ?_
        rintro e w11 ⟨x, rfl, hx0, hx1, -, ht⟩
        have hb := HBd.out.trans ht.below
        clear ht HBd HDi
        have HC_11 := Lib.hid (HC_10.out.below hb)
        have HD_11 := Lib.hid (HD_10.out.below hb)
        have HS_11 := Lib.hid (HS_10.out.below hb)
        have HQ_11 := Lib.hid (HQ_10.out.below hb)
        have HP_11 := Lib.hid (V.bnext HP_10.out hb)
        clear HC_10 HD_10 HS_10 HQ_10 HP_10
        clear hb 
        have hxf : M.isFin (x - 20) = true := by simp [M.isFin]; omega
        obtain ⟨r1, hr1⟩ : ∃ v, v = M.evalRes c (x - 20) := ⟨_, rfl⟩
        obtain ⟨r2, hr2⟩ : ∃ v, v = M.evalRes d (x - 20) := ⟨_, rfl⟩
        obtain ⟨r3, hr3⟩ : ∃ v, v = M.evalRes s (x - 20) := ⟨_, rfl⟩
        obtain ⟨r4, hr4⟩ : ∃ v, v = M.evalRes q (x - 20) := ⟨_, rfl⟩
        have hlaw := HLaw.out (x - 20) r1 r2 r3 r4 (by first | rfl | trivial) (by first | rfl | trivial) hxf hr1 hr2 hr3 hr4
        have HR1 := Lib.hid hr1
        clear hr1
        obtain ⟨r1v, r1c⟩ := r1
        have HR2 := Lib.hid hr2
        clear hr2
        obtain ⟨r2v, r2c⟩ := r2
        have HR3 := Lib.hid hr3
        clear hr3
        obtain ⟨r3v, r3c⟩ := r3
        have HR4 := Lib.hid hr4
        clear hr4
        obtain ⟨r4v, r4c⟩ := r4
        have HLw := Lib.hid hlaw
        clear hlaw hxf HLaw
        go_wp2_with fail
        refine (V.evaluatePolynomial _ _ _ c (x - 20) _ HC_11.out).mono ?_
        rintro e w12 ⟨rfl, hb⟩
        rw [← HR1.out]
        have HC_12 := Lib.hid (HC_11.out.below hb)
        have HD_12 := Lib.hid (HD_11.out.below hb)
        have HS_12 := Lib.hid (HS_11.out.below hb)
        have HQ_12 := Lib.hid (HQ_11.out.below hb)
        have HP_12 := Lib.hid (V.bnext HP_11.out hb)
        clear HC_11 HD_11 HS_11 HQ_11 HP_11
        clear hb 
        go_wp2_with fail
        refine (V.evaluatePolynomial _ _ _ d (x - 20) _ HD_12.out).mono ?_
        rintro e w13 ⟨rfl, hb⟩
        rw [← HR2.out]
        have HC_13 := Lib.hid (HC_12.out.below hb)
        have HD_13 := Lib.hid (HD_12.out.below hb)
        have HS_13 := Lib.hid (HS_12.out.below hb)
        have HQ_13 := Lib.hid (HQ_12.out.below hb)
        have HP_13 := Lib.hid (V.bnext HP_12.out hb)
        clear HC_12 HD_12 HS_12 HQ_12 HP_12
        clear hb 
        go_wp2_with fail
        refine (V.evaluatePolynomial _ _ _ s (x - 20) _ HS_13.out).mono ?_
        rintro e w14 ⟨rfl, hb⟩
        rw [← HR3.out]
        have HC_14 := Lib.hid (HC_13.out.below hb)
        have HD_14 := Lib.hid (HD_13.out.below hb)
        have HS_14 := Lib.hid (HS_13.out.below hb)
        have HQ_14 := Lib.hid (HQ_13.out.below hb)
        have HP_14 := Lib.hid (V.bnext HP_13.out hb)
        clear HC_13 HD_13 HS_13 HQ_13 HP_13
        clear hb 
        go_wp2_with fail
        refine (V.evaluatePolynomial _ _ _ q (x - 20) _ HQ_14.out).mono ?_
        rintro e w15 ⟨rfl, hb⟩
        rw [← HR4.out]
        have HC_15 := Lib.hid (HC_14.out.below hb)
        have HD_15 := Lib.hid (HD_14.out.below hb)
        have HS_15 := Lib.hid (HS_14.out.below hb)
        have HQ_15 := Lib.hid (HQ_14.out.below hb)
        have HP_15 := Lib.hid (V.bnext HP_14.out hb)
        clear HC_14 HD_14 HS_14 HQ_14 HP_14
        clear hb 
        rcases HLw.out with h | ⟨h, h2⟩ | ⟨h, h2, h3, h4, ⟨h5, h6⟩, h7⟩
        · change r1c = 3 at h
          subst h
          go_wp2
          go_ret
          exact ⟨rfl, HP_15.out⟩
        · change r1c = 0 at h
          change r2c = 3 at h2
          subst h h2
          go_wp2
          go_ret
          exact ⟨rfl, HP_15.out⟩
        · change r1c = 0 at h
          change r2c = 0 at h2
          change r3c = 0 at h3
          change r3v = max r1v r2v at h4
          change r4c = 3 ∨ r4c = 0 ∧ r4v = r1v + r2v at h7
          change -2000000000000000 ≤ r1v + r2v at h5
          change r1v + r2v ≤ 2000000 at h6
          subst h h2 h3 h4
          rcases h7 with h7 | ⟨h7, h8⟩
          · subst h7
            go_wp2
            all_goals go_ret
            all_goals exact ⟨rfl, HP_15.out⟩
          · subst h7 h8
            go_wp2
            all_goals go_ret
            all_goals exact ⟨rfl, HP_15.out⟩
      · have hq1 : (qc != 0) = true := by simpa using h0
        go_wp2
        go_ret
        exact ⟨rfl, HP_10.out⟩
    · have hs1 : (sc != 0) = true := by simpa using h0
      go_wp2
      go_ret
      exact ⟨rfl, HP_10.out⟩
end Go.Proofs.Ytlljnfljcdljaaa.fnPolynomialValues
