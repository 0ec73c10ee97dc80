/- The walk through the law: it returns true and writes nothing that was there. For every code: transposing twice restores a matrix, the product of a matrix and its transpose is its own transpose, and TransposeMatrix answers as its model. -/
import Derived.Test.YtlljnfljcdljaabRows
import Derived.Test.YtlljnfljcdljaabQb1
import Derived.Test.YtlljnfljcdljaabQb9
import Derived.Test.YtlljnfljcdljaabQb2
import Derived.Test.YtlljnfljcdljaabQb4
import Derived.Test.YtlljnfljcdljaabQb7
import Derived.Test.YtlljnfljcdljaabQb5
import Derived.Test.YtlljnfljcdljaabQb8
import Derived.WalkKit
import Derived.ProofKit
import Derived.OpenShut
import Derived.ShutString
import Derived.ChangeOld
import Derived.Below
import Derived.Lib.SmallJoins
import Derived.Lib.Hide
import Derived.WalkSmall
import Derived.Deep.Draws
import Derived.Deep.QuietTactic
import Derived.BigQuiet
import Derived.Deep.OwnRows
import Derived.Deep.RegionWith
import Derived.Deep.RegionHeld3
set_option linter.unusedSimpArgs false
set_option linter.unusedVariables false
set_option linter.unusedSectionVars false
namespace Go.Proofs.Ytlljnfljcdljaab.fnTransposes
open Go.ChangeShapes Go.WideShapes Go.ChangeAt Go.RowKit
open Go.ChangeMaps (open_string shut_string)
set_option linter.unusedVariables false

set_option maxRecDepth 100000 in
set_option maxHeartbeats 4000000 in
theorem walk (a0 : Option Addr) (len0 cap0 : Nat) (z0 : List Int) (w : World) (w0 : V.IsRow .u8 w a0 len0 cap0 z0) :
    Calls Try.prog 6 #[.slice a0 len0 cap0] w fun e w' => e = .returned (.bool true) ∧ Below w.heap.size w w' := by
  have hB := w0.bytes
  have hm := hB.1
  by_cases hbig : 4096 < len0
  · have hd : decide (4096 < len0) = true := by simpa using hbig
    clear hB w0
    go_enter Try.func6, Try.ntmps6
    go_wp2_with (first | (go_at_call 12; refine (V.big _ _ _ _ hm).mono ?_; rintro e w' ⟨rfl, rfl⟩))
    go_ret
    exact ⟨rfl, Below.refl _ _⟩
  · have hd : decide (4096 < len0) = false := by simpa using hbig
    clear w0
    have HB := Lib.hid hB
    clear hB
    go_enter Try.func6, Try.ntmps6
    go_wp2_with (go_at_call 12; refine (V.big _ _ _ _ hm).mono ?_; rintro e w' ⟨rfl, rfl⟩)
    refine (V.drawTransposeMatrix _ _ _ _ HB.out).mono ?_
    rintro e w1 ⟨a, n, cap, R, rfl, hA, hb⟩
    have HA := Lib.hid hA
    have HB1 := Lib.hid hb
    clear hb hA
    by_cases hR : M.isMat R = true
    · have HR := Lib.hid hR
      have HE : Hid (M.transRes R = (M.transM R, 0)) := by show _ = _; unfold M.transRes; rw [if_pos hR]
      have HE2 := Lib.hid (M.transRes_back hR)
      clear hR
      go_wp2_with fail
      refine (V.transposeMatrix _ _ _ R _ HA.out).mono ?_
      rintro e w2 ⟨ta, tn, tc, rfl, ho, hb⟩
      rw [HE.out] at ho ⊢
      have HT := Lib.hid ho.mat
      have HA2 := Lib.hid (HA.out.below hb)
      have HB2 := Lib.hid (V.bnext HB1.out hb)
      clear ho hb
      go_wp2_with fail
      refine (V.sTransposeMatrix _ _ _ R _ HA2.out).mono ?_
      rintro e w3 ⟨sa, sn, sc, rfl, ho, hb⟩
      rw [HE.out] at ho ⊢
      have HS := Lib.hid ho.mat
      have HT3 := Lib.hid (HT.out.below hb)
      have HA3 := Lib.hid (HA2.out.below hb)
      have HB3 := Lib.hid (V.bnext HB2.out hb)
      clear ho hb HA HA2 HT
      go_wp2_with fail
      refine (V.likeM _ _ _ (M.transM R) _ _ _ _ HT3.out HS.out).mono ?_
      rintro e w4 ⟨rfl, hb⟩
      have HT4 := Lib.hid (HT3.out.below hb)
      have HA4 := Lib.hid (HA3.out.below hb)
      have HB4 := Lib.hid (V.bnext HB3.out hb)
      clear hb HA3 HT3 HS
      go_wp2_with fail
      refine (V.transposeMatrix _ _ _ (M.transM R) _ HT4.out).mono ?_
      rintro e w5 ⟨ba, bn, bc, rfl, ho, hb⟩
      rw [HE2.out] at ho ⊢
      have HK5 := Lib.hid ho.mat
      have HT5 := Lib.hid (HT4.out.below hb)
      have HA5 := Lib.hid (HA4.out.below hb)
      have HB5 := Lib.hid (V.bnext HB4.out hb)
      clear ho hb HA4 HT4
      go_wp2_with fail
      refine (V.multiplyMatrices _ _ _ R _ _ _ (M.transM R) _ HA5.out HT5.out).mono ?_
      rintro e w6 ⟨pa, pn, pc, rfl, ho, hb⟩
      rcases M.mulRes_turn HR.out with hp | ⟨hM, hp, hq⟩
      · rw [hp] at ho ⊢
        have HP6 := Lib.hid ho.mat
        have HK6 := Lib.hid (HK5.out.below hb)
        have HA6 := Lib.hid (HA5.out.below hb)
        have HB6 := Lib.hid (V.bnext HB5.out hb)
        have HE3 : Hid (M.transRes [] = ([], 1)) := rfl
        clear ho hb hp HA5 HT5 HK5
        go_wp2_with fail
        refine (V.transposeMatrix _ _ _ [] _ HP6.out).mono ?_
        rintro e w7 ⟨qa, qn, qc, rfl, ho, hb⟩
        rw [HE3.out] at ho ⊢
        have HK7 := Lib.hid (HK6.out.below hb)
        have HA7 := Lib.hid (HA6.out.below hb)
        have HB7 := Lib.hid (V.bnext HB6.out hb)
        clear ho hb HA6 HK6 HP6
        go_wp2_with fail
        refine (V.likeM _ _ _ R _ _ _ _ HK7.out HA7.out).mono ?_
        rintro e w8 ⟨rfl, hb⟩
        have HB8 := Lib.hid (V.bnext HB7.out hb)
        clear hb
        go_wp2
        go_ret
        exact ⟨rfl, HB8.out⟩
      · rw [hp] at ho ⊢
        have HP6 := Lib.hid ho.mat
        have HK6 := Lib.hid (HK5.out.below hb)
        have HA6 := Lib.hid (HA5.out.below hb)
        have HB6 := Lib.hid (V.bnext HB5.out hb)
        have HQ := Lib.hid hq
        clear ho hb hp hq hM HA5 HT5 HK5
        go_wp2_with fail
        refine (V.transposeMatrix _ _ _ (M.mulM R (M.transM R)) _ HP6.out).mono ?_
        rintro e w7 ⟨qa, qn, qc, rfl, ho, hb⟩
        rw [HQ.out] at ho ⊢
        have HQ7 := Lib.hid ho.mat
        have HP7 := Lib.hid (HP6.out.below hb)
        have HK7 := Lib.hid (HK6.out.below hb)
        have HA7 := Lib.hid (HA6.out.below hb)
        have HB7 := Lib.hid (V.bnext HB6.out hb)
        clear ho hb HA6 HK6 HP6
        go_wp2_with fail
        refine (V.likeM _ _ _ R _ _ _ _ HK7.out HA7.out).mono ?_
        rintro e w8 ⟨rfl, hb⟩
        have HQ8 := Lib.hid (HQ7.out.below hb)
        have HP8 := Lib.hid (HP7.out.below hb)
        have HB8 := Lib.hid (V.bnext HB7.out hb)
        clear hb HA7 HK7 HQ7 HP7
        go_wp2_with fail
        refine (V.likeM _ _ _ (M.mulM R (M.transM R)) _ _ _ _ HQ8.out HP8.out).mono ?_
        rintro e w9 ⟨rfl, hb⟩
        have HB9 := Lib.hid (V.bnext HB8.out hb)
        clear hb
        go_wp2
        go_ret
        exact ⟨rfl, HB9.out⟩
    · simp only [Bool.not_eq_true] at hR
      have HE : Hid (M.transRes R = ([], 1)) := by show _ = _; unfold M.transRes; rw [hR, if_neg (by simp)]
      clear hR
      go_wp2_with fail
      refine (V.transposeMatrix _ _ _ R _ HA.out).mono ?_
      rintro e w2 ⟨ta, tn, tc, rfl, ho, hb⟩
      rw [HE.out] at ho ⊢
      have HT := Lib.hid ho.mat
      have HA2 := Lib.hid (HA.out.below hb)
      have HB2 := Lib.hid (V.bnext HB1.out hb)
      clear ho hb
      go_wp2_with fail
      refine (V.sTransposeMatrix _ _ _ R _ HA2.out).mono ?_
      rintro e w3 ⟨sa, sn, sc, rfl, ho, hb⟩
      rw [HE.out] at ho ⊢
      have HS := Lib.hid ho.mat
      have HT3 := Lib.hid (HT.out.below hb)
      have HB3 := Lib.hid (V.bnext HB2.out hb)
      clear ho hb HA HA2 HT
      go_wp2_with fail
      refine (V.likeM _ _ _ [] _ _ _ _ HT3.out HS.out).mono ?_
      rintro e w4 ⟨rfl, hb⟩
      have HB4 := Lib.hid (V.bnext HB3.out hb)
      clear hb
      go_wp2
      go_ret
      exact ⟨rfl, HB4.out⟩
end Go.Proofs.Ytlljnfljcdljaab.fnTransposes
