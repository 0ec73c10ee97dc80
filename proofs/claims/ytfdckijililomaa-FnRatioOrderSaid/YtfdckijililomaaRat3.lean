/- Contracts of the model's functions that make and compare ratios. -/
import Derived.Test.YtfdckijililomaaRows
import Derived.Test.YtfdckijililomaaMath1
import Derived.Test.YtfdckijililomaaVals
import Derived.Test.YtfdckijililomaaGcd
import Derived.Test.YtfdckijililomaaHelp
import Derived.Test.YtfdckijililomaaRat
import Derived.Test.YtfdckijililomaaRat2
import Derived.WalkKit
import Derived.ProofKit
import Derived.WalkSmall
import Derived.Deep.QuietTactic
import Derived.BigQuiet
import Derived.BigRegion
import Derived.Deep.Draws
namespace Go.Proofs.Ytfdckijililomaa.V
open Go.RowKit

set_option maxRecDepth 100000 in
set_option maxHeartbeats 400000 in
theorem sMakeRatio (n d : Int) (w : World) :
    Calls Try.prog 54 #[.int .i64 n, .int .i64 d] w fun e w' => e = .returned (.tuple #[.agg #[.int .i64 (M.mkRat n d).1, .int .i64 (M.mkRat n d).2.1], .int .i64 (M.mkRat n d).2.2]) ∧ Below w.heap.size w w' := by
  by_cases h1 : M.isFin n = true
  · by_cases h2 : M.isFin d = true
    · obtain ⟨h3, h4⟩ := M.isFin_t h1
      obtain ⟨h5, h6⟩ := M.isFin_t h2
      by_cases h0 : d = 0
      · subst h0
        go_enter Try.func54, Try.ntmps54
        go_wp2_with (first | (go_at_call 111; refine (sFinite _ _).mono ?_; rintro e w' ⟨rfl, rfl⟩))
        exact bodyPost_ret (v := .tuple #[.agg #[.int .i64 0, .int .i64 0], .int .i64 5]) (by simp [results, Try.results54, go_sem]) rfl ⟨retR (M.mkRat_2 h1), b_alloc _ _⟩
      · have h7 : (d == 0) = false := by simpa using h0
        go_enter Try.func54, Try.ntmps54
        go_wp2_with (first | (go_at_call 111; refine (sFinite _ _).mono ?_; rintro e w' ⟨rfl, rfl⟩) | (go_at_call 112; fail))
        refine (sRatio _ _ _ h0 (by omega) (by omega) h5 h6).mono ?_
        rintro e w1 ⟨rfl, hb⟩
        obtain ⟨hc, hf⟩ := bcell hb
        have hz := hb.size
        simp at hz
        have z1 : w.heap.size < w1.heap.size := by omega
        go_wp2
        exact bodyPost_ret (v := .tuple #[.agg #[.int .i64 (M.ratN n d), .int .i64 (M.ratD n d)], .int .i64 0]) (by simp [results, Try.results54, go_sem, z1, hc]) rfl ⟨retR (M.mkRat_3 h1 h2 h0), bel1s hb⟩
    · simp only [Bool.not_eq_true] at h2
      go_enter Try.func54, Try.ntmps54
      go_wp2_with (first | (go_at_call 111; refine (sFinite _ _).mono ?_; rintro e w' ⟨rfl, rfl⟩))
      exact bodyPost_ret (v := .tuple #[.agg #[.int .i64 0, .int .i64 0], .int .i64 1]) (by simp [results, Try.results54, go_sem]) rfl ⟨retR (M.mkRat_1 (by simp [h2])), b_alloc _ _⟩
  · simp only [Bool.not_eq_true] at h1
    go_enter Try.func54, Try.ntmps54
    go_wp2_with (first | (go_at_call 111; refine (sFinite _ _).mono ?_; rintro e w' ⟨rfl, rfl⟩))
    exact bodyPost_ret (v := .tuple #[.agg #[.int .i64 0, .int .i64 0], .int .i64 1]) (by simp [results, Try.results54, go_sem]) rfl ⟨retR (M.mkRat_1 (by simp [h1])), b_alloc _ _⟩

set_option maxRecDepth 100000 in
set_option maxHeartbeats 400000 in
theorem sCompareRatios (a b c d : Int) (w : World) :
    Calls Try.prog 56 #[.agg #[.int .i64 a, .int .i64 b], .agg #[.int .i64 c, .int .i64 d]] w fun e w' => e = .returned (.tuple #[.int .i64 (M.cmpOf a b c d).1, .int .i64 (M.cmpOf a b c d).2]) ∧ Below w.heap.size w w' := by
  by_cases h1 : M.isRat a b = true
  · by_cases h2 : M.isRat c d = true
    · go_enter Try.func56, Try.ntmps56
      go_wp2_with fail
      refine (sIsRatio _ _ _).mono ?_
      rintro e w1 ⟨rfl, hb⟩
      obtain ⟨hc, hf⟩ := bcell hb
      have hz := hb.size
      simp at hz
      have z1 : w.heap.size < w1.heap.size := by omega
      have z2 : w.heap.size + 1 < w1.heap.size := by omega
      go_wp2_with fail
      refine (sIsRatio _ _ _).mono ?_
      rintro e w2 ⟨rfl, hb2⟩
      obtain ⟨hc2, hf2⟩ := bcell hb2
      have hz2 := hb2.size
      go_wp2_with fail
      refine (sCompare _ _ _ _ _ h1 h2).mono ?_
      rintro e w3 ⟨rfl, hb3⟩
      go_wp2
      go_ret2
      exact ⟨retP (by simp [M.cmpOf, h1, h2]), (bel3 hb hb2).trans (hb3.mono (bel3 hb hb2).size)⟩
    · simp only [Bool.not_eq_true] at h2
      go_enter Try.func56, Try.ntmps56
      go_wp2_with fail
      refine (sIsRatio _ _ _).mono ?_
      rintro e w1 ⟨rfl, hb⟩
      obtain ⟨hc, hf⟩ := bcell hb
      go_wp2_with fail
      refine (sIsRatio _ _ _).mono ?_
      rintro e w2 ⟨rfl, hb2⟩
      go_wp2
      go_ret2
      exact ⟨retP (by simp [M.cmpOf, h1, h2]), bel3 hb hb2⟩
  · simp only [Bool.not_eq_true] at h1
    go_enter Try.func56, Try.ntmps56
    go_wp2_with fail
    refine (sIsRatio _ _ _).mono ?_
    rintro e w1 ⟨rfl, hb⟩
    go_wp2
    go_ret2
    exact ⟨retP (by simp [M.cmpOf, h1]), bel2 hb⟩
end Go.Proofs.Ytfdckijililomaa.V
