/- Contracts of the functions of chapter 1 on ratios. -/
import Derived.Test.YtemnnjojeffifaaRows
import Derived.Test.YtemnnjojeffifaaMath1
import Derived.Test.YtemnnjojeffifaaVals
import Derived.Test.YtemnnjojeffifaaGcd
import Derived.Test.YtemnnjojeffifaaHelp
import Derived.WalkKit
import Derived.ProofKit
import Derived.WalkSmall
import Derived.Deep.QuietTactic
import Derived.BigQuiet
import Derived.BigRegion
import Derived.Deep.Draws
namespace Go.Proofs.Ytemnnjojeffifaa.V
open Go.RowKit


set_option maxHeartbeats 400000 in
theorem isRatio (n d : Int) (w : World) :
    Calls Try.prog 36 #[.agg #[.int .i64 n, .int .i64 d]] w fun e w' => e = .returned (.bool (M.isRat n d)) ∧ Below w.heap.size w w' := by
  by_cases h1 : M.isFin n = true
  · by_cases h2 : d < 1
    · go_enter Try.func36, Try.ntmps36
      go_wp2_with (first | (go_at_call 57; refine (isFinite _ _).mono ?_; rintro e w' ⟨rfl, rfl⟩) | (go_at_call 58; refine (divisor _ _ _ (by omega) (by omega) (by omega) (by omega)).mono ?_; rintro e w' ⟨rfl, rfl⟩))
      all_goals
        go_ret
        exact ⟨retB (by simp [M.isRat, h1]; omega), b_alloc _ _⟩
    · have h4 := M.isFin_t h1
      obtain ⟨h5, h6⟩ := h4
      by_cases h3 : d ≤ 1000000
      · go_enter Try.func36, Try.ntmps36
        go_wp2_with (first | (go_at_call 57; refine (isFinite _ _).mono ?_; rintro e w' ⟨rfl, rfl⟩) | (go_at_call 58; refine (divisor _ _ _ (by omega) (by omega) (by omega) (by omega)).mono ?_; rintro e w' ⟨rfl, rfl⟩))
        all_goals
          go_ret
          refine ⟨retB ?_, b_alloc _ _⟩
          have e2 : (1 ≤ d) := by omega
          simp only [M.isRat, h1, e2, h3, decide_true, Bool.true_and]
          rfl
      · go_enter Try.func36, Try.ntmps36
        go_wp2_with (first | (go_at_call 57; refine (isFinite _ _).mono ?_; rintro e w' ⟨rfl, rfl⟩) | (go_at_call 58; refine (divisor _ _ _ (by omega) (by omega) (by omega) (by omega)).mono ?_; rintro e w' ⟨rfl, rfl⟩))
        all_goals
          go_ret
          exact ⟨retB (by simp [M.isRat, h1]; omega), b_alloc _ _⟩
  · simp only [Bool.not_eq_true] at h1
    go_enter Try.func36, Try.ntmps36
    go_wp2_with (first | (go_at_call 57; refine (isFinite _ _).mono ?_; rintro e w' ⟨rfl, rfl⟩) | (go_at_call 58; refine (divisor _ _ _ (by omega) (by omega) (by omega) (by omega)).mono ?_; rintro e w' ⟨rfl, rfl⟩))
    all_goals
      go_ret
      exact ⟨retB (by simp [M.isRat, h1]), b_alloc _ _⟩

set_option maxHeartbeats 400000 in
theorem sIsRatio (n d : Int) (w : World) :
    Calls Try.prog 37 #[.agg #[.int .i64 n, .int .i64 d]] w fun e w' => e = .returned (.bool (M.isRat n d)) ∧ Below w.heap.size w w' := by
  by_cases h1 : M.isFin n = true
  · have h4 := M.isFin_t h1
    obtain ⟨h5, h6⟩ := h4
    by_cases h2 : 1 ≤ d ∧ d ≤ 1000000
    · obtain ⟨h2, h3⟩ := h2
      go_enter Try.func37, Try.ntmps37
      go_wp2_with (first | (go_at_call 52; refine (sFinite _ _).mono ?_; rintro e w' ⟨rfl, rfl⟩) | (go_at_call 55; refine (sIn _ _ _ _).mono ?_; rintro e w' ⟨rfl, rfl⟩) | (go_at_call 63; refine (sDivisor _ _ _ (by omega) (by omega) (by omega) (by omega)).mono ?_; rintro e w' ⟨rfl, nq, rfl⟩))
      all_goals
        go_ret
        refine ⟨retB ?_, b_alloc_draws _ _ _⟩
        simp only [M.isRat, h1, h2, h3, decide_true, Bool.true_and]
        rfl
    · have h3 : (decide (1 ≤ d) && decide (d ≤ 1000000)) = false := by grind
      go_enter Try.func37, Try.ntmps37
      go_wp2_with (first | (go_at_call 52; refine (sFinite _ _).mono ?_; rintro e w' ⟨rfl, rfl⟩) | (go_at_call 55; refine (sIn _ _ _ _).mono ?_; rintro e w' ⟨rfl, rfl⟩) | (go_at_call 63; refine (sDivisor _ _ _ (by omega) (by omega) (by omega) (by omega)).mono ?_; rintro e w' ⟨rfl, nq, rfl⟩))
      all_goals
        go_ret
        exact ⟨retB (by simp [M.isRat, h1]; omega), b_alloc _ _⟩
  · simp only [Bool.not_eq_true] at h1
    go_enter Try.func37, Try.ntmps37
    go_wp2_with (first | (go_at_call 52; refine (sFinite _ _).mono ?_; rintro e w' ⟨rfl, rfl⟩) | (go_at_call 55; refine (sIn _ _ _ _).mono ?_; rintro e w' ⟨rfl, rfl⟩) | (go_at_call 63; refine (sDivisor _ _ _ (by omega) (by omega) (by omega) (by omega)).mono ?_; rintro e w' ⟨rfl, nq, rfl⟩))
    all_goals
      go_ret
      exact ⟨retB (by simp [M.isRat, h1]), b_alloc _ _⟩

theorem retR {n d a b : Int} {c : Int} (h : M.mkRat n d = (a, b, c)) : Ending.returned (.tuple #[.agg #[.int .i64 a, .int .i64 b], .int .i64 c]) = .returned (.tuple #[.agg #[.int .i64 (M.mkRat n d).1, .int .i64 (M.mkRat n d).2.1], .int .i64 (M.mkRat n d).2.2]) := by rw [h]

set_option maxHeartbeats 400000 in
theorem makeRatio (n d : Int) (w : World) :
    Calls Try.prog 31 #[.int .i64 n, .int .i64 d] w fun e w' => e = .returned (.tuple #[.agg #[.int .i64 (M.mkRat n d).1, .int .i64 (M.mkRat n d).2.1], .int .i64 (M.mkRat n d).2.2]) ∧ Below w.heap.size w w' := by
  by_cases h1 : M.isFin n = true
  · by_cases h2 : M.isFin d = true
    · have h3 := M.isFin_t h1
      obtain ⟨h3, h4⟩ := h3
      have h5 := M.isFin_t h2
      obtain ⟨h5, h6⟩ := h5
      by_cases h0 : d = 0
      · subst h0
        go_enter Try.func31, Try.ntmps31
        go_wp2_with (first | (go_at_call 57; refine (isFinite _ _).mono ?_; rintro e w' ⟨rfl, rfl⟩) | (go_at_call 58; refine (divisor _ _ _ (by omega) (by omega) (by omega) (by omega)).mono ?_; rintro e w' ⟨rfl, rfl⟩))
        exact bodyPost_ret (v := .tuple #[.agg #[.int .i64 0, .int .i64 0], .int .i64 5]) (by simp [results, Try.results31, go_sem]) rfl ⟨retR (M.mkRat_2 h1), b_alloc _ _⟩
      · have h7 : (d == 0) = false := by simpa using h0
        have hp := M.gcd_pos (x := n) h0
        have hq := M.gcd_le n d h0 h5 h6
        go_enter Try.func31, Try.ntmps31
        go_wp2_with (first | (go_at_call 57; refine (isFinite _ _).mono ?_; rintro e w' ⟨rfl, rfl⟩) | (go_at_call 58; refine (divisor _ _ _ (by omega) (by omega) (by omega) (by omega)).mono ?_; rintro e w' ⟨rfl, rfl⟩))
        · have hd : d < 0 := by assumption
          have hz : (-(Int.gcd n d : Int) == 0) = false := by simp; omega
          go_region
          go_wp2
          exact bodyPost_ret (v := .tuple #[.agg #[.int .i64 (n.tdiv (-(Int.gcd n d : Int))), .int .i64 (d.tdiv (-(Int.gcd n d : Int)))], .int .i64 0]) (by simp [results, Try.results31, go_sem]; exact ⟨wneg _ _ h3 h4, wneg _ _ h5 h6⟩) rfl ⟨retR (by rw [M.ratN_neg hd, M.ratD_neg hd]; exact M.mkRat_3 h1 h2 h0), (b_alloc _ _).drew⟩
        · have hd : ¬ d < 0 := by omega
          have hz : ((Int.gcd n d : Int) == 0) = false := by simp; omega
          go_region
          go_wp2
          exact bodyPost_ret (v := .tuple #[.agg #[.int .i64 (n.tdiv (Int.gcd n d : Int)), .int .i64 (d.tdiv (Int.gcd n d : Int))], .int .i64 0]) (by simp [results, Try.results31, go_sem]; exact (Int.tdiv_eq_ediv_of_nonneg (by omega)).symm) rfl ⟨retR (by rw [M.ratN_pos (by omega), M.ratD_pos (by omega)]; exact M.mkRat_3 h1 h2 h0), (b_alloc _ _).drew⟩
    · simp only [Bool.not_eq_true] at h2
      go_enter Try.func31, Try.ntmps31
      go_wp2_with (first | (go_at_call 57; refine (isFinite _ _).mono ?_; rintro e w' ⟨rfl, rfl⟩) | (go_at_call 58; refine (divisor _ _ _ (by omega) (by omega) (by omega) (by omega)).mono ?_; rintro e w' ⟨rfl, rfl⟩))
      exact bodyPost_ret (v := .tuple #[.agg #[.int .i64 0, .int .i64 0], .int .i64 1]) (by simp [results, Try.results31, go_sem]) rfl ⟨retR (M.mkRat_1 (by simp [h2])), b_alloc _ _⟩
  · simp only [Bool.not_eq_true] at h1
    go_enter Try.func31, Try.ntmps31
    go_wp2_with (first | (go_at_call 57; refine (isFinite _ _).mono ?_; rintro e w' ⟨rfl, rfl⟩) | (go_at_call 58; refine (divisor _ _ _ (by omega) (by omega) (by omega) (by omega)).mono ?_; rintro e w' ⟨rfl, rfl⟩))
    exact bodyPost_ret (v := .tuple #[.agg #[.int .i64 0, .int .i64 0], .int .i64 1]) (by simp [results, Try.results31, go_sem]) rfl ⟨retR (M.mkRat_1 (by simp [h1])), b_alloc _ _⟩

end Go.Proofs.Ytemnnjojeffifaa.V
