/- Texts laid together: Gcd, Rat, Rat2. -/
import Derived.Test.YtmldjmlihkcchabRows
import Derived.Test.YtmldjmlihkcchabPln
import Derived.Test.YtmldjmlihkcchabVals
import Derived.WalkKit
import Derived.ProofKit
import Derived.Deep.QuietTactic
import Derived.BigQuiet
import Derived.Deep.Draws
import Derived.Test.YtmldjmlihkcchabHelp
import Derived.WalkSmall
import Derived.BigRegion
namespace Go.Proofs.Ytmldjmlihkcchab.V
open Go.RowKit

set_option maxRecDepth 100000 in
set_option maxHeartbeats 400000 in
theorem divisor (a b : Int) (w : World) (a1 : -1000000000000 ≤ a) (a2 : a ≤ 1000000000000) (b1 : -1000000000000 ≤ b) (b2 : b ≤ 1000000000000) :
    Calls Try.prog 82 #[.int .i64 a, .int .i64 b] w fun e w' => e = .returned (.int .i64 (Int.gcd a b)) ∧ w = w' := by
  go_enter Try.func82, Try.ntmps82
  go_wp2
  go_loop [0, 1] (fun p q => ∃ x y : Int, p = .int .i64 x ∧ q = .int .i64 y ∧ Int.gcd x y = Int.gcd a b ∧ -1000000000000 ≤ x ∧ x ≤ 1000000000000 ∧ -1000000000000 ≤ y ∧ y ≤ 1000000000000) (fun p _ => (intOf p).natAbs)
  case atStart => exact ⟨a, b, rfl, rfl, rfl, a1, a2, b1, b2⟩
  case round =>
    obtain ⟨x, y, rfl, rfl, hg, x1, x2, y1, y2⟩ := hrel
    have HG : Hid (Int.gcd x y = Int.gcd a b) := hg
    clear hg
    by_cases hx : x = 0
    · subst hx
      by_cases hy : y < 0
      · go_wp2
        go_ret
        exact ⟨retI (by have := HG.out; rw [← this, M.gcd_zero, if_pos hy]), rfl⟩
      · go_wp2
        go_ret
        exact ⟨retI (by have := HG.out; rw [← this, M.gcd_zero, if_neg (by omega)]), rfl⟩
    · have hx' : (x != 0) = true := by simpa using hx
      have hx'' : (x == 0) = false := by simpa using hx
      have hl := M.tmod_lt x y hx
      have HS : Hid (Int.gcd (y.tmod x) x = Int.gcd a b) := by rw [M.gcd_step]; exact HG.out
      have l1 : -1000000000000 ≤ y.tmod x := by generalize y.tmod x = z at *; omega
      have l2 : y.tmod x ≤ 1000000000000 := by generalize y.tmod x = z at *; omega
      have HL : Hid ((y.tmod x).natAbs < x.natAbs) := hl
      clear hl
      go_wp2
      go_round
      case rel => exact ⟨_, _, rfl, rfl, HS.out, l1, l2, x1, x2⟩
      case measure => exact HL.out

set_option maxRecDepth 100000 in
set_option maxHeartbeats 400000 in
theorem sDivisor (a b : Int) (w : World) (a1 : -1000000000000 ≤ a) (a2 : a ≤ 1000000000000) (b1 : -1000000000000 ≤ b) (b2 : b ≤ 1000000000000) :
    Calls Try.prog 79 #[.int .i64 a, .int .i64 b] w fun e w' => e = .returned (.int .i64 (Int.gcd a b)) ∧ ∃ n, w' = w.drewN n := by
  go_enter Try.func79, Try.ntmps79
  go_wp2
  all_goals
    go_loopw [0, 1] (fun p q wr => ∃ x y : Int, p = .int .i64 x ∧ q = .int .i64 y ∧ Int.gcd x y = Int.gcd a b ∧ 0 ≤ x ∧ x ≤ 1000000000000 ∧ 0 ≤ y ∧ y ≤ 1000000000000 ∧ ∃ n, wr = w.drewN n) (fun _ q _ => (intOf q).natAbs)
    case atStart => exact ⟨_, _, rfl, rfl, by simp, by omega, by omega, by omega, by omega, 0, rfl⟩
    case round =>
      obtain ⟨x, y, rfl, rfl, hg, x1, x2, y1, y2, n, rfl⟩ := hrel
      have HG : Hid (Int.gcd x y = Int.gcd a b) := hg
      clear hg
      by_cases hy : y = 0
      · subst hy
        go_wp2
        go_ret
        exact ⟨retI (by have := HG.out; rw [← this, M.gcd_zero' x x1]), n, rfl⟩
      · have hy' : (y != 0) = true := by simpa using hy
        have hy'' : (y == 0) = false := by simpa using hy
        have hy3 : 0 < y := by omega
        clear hy
        have l1 : 0 ≤ x % y := Int.emod_nonneg _ (by omega)
        have l2 : x % y < y := Int.emod_lt_of_pos _ hy3
        have HS : Hid (Int.gcd y (x % y) = Int.gcd a b) := by show _ = _; rw [M.gcd_step' _ _ x1]; exact HG.out
        go_wp2
        go_quiet (fail)
        go_wp2
        go_roundw
        case rel => exact ⟨_, _, rfl, rfl, HS.out, y1, y2, l1, by omega, _, World.drewN_drewN _ _ _⟩
        case measure => simp [intOf]; omega
end Go.Proofs.Ytmldjmlihkcchab.V

namespace Go.Proofs.Ytmldjmlihkcchab.V
open Go.RowKit


set_option maxRecDepth 100000 in
set_option maxHeartbeats 400000 in
theorem isRatio (n d : Int) (w : World) :
    Calls Try.prog 69 #[.agg #[.int .i64 n, .int .i64 d]] w fun e w' => e = .returned (.bool (M.isRat n d)) ∧ Below w.heap.size w w' := by
  by_cases h1 : M.isFin n = true
  · by_cases h2 : d < 1
    · go_enter Try.func69, Try.ntmps69
      go_wp2_with (first | (go_at_call 81; refine (isFinite _ _).mono ?_; rintro e w' ⟨rfl, rfl⟩) | (go_at_call 82; refine (divisor _ _ _ (by omega) (by omega) (by omega) (by omega)).mono ?_; rintro e w' ⟨rfl, rfl⟩))
      all_goals
        go_ret
        exact ⟨retB (by simp [M.isRat, h1]; omega), b_alloc _ _⟩
    · have h4 := M.isFin_t h1
      obtain ⟨h5, h6⟩ := h4
      by_cases h3 : d ≤ 1000000
      · go_enter Try.func69, Try.ntmps69
        go_wp2_with (first | (go_at_call 81; refine (isFinite _ _).mono ?_; rintro e w' ⟨rfl, rfl⟩) | (go_at_call 82; refine (divisor _ _ _ (by omega) (by omega) (by omega) (by omega)).mono ?_; rintro e w' ⟨rfl, rfl⟩))
        all_goals
          go_ret
          refine ⟨retB ?_, b_alloc _ _⟩
          have e2 : (1 ≤ d) := by omega
          simp only [M.isRat, h1, e2, h3, decide_true, Bool.true_and]
          rfl
      · go_enter Try.func69, Try.ntmps69
        go_wp2_with (first | (go_at_call 81; refine (isFinite _ _).mono ?_; rintro e w' ⟨rfl, rfl⟩) | (go_at_call 82; refine (divisor _ _ _ (by omega) (by omega) (by omega) (by omega)).mono ?_; rintro e w' ⟨rfl, rfl⟩))
        all_goals
          go_ret
          exact ⟨retB (by simp [M.isRat, h1]; omega), b_alloc _ _⟩
  · simp only [Bool.not_eq_true] at h1
    go_enter Try.func69, Try.ntmps69
    go_wp2_with (first | (go_at_call 81; refine (isFinite _ _).mono ?_; rintro e w' ⟨rfl, rfl⟩) | (go_at_call 82; refine (divisor _ _ _ (by omega) (by omega) (by omega) (by omega)).mono ?_; rintro e w' ⟨rfl, rfl⟩))
    all_goals
      go_ret
      exact ⟨retB (by simp [M.isRat, h1]), b_alloc _ _⟩

set_option maxRecDepth 100000 in
set_option maxHeartbeats 400000 in
theorem sIsRatio (n d : Int) (w : World) :
    Calls Try.prog 65 #[.agg #[.int .i64 n, .int .i64 d]] w fun e w' => e = .returned (.bool (M.isRat n d)) ∧ Below w.heap.size w w' := by
  by_cases h1 : M.isFin n = true
  · have h4 := M.isFin_t h1
    obtain ⟨h5, h6⟩ := h4
    by_cases h2 : 1 ≤ d ∧ d ≤ 1000000
    · obtain ⟨h2, h3⟩ := h2
      go_enter Try.func65, Try.ntmps65
      go_wp2_with (first | (go_at_call 78; refine (sFinite _ _).mono ?_; rintro e w' ⟨rfl, rfl⟩) | (go_at_call 55; refine (sIn _ _ _ _).mono ?_; rintro e w' ⟨rfl, rfl⟩) | (go_at_call 79; refine (sDivisor _ _ _ (by omega) (by omega) (by omega) (by omega)).mono ?_; rintro e w' ⟨rfl, nq, rfl⟩))
      all_goals
        go_ret
        refine ⟨retB ?_, b_alloc_draws _ _ _⟩
        simp only [M.isRat, h1, h2, h3, decide_true, Bool.true_and]
        rfl
    · have h3 : (decide (1 ≤ d) && decide (d ≤ 1000000)) = false := by grind
      go_enter Try.func65, Try.ntmps65
      go_wp2_with (first | (go_at_call 78; refine (sFinite _ _).mono ?_; rintro e w' ⟨rfl, rfl⟩) | (go_at_call 55; refine (sIn _ _ _ _).mono ?_; rintro e w' ⟨rfl, rfl⟩) | (go_at_call 79; refine (sDivisor _ _ _ (by omega) (by omega) (by omega) (by omega)).mono ?_; rintro e w' ⟨rfl, nq, rfl⟩))
      all_goals
        go_ret
        exact ⟨retB (by simp [M.isRat, h1]; omega), b_alloc _ _⟩
  · simp only [Bool.not_eq_true] at h1
    go_enter Try.func65, Try.ntmps65
    go_wp2_with (first | (go_at_call 78; refine (sFinite _ _).mono ?_; rintro e w' ⟨rfl, rfl⟩) | (go_at_call 55; refine (sIn _ _ _ _).mono ?_; rintro e w' ⟨rfl, rfl⟩) | (go_at_call 79; refine (sDivisor _ _ _ (by omega) (by omega) (by omega) (by omega)).mono ?_; rintro e w' ⟨rfl, nq, rfl⟩))
    all_goals
      go_ret
      exact ⟨retB (by simp [M.isRat, h1]), b_alloc _ _⟩

theorem retR {n d a b : Int} {c : Int} (h : M.mkRat n d = (a, b, c)) : Ending.returned (.tuple #[.agg #[.int .i64 a, .int .i64 b], .int .i64 c]) = .returned (.tuple #[.agg #[.int .i64 (M.mkRat n d).1, .int .i64 (M.mkRat n d).2.1], .int .i64 (M.mkRat n d).2.2]) := by rw [h]

end Go.Proofs.Ytmldjmlihkcchab.V

namespace Go.Proofs.Ytmldjmlihkcchab.V
open Go.RowKit

end Go.Proofs.Ytmldjmlihkcchab.V
