/- Texts laid together: Gcd, Rat, Rat2. -/
import Derived.Test.YthonlfjjgmmnpabRows
import Derived.Test.YthonlfjjgmmnpabPln
import Derived.Test.YthonlfjjgmmnpabVals
import Derived.WalkKit
import Derived.ProofKit
import Derived.Deep.QuietTactic
import Derived.BigQuiet
import Derived.Deep.Draws
import Derived.Test.YthonlfjjgmmnpabHelp
import Derived.WalkSmall
import Derived.BigRegion
namespace Go.Proofs.Ythonlfjjgmmnpab.V
open Go.RowKit

set_option maxRecDepth 100000 in
set_option maxHeartbeats 400000 in
theorem divisor (a b : Int) (w : World) (a1 : -1000000000000 ≤ a) (a2 : a ≤ 1000000000000) (b1 : -1000000000000 ≤ b) (b2 : b ≤ 1000000000000) :
    Calls Try.prog 79 #[.int .i64 a, .int .i64 b] w fun e w' => e = .returned (.int .i64 (Int.gcd a b)) ∧ w = w' := by
  go_enter Try.func79, Try.ntmps79
  go_wp2
  go_loop [0, 1] (fun p q => ∃ x y : Int, p = .int .i64 x ∧ q = .int .i64 y ∧ Int.gcd x y = Int.gcd a b ∧ -1000000000000 ≤ x ∧ x ≤ 1000000000000 ∧ -1000000000000 ≤ y ∧ y ≤ 1000000000000) (fun p _ => (intOf p).natAbs)
  case atStart => exact ⟨a, b, rfl, rfl, rfl, a1, a2, b1, b2⟩
  case round =>
    obtain ⟨x, y, rfl, rfl, hg, x1, x2, y1, y2⟩ := hrel
    have HG : Hid (Int.gcd x y = Int.gcd a b) := hg
    clear hg
    by_cases hx : x = 0
    · subst hx
      by_cases hy : y < 0
      · go_wp2
        go_ret
        exact ⟨retI (by have := HG.out; rw [← this, M.gcd_zero, if_pos hy]), rfl⟩
      · go_wp2
        go_ret
        exact ⟨retI (by have := HG.out; rw [← this, M.gcd_zero, if_neg (by omega)]), rfl⟩
    · have hx' : (x != 0) = true := by simpa using hx
      have hx'' : (x == 0) = false := by simpa using hx
      have hl := M.tmod_lt x y hx
      have HS : Hid (Int.gcd (y.tmod x) x = Int.gcd a b) := by rw [M.gcd_step]; exact HG.out
      have l1 : -1000000000000 ≤ y.tmod x := by generalize y.tmod x = z at *; omega
      have l2 : y.tmod x ≤ 1000000000000 := by generalize y.tmod x = z at *; omega
      have HL : Hid ((y.tmod x).natAbs < x.natAbs) := hl
      clear hl
      go_wp2
      go_round
      case rel => exact ⟨_, _, rfl, rfl, HS.out, l1, l2, x1, x2⟩
      case measure => exact HL.out

set_option maxRecDepth 100000 in
set_option maxHeartbeats 400000 in
theorem sDivisor (a b : Int) (w : World) (a1 : -1000000000000 ≤ a) (a2 : a ≤ 1000000000000) (b1 : -1000000000000 ≤ b) (b2 : b ≤ 1000000000000) :
    Calls Try.prog 105 #[.int .i64 a, .int .i64 b] w fun e w' => e = .returned (.int .i64 (Int.gcd a b)) ∧ ∃ n, w' = w.drewN n := by
  go_enter Try.func105, Try.ntmps105
  go_wp2
  all_goals
    go_loopw [0, 1] (fun p q wr => ∃ x y : Int, p = .int .i64 x ∧ q = .int .i64 y ∧ Int.gcd x y = Int.gcd a b ∧ 0 ≤ x ∧ x ≤ 1000000000000 ∧ 0 ≤ y ∧ y ≤ 1000000000000 ∧ ∃ n, wr = w.drewN n) (fun _ q _ => (intOf q).natAbs)
    case atStart => exact ⟨_, _, rfl, rfl, by simp, by omega, by omega, by omega, by omega, 0, rfl⟩
    case round =>
      obtain ⟨x, y, rfl, rfl, hg, x1, x2, y1, y2, n, rfl⟩ := hrel
      have HG : Hid (Int.gcd x y = Int.gcd a b) := hg
      clear hg
      by_cases hy : y = 0
      · subst hy
        go_wp2
        go_ret
        exact ⟨retI (by have := HG.out; rw [← this, M.gcd_zero' x x1]), n, rfl⟩
      · have hy' : (y != 0) = true := by simpa using hy
        have hy'' : (y == 0) = false := by simpa using hy
        have hy3 : 0 < y := by omega
        clear hy
        have l1 : 0 ≤ x % y := Int.emod_nonneg _ (by omega)
        have l2 : x % y < y := Int.emod_lt_of_pos _ hy3
        have HS : Hid (Int.gcd y (x % y) = Int.gcd a b) := by show _ = _; rw [M.gcd_step' _ _ x1]; exact HG.out
        go_wp2
        go_quiet (fail)
        go_wp2
        go_roundw
        case rel => exact ⟨_, _, rfl, rfl, HS.out, y1, y2, l1, by omega, _, World.drewN_drewN _ _ _⟩
        case measure => simp [intOf]; omega
end Go.Proofs.Ythonlfjjgmmnpab.V

namespace Go.Proofs.Ythonlfjjgmmnpab.V
open Go.RowKit


set_option maxRecDepth 100000 in
set_option maxHeartbeats 400000 in
theorem isRatio (n d : Int) (w : World) :
    Calls Try.prog 42 #[.agg #[.int .i64 n, .int .i64 d]] w fun e w' => e = .returned (.bool (M.isRat n d)) ∧ Below w.heap.size w w' := by
  by_cases h1 : M.isFin n = true
  · by_cases h2 : d < 1
    · go_enter Try.func42, Try.ntmps42
      go_wp2_with (first | (go_at_call 78; refine (isFinite _ _).mono ?_; rintro e w' ⟨rfl, rfl⟩) | (go_at_call 79; refine (divisor _ _ _ (by omega) (by omega) (by omega) (by omega)).mono ?_; rintro e w' ⟨rfl, rfl⟩))
      all_goals
        go_ret
        exact ⟨retB (by simp [M.isRat, h1]; omega), b_alloc _ _⟩
    · have h4 := M.isFin_t h1
      obtain ⟨h5, h6⟩ := h4
      by_cases h3 : d ≤ 1000000
      · go_enter Try.func42, Try.ntmps42
        go_wp2_with (first | (go_at_call 78; refine (isFinite _ _).mono ?_; rintro e w' ⟨rfl, rfl⟩) | (go_at_call 79; refine (divisor _ _ _ (by omega) (by omega) (by omega) (by omega)).mono ?_; rintro e w' ⟨rfl, rfl⟩))
        all_goals
          go_ret
          refine ⟨retB ?_, b_alloc _ _⟩
          have e2 : (1 ≤ d) := by omega
          simp only [M.isRat, h1, e2, h3, decide_true, Bool.true_and]
          rfl
      · go_enter Try.func42, Try.ntmps42
        go_wp2_with (first | (go_at_call 78; refine (isFinite _ _).mono ?_; rintro e w' ⟨rfl, rfl⟩) | (go_at_call 79; refine (divisor _ _ _ (by omega) (by omega) (by omega) (by omega)).mono ?_; rintro e w' ⟨rfl, rfl⟩))
        all_goals
          go_ret
          exact ⟨retB (by simp [M.isRat, h1]; omega), b_alloc _ _⟩
  · simp only [Bool.not_eq_true] at h1
    go_enter Try.func42, Try.ntmps42
    go_wp2_with (first | (go_at_call 78; refine (isFinite _ _).mono ?_; rintro e w' ⟨rfl, rfl⟩) | (go_at_call 79; refine (divisor _ _ _ (by omega) (by omega) (by omega) (by omega)).mono ?_; rintro e w' ⟨rfl, rfl⟩))
    all_goals
      go_ret
      exact ⟨retB (by simp [M.isRat, h1]), b_alloc _ _⟩

set_option maxRecDepth 100000 in
set_option maxHeartbeats 400000 in
theorem sIsRatio (n d : Int) (w : World) :
    Calls Try.prog 73 #[.agg #[.int .i64 n, .int .i64 d]] w fun e w' => e = .returned (.bool (M.isRat n d)) ∧ Below w.heap.size w w' := by
  by_cases h1 : M.isFin n = true
  · have h4 := M.isFin_t h1
    obtain ⟨h5, h6⟩ := h4
    by_cases h2 : 1 ≤ d ∧ d ≤ 1000000
    · obtain ⟨h2, h3⟩ := h2
      go_enter Try.func73, Try.ntmps73
      go_wp2_with (first | (go_at_call 106; refine (sFinite _ _).mono ?_; rintro e w' ⟨rfl, rfl⟩) | (go_at_call 83; refine (sIn _ _ _ _).mono ?_; rintro e w' ⟨rfl, rfl⟩) | (go_at_call 105; refine (sDivisor _ _ _ (by omega) (by omega) (by omega) (by omega)).mono ?_; rintro e w' ⟨rfl, nq, rfl⟩))
      all_goals
        go_ret
        refine ⟨retB ?_, b_alloc_draws _ _ _⟩
        simp only [M.isRat, h1, h2, h3, decide_true, Bool.true_and]
        rfl
    · have h3 : (decide (1 ≤ d) && decide (d ≤ 1000000)) = false := by grind
      go_enter Try.func73, Try.ntmps73
      go_wp2_with (first | (go_at_call 106; refine (sFinite _ _).mono ?_; rintro e w' ⟨rfl, rfl⟩) | (go_at_call 83; refine (sIn _ _ _ _).mono ?_; rintro e w' ⟨rfl, rfl⟩) | (go_at_call 105; refine (sDivisor _ _ _ (by omega) (by omega) (by omega) (by omega)).mono ?_; rintro e w' ⟨rfl, nq, rfl⟩))
      all_goals
        go_ret
        exact ⟨retB (by simp [M.isRat, h1]; omega), b_alloc _ _⟩
  · simp only [Bool.not_eq_true] at h1
    go_enter Try.func73, Try.ntmps73
    go_wp2_with (first | (go_at_call 106; refine (sFinite _ _).mono ?_; rintro e w' ⟨rfl, rfl⟩) | (go_at_call 83; refine (sIn _ _ _ _).mono ?_; rintro e w' ⟨rfl, rfl⟩) | (go_at_call 105; refine (sDivisor _ _ _ (by omega) (by omega) (by omega) (by omega)).mono ?_; rintro e w' ⟨rfl, nq, rfl⟩))
    all_goals
      go_ret
      exact ⟨retB (by simp [M.isRat, h1]), b_alloc _ _⟩

theorem retR {n d a b : Int} {c : Int} (h : M.mkRat n d = (a, b, c)) : Ending.returned (.tuple #[.agg #[.int .i64 a, .int .i64 b], .int .i64 c]) = .returned (.tuple #[.agg #[.int .i64 (M.mkRat n d).1, .int .i64 (M.mkRat n d).2.1], .int .i64 (M.mkRat n d).2.2]) := by rw [h]

set_option maxRecDepth 100000 in
set_option maxHeartbeats 400000 in
theorem reduced (n d : Int) (w : World) (h0 : d ≠ 0) (h3 : -1000000000000 ≤ n) (h4 : n ≤ 1000000000000) (h5 : -1000000 ≤ d) (h6 : d ≤ 1000000) :
    Calls Try.prog 90 #[.int .i64 n, .int .i64 d] w fun e w' => e = .returned (.agg #[.int .i64 (M.ratN n d), .int .i64 (M.ratD n d)]) ∧ Below w.heap.size w w' := by
  have h7 : (d == 0) = false := by simpa using h0
  have hp := M.gcd_pos (x := n) h0
  have hq := M.gcd_le n d h0 h5 h6
  go_enter Try.func90, Try.ntmps90
  go_wp2_with (first | (go_at_call 79; refine (divisor _ _ _ (by omega) (by omega) (by omega) (by omega)).mono ?_; rintro e w' ⟨rfl, rfl⟩))
  · have hd : d < 0 := by assumption
    have hz : (-(Int.gcd n d : Int) == 0) = false := by simp; omega
    go_region
    go_wp2
    exact bodyPost_ret (v := .agg #[.int .i64 (n.tdiv (-(Int.gcd n d : Int))), .int .i64 (d.tdiv (-(Int.gcd n d : Int)))]) (by simp [results, Try.results90, go_sem]; exact ⟨wneg _ _ h3 h4, wneg _ _ (by omega) (by omega)⟩) rfl ⟨by rw [M.ratN_neg hd, M.ratD_neg hd], (b_alloc _ _).drew⟩
  · have hd : ¬ d < 0 := by omega
    have hz : ((Int.gcd n d : Int) == 0) = false := by simp; omega
    go_region
    go_wp2
    exact bodyPost_ret (v := .agg #[.int .i64 (n.tdiv (Int.gcd n d : Int)), .int .i64 (d.tdiv (Int.gcd n d : Int))]) (by simp [results, Try.results90, go_sem]; exact (Int.tdiv_eq_ediv_of_nonneg (by omega)).symm) rfl ⟨by rw [M.ratN_pos (by omega), M.ratD_pos (by omega)], (b_alloc _ _).drew⟩

end Go.Proofs.Ythonlfjjgmmnpab.V

namespace Go.Proofs.Ythonlfjjgmmnpab.V
open Go.RowKit

set_option maxRecDepth 100000 in
set_option maxHeartbeats 400000 in
theorem sRatio (n d : Int) (w : World) (h0 : d ≠ 0) (h3 : -1000000000000 ≤ n) (h4 : n ≤ 1000000000000) (h5 : -1000000 ≤ d) (h6 : d ≤ 1000000) :
    Calls Try.prog 72 #[.int .i64 n, .int .i64 d] w fun e w' => e = .returned (.agg #[.int .i64 (M.ratN n d), .int .i64 (M.ratD n d)]) ∧ Below w.heap.size w w' := by
  have h7 : (d == 0) = false := by simpa using h0
  have hp := M.gcd_pos (x := n) h0
  have hq := M.gcd_le n d h0 h5 h6
  have hz : ((Int.gcd n d : Int) == 0) = false := by simp; omega
  clear h0
  by_cases hd : d < 0
  · go_enter Try.func72, Try.ntmps72
    go_wp2_with (first | (go_at_call 105; refine (sDivisor _ _ _ (by omega) (by omega) (by omega) (by omega)).mono ?_; rintro e w' ⟨rfl, nq, rfl⟩))
    go_region
    go_wp2
    exact bodyPost_ret (v := .agg #[.int .i64 ((-n).tdiv (Int.gcd n d)), .int .i64 ((-d).tdiv (Int.gcd n d))]) (by simp [results, Try.results72, go_sem]; exact ⟨wneg _ _ h3 h4, wneg _ _ (by omega) (by omega)⟩) rfl ⟨by rw [M.ratN, M.ratD, if_pos hd, if_pos hd], b_ads _ _ _ _ _ _ _⟩
  · go_enter Try.func72, Try.ntmps72
    go_wp2_with (first | (go_at_call 105; refine (sDivisor _ _ _ (by omega) (by omega) (by omega) (by omega)).mono ?_; rintro e w' ⟨rfl, nq, rfl⟩))
    have hd' : 0 ≤ d := by omega
    go_region
    go_wp2
    exact bodyPost_ret (v := .agg #[.int .i64 (n.tdiv (Int.gcd n d)), .int .i64 (d.tdiv (Int.gcd n d))]) (by simp [results, Try.results72, go_sem]; exact (Int.tdiv_eq_ediv_of_nonneg hd').symm) rfl ⟨by rw [M.ratN, M.ratD, if_neg (by omega), if_neg (by omega)], b_ads _ _ _ _ _ _ _⟩

set_option maxRecDepth 100000 in
set_option maxHeartbeats 400000 in
theorem cmpInt (x y : Int) (w : World) :
    Calls Try.prog 80 #[.int .i64 x, .int .i64 y] w fun e w' => e = .returned (.int .i64 (M.cmpZ x y)) ∧ w = w' := by
  go_enter Try.func80, Try.ntmps80
  go_wp2
  all_goals
    go_ret
    exact ⟨retI (by unfold M.cmpZ; split <;> (try split) <;> omega), rfl⟩

set_option maxRecDepth 100000 in
set_option maxHeartbeats 400000 in
theorem sCompare (a b c d : Int) (w : World) (h1 : M.isRat a b = true) (h2 : M.isRat c d = true) :
    Calls Try.prog 75 #[.agg #[.int .i64 a, .int .i64 b], .agg #[.int .i64 c, .int .i64 d]] w fun e w' => e = .returned (.int .i64 (M.cmpZ (a * d) (c * b))) ∧ Below w.heap.size w w' := by
  obtain ⟨a1, a2, b1, b2, -⟩ := M.isRat_t h1
  obtain ⟨c1, c2, d1, d2, -⟩ := M.isRat_t h2
  obtain ⟨p1, p2⟩ := M.mul_bd a d a1 a2 (by omega) d2
  obtain ⟨q1, q2⟩ := M.mul_bd c b c1 c2 (by omega) b2
  clear h1 h2
  go_enter Try.func75, Try.ntmps75
  go_wp2
  go_region
  all_goals go_wp2
  all_goals
    go_ret
    exact ⟨retI (by unfold M.cmpZ; split <;> (try split) <;> omega), (b_alloc2 _ _ _).drew⟩

set_option maxRecDepth 100000 in
set_option maxHeartbeats 400000 in
theorem compareM (a b c d : Int) (w : World) (p1 : -1000000000000000 ≤ a * d) (p2 : a * d ≤ 1000000000000000) (q1 : -1000000000000000 ≤ c * b) (q2 : c * b ≤ 1000000000000000) :
    Calls Try.prog 43 #[.agg #[.int .i64 a, .int .i64 b], .agg #[.int .i64 c, .int .i64 d]] w fun e w' => e = .returned (.int .i64 (M.cmpZ (a * d) (c * b))) ∧ Below w.heap.size w w' := by
  have e1 : IntKind.i64.wrap (a * d) = a * d := IntWalk.i64_in _ (by omega)
  have e2 : IntKind.i64.wrap (c * b) = c * b := IntWalk.i64_in _ (by omega)
  go_enter Try.func43, Try.ntmps43
  go_wp2_with fail
  refine (cmpInt _ _ _).mono ?_
  rintro e w3 ⟨rfl, rfl⟩
  go_wp2
  go_ret
  exact ⟨rfl, b_alloc2 _ _ _⟩

set_option maxRecDepth 100000 in
set_option maxHeartbeats 400000 in
theorem compareRatios (a b c d : Int) (w : World) :
    Calls Try.prog 16 #[.agg #[.int .i64 a, .int .i64 b], .agg #[.int .i64 c, .int .i64 d]] w fun e w' => e = .returned (.tuple #[.int .i64 (M.cmpOf a b c d).1, .int .i64 (M.cmpOf a b c d).2]) ∧ Below w.heap.size w w' := by
  by_cases h1 : M.isRat a b = true
  · by_cases h2 : M.isRat c d = true
    · obtain ⟨a1, a2, b1, b2, -⟩ := M.isRat_t h1
      obtain ⟨c1, c2, d1, d2, -⟩ := M.isRat_t h2
      obtain ⟨p1, p2⟩ := M.mul_bd a d a1 a2 (by omega) d2
      obtain ⟨q1, q2⟩ := M.mul_bd c b c1 c2 (by omega) b2
      go_enter Try.func16, Try.ntmps16
      go_wp2_with fail
      refine (isRatio _ _ _).mono ?_
      rintro e w1 ⟨rfl, hb⟩
      obtain ⟨hc, hf⟩ := bcell hb
      have hz := hb.size
      simp at hz
      have z1 : w.heap.size < w1.heap.size := by omega
      have z2 : w.heap.size + 1 < w1.heap.size := by omega
      go_wp2_with fail
      refine (isRatio _ _ _).mono ?_
      rintro e w2 ⟨rfl, hb2⟩
      obtain ⟨hc2, hf2⟩ := bcell hb2
      have hz2 := hb2.size
      go_wp2_with fail
      refine (compareM _ _ _ _ _ (by omega) (by omega) (by omega) (by omega)).mono ?_
      rintro e w3 ⟨rfl, hb3⟩
      go_wp2
      go_ret2
      exact ⟨retP (by simp [M.cmpOf, h1, h2]), (bel3 hb hb2).trans (hb3.mono (bel3 hb hb2).size)⟩
    · simp only [Bool.not_eq_true] at h2
      go_enter Try.func16, Try.ntmps16
      go_wp2_with fail
      refine (isRatio _ _ _).mono ?_
      rintro e w1 ⟨rfl, hb⟩
      obtain ⟨hc, hf⟩ := bcell hb
      go_wp2_with fail
      refine (isRatio _ _ _).mono ?_
      rintro e w2 ⟨rfl, hb2⟩
      go_wp2
      go_ret2
      exact ⟨retP (by simp [M.cmpOf, h1, h2]), bel3 hb hb2⟩
  · simp only [Bool.not_eq_true] at h1
    go_enter Try.func16, Try.ntmps16
    go_wp2_with fail
    refine (isRatio _ _ _).mono ?_
    rintro e w1 ⟨rfl, hb⟩
    go_wp2
    go_ret2
    exact ⟨retP (by simp [M.cmpOf, h1]), bel2 hb⟩
end Go.Proofs.Ythonlfjjgmmnpab.V
