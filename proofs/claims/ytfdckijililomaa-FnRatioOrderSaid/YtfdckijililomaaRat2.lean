/- Contracts of the functions of chapter 1 that make and compare ratios. -/
import Derived.Test.YtfdckijililomaaRows
import Derived.Test.YtfdckijililomaaMath1
import Derived.Test.YtfdckijililomaaVals
import Derived.Test.YtfdckijililomaaGcd
import Derived.Test.YtfdckijililomaaHelp
import Derived.Test.YtfdckijililomaaRat
import Derived.WalkKit
import Derived.ProofKit
import Derived.WalkSmall
import Derived.Deep.QuietTactic
import Derived.BigQuiet
import Derived.BigRegion
import Derived.Deep.Draws
namespace Go.Proofs.Ytfdckijililomaa.V
open Go.RowKit

set_option maxRecDepth 100000 in
set_option maxHeartbeats 400000 in
theorem sRatio (n d : Int) (w : World) (h0 : d ≠ 0) (h3 : -1000000000000 ≤ n) (h4 : n ≤ 1000000000000) (h5 : -1000000 ≤ d) (h6 : d ≤ 1000000) :
    Calls Try.prog 112 #[.int .i64 n, .int .i64 d] w fun e w' => e = .returned (.agg #[.int .i64 (M.ratN n d), .int .i64 (M.ratD n d)]) ∧ Below w.heap.size w w' := by
  have h7 : (d == 0) = false := by simpa using h0
  have hp := M.gcd_pos (x := n) h0
  have hq := M.gcd_le n d h0 h5 h6
  have hz : ((Int.gcd n d : Int) == 0) = false := by simp; omega
  clear h0
  by_cases hd : d < 0
  · go_enter Try.func112, Try.ntmps112
    go_wp2_with (first | (go_at_call 121; refine (sDivisor _ _ _ (by omega) (by omega) (by omega) (by omega)).mono ?_; rintro e w' ⟨rfl, nq, rfl⟩))
    go_region
    go_wp2
    exact bodyPost_ret (v := .agg #[.int .i64 ((-n).tdiv (Int.gcd n d)), .int .i64 ((-d).tdiv (Int.gcd n d))]) (by simp [results, Try.results112, go_sem]; exact ⟨wneg _ _ h3 h4, wneg _ _ (by omega) (by omega)⟩) rfl ⟨by rw [M.ratN, M.ratD, if_pos hd, if_pos hd], b_ads _ _ _ _ _ _ _⟩
  · go_enter Try.func112, Try.ntmps112
    go_wp2_with (first | (go_at_call 121; refine (sDivisor _ _ _ (by omega) (by omega) (by omega) (by omega)).mono ?_; rintro e w' ⟨rfl, nq, rfl⟩))
    have hd' : 0 ≤ d := by omega
    go_region
    go_wp2
    exact bodyPost_ret (v := .agg #[.int .i64 (n.tdiv (Int.gcd n d)), .int .i64 (d.tdiv (Int.gcd n d))]) (by simp [results, Try.results112, go_sem]; exact (Int.tdiv_eq_ediv_of_nonneg hd').symm) rfl ⟨by rw [M.ratN, M.ratD, if_neg (by omega), if_neg (by omega)], b_ads _ _ _ _ _ _ _⟩

set_option maxRecDepth 100000 in
set_option maxHeartbeats 400000 in
theorem cmpInt (x y : Int) (w : World) :
    Calls Try.prog 145 #[.int .i64 x, .int .i64 y] w fun e w' => e = .returned (.int .i64 (M.cmpZ x y)) ∧ w = w' := by
  go_enter Try.func145, Try.ntmps145
  go_wp2
  all_goals
    go_ret
    exact ⟨retI (by unfold M.cmpZ; split <;> (try split) <;> omega), rfl⟩

set_option maxRecDepth 100000 in
set_option maxHeartbeats 400000 in
theorem sCompare (a b c d : Int) (w : World) (h1 : M.isRat a b = true) (h2 : M.isRat c d = true) :
    Calls Try.prog 115 #[.agg #[.int .i64 a, .int .i64 b], .agg #[.int .i64 c, .int .i64 d]] w fun e w' => e = .returned (.int .i64 (M.cmpZ (a * d) (c * b))) ∧ Below w.heap.size w w' := by
  obtain ⟨a1, a2, b1, b2, -⟩ := M.isRat_t h1
  obtain ⟨c1, c2, d1, d2, -⟩ := M.isRat_t h2
  obtain ⟨p1, p2⟩ := M.mul_bd a d a1 a2 (by omega) d2
  obtain ⟨q1, q2⟩ := M.mul_bd c b c1 c2 (by omega) b2
  clear h1 h2
  go_enter Try.func115, Try.ntmps115
  go_wp2
  go_region
  all_goals go_wp2
  all_goals
    go_ret
    exact ⟨retI (by unfold M.cmpZ; split <;> (try split) <;> omega), (b_alloc2 _ _ _).drew⟩

set_option maxRecDepth 100000 in
set_option maxHeartbeats 400000 in
theorem compareM (a b c d : Int) (w : World) (p1 : -1000000000000000 ≤ a * d) (p2 : a * d ≤ 1000000000000000) (q1 : -1000000000000000 ≤ c * b) (q2 : c * b ≤ 1000000000000000) :
    Calls Try.prog 91 #[.agg #[.int .i64 a, .int .i64 b], .agg #[.int .i64 c, .int .i64 d]] w fun e w' => e = .returned (.int .i64 (M.cmpZ (a * d) (c * b))) ∧ Below w.heap.size w w' := by
  have e1 : IntKind.i64.wrap (a * d) = a * d := IntWalk.i64_in _ (by omega)
  have e2 : IntKind.i64.wrap (c * b) = c * b := IntWalk.i64_in _ (by omega)
  go_enter Try.func91, Try.ntmps91
  go_wp2_with fail
  refine (cmpInt _ _ _).mono ?_
  rintro e w3 ⟨rfl, rfl⟩
  go_wp2
  go_ret
  exact ⟨rfl, b_alloc2 _ _ _⟩

set_option maxRecDepth 100000 in
set_option maxHeartbeats 400000 in
theorem compareRatios (a b c d : Int) (w : World) :
    Calls Try.prog 30 #[.agg #[.int .i64 a, .int .i64 b], .agg #[.int .i64 c, .int .i64 d]] w fun e w' => e = .returned (.tuple #[.int .i64 (M.cmpOf a b c d).1, .int .i64 (M.cmpOf a b c d).2]) ∧ Below w.heap.size w w' := by
  by_cases h1 : M.isRat a b = true
  · by_cases h2 : M.isRat c d = true
    · obtain ⟨a1, a2, b1, b2, -⟩ := M.isRat_t h1
      obtain ⟨c1, c2, d1, d2, -⟩ := M.isRat_t h2
      obtain ⟨p1, p2⟩ := M.mul_bd a d a1 a2 (by omega) d2
      obtain ⟨q1, q2⟩ := M.mul_bd c b c1 c2 (by omega) b2
      go_enter Try.func30, Try.ntmps30
      go_wp2_with fail
      refine (isRatio _ _ _).mono ?_
      rintro e w1 ⟨rfl, hb⟩
      obtain ⟨hc, hf⟩ := bcell hb
      have hz := hb.size
      simp at hz
      have z1 : w.heap.size < w1.heap.size := by omega
      have z2 : w.heap.size + 1 < w1.heap.size := by omega
      go_wp2_with fail
      refine (isRatio _ _ _).mono ?_
      rintro e w2 ⟨rfl, hb2⟩
      obtain ⟨hc2, hf2⟩ := bcell hb2
      have hz2 := hb2.size
      go_wp2_with fail
      refine (compareM _ _ _ _ _ (by omega) (by omega) (by omega) (by omega)).mono ?_
      rintro e w3 ⟨rfl, hb3⟩
      go_wp2
      go_ret2
      exact ⟨retP (by simp [M.cmpOf, h1, h2]), (bel3 hb hb2).trans (hb3.mono (bel3 hb hb2).size)⟩
    · simp only [Bool.not_eq_true] at h2
      go_enter Try.func30, Try.ntmps30
      go_wp2_with fail
      refine (isRatio _ _ _).mono ?_
      rintro e w1 ⟨rfl, hb⟩
      obtain ⟨hc, hf⟩ := bcell hb
      go_wp2_with fail
      refine (isRatio _ _ _).mono ?_
      rintro e w2 ⟨rfl, hb2⟩
      go_wp2
      go_ret2
      exact ⟨retP (by simp [M.cmpOf, h1, h2]), bel3 hb hb2⟩
  · simp only [Bool.not_eq_true] at h1
    go_enter Try.func30, Try.ntmps30
    go_wp2_with fail
    refine (isRatio _ _ _).mono ?_
    rintro e w1 ⟨rfl, hb⟩
    go_wp2
    go_ret2
    exact ⟨retP (by simp [M.cmpOf, h1]), bel2 hb⟩
end Go.Proofs.Ytfdckijililomaa.V
