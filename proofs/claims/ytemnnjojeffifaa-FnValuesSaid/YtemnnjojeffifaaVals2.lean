/- Contracts of products, powers and quotients of values. -/
import Derived.Test.YtemnnjojeffifaaRows
import Derived.Test.YtemnnjojeffifaaMath1
import Derived.Test.YtemnnjojeffifaaVals
import Derived.Test.YtemnnjojeffifaaHelp
import Derived.WalkKit
import Derived.ProofKit
import Derived.WalkSmall
import Derived.Deep.QuietTactic
import Derived.BigQuiet
import Derived.BigRegion
import Derived.Deep.Draws
namespace Go.Proofs.Ytemnnjojeffifaa.V
open Go.RowKit

set_option maxHeartbeats 400000 in
theorem productOf (a b : Int) (w : World) : Calls Try.prog 17 #[.int .i64 a, .int .i64 b] w fun e w' => e = .returned (.tuple #[.int .i64 (M.prodOf a b).1, .int .i64 (M.prodOf a b).2]) ∧ w = w' := by
  by_cases ha : M.isVal a = true
  · by_cases hb : M.isVal b = true
    · go_enter Try.func17, Try.ntmps17
      go_wp2_with (first | (go_at_call 22; refine (isValue _ _).mono ?_; rintro e w' ⟨rfl, rfl⟩) | (go_at_call 44; refine (times _ _ _ ha hb).mono ?_; rintro e w' ⟨rfl, rfl⟩) | (go_at_call 45; refine (checked _ _).mono ?_; rintro e w' ⟨rfl, rfl⟩))
      go_ret2
      exact ⟨retP (by simp [M.prodOf, ha, hb]), rfl⟩
    · simp only [Bool.not_eq_true] at hb
      go_enter Try.func17, Try.ntmps17
      go_wp2_with (first | (go_at_call 22; refine (isValue _ _).mono ?_; rintro e w' ⟨rfl, rfl⟩) | (go_at_call 44; refine (times _ _ _ ha hb).mono ?_; rintro e w' ⟨rfl, rfl⟩) | (go_at_call 45; refine (checked _ _).mono ?_; rintro e w' ⟨rfl, rfl⟩))
      go_ret2
      exact ⟨retP (by simp [M.prodOf, ha, hb]), rfl⟩
  · simp only [Bool.not_eq_true] at ha
    go_enter Try.func17, Try.ntmps17
    go_wp2_with (first | (go_at_call 22; refine (isValue _ _).mono ?_; rintro e w' ⟨rfl, rfl⟩) | (go_at_call 44; refine (times _ _ _ ha hb).mono ?_; rintro e w' ⟨rfl, rfl⟩) | (go_at_call 45; refine (checked _ _).mono ?_; rintro e w' ⟨rfl, rfl⟩))
    go_ret2
    exact ⟨retP (by simp [M.prodOf, ha]), rfl⟩

set_option maxHeartbeats 400000 in
theorem sProductOf (a b : Int) (w : World) : Calls Try.prog 18 #[.int .i64 a, .int .i64 b] w fun e w' => e = .returned (.tuple #[.int .i64 (M.prodOf a b).1, .int .i64 (M.prodOf a b).2]) ∧ w = w' := by
  by_cases ha : M.isVal a = true
  · by_cases hb : M.isVal b = true
    · go_enter Try.func18, Try.ntmps18
      go_wp2_with (first | (go_at_call 23; refine (sIsValue _ _).mono ?_; rintro e w' ⟨rfl, rfl⟩) | (go_at_call 47; refine (sTimes _ _ _ ha hb).mono ?_; rintro e w' ⟨rfl, rfl⟩) | (go_at_call 46; refine (sValue _ _).mono ?_; rintro e w' ⟨rfl, rfl⟩))
      go_ret2
      exact ⟨retP (by simp [M.prodOf, ha, hb]), rfl⟩
    · simp only [Bool.not_eq_true] at hb
      go_enter Try.func18, Try.ntmps18
      go_wp2_with (first | (go_at_call 23; refine (sIsValue _ _).mono ?_; rintro e w' ⟨rfl, rfl⟩) | (go_at_call 47; refine (sTimes _ _ _ ha hb).mono ?_; rintro e w' ⟨rfl, rfl⟩) | (go_at_call 46; refine (sValue _ _).mono ?_; rintro e w' ⟨rfl, rfl⟩))
      go_ret2
      exact ⟨retP (by simp [M.prodOf, ha, hb]), rfl⟩
  · simp only [Bool.not_eq_true] at ha
    go_enter Try.func18, Try.ntmps18
    go_wp2_with (first | (go_at_call 23; refine (sIsValue _ _).mono ?_; rintro e w' ⟨rfl, rfl⟩) | (go_at_call 47; refine (sTimes _ _ _ ha hb).mono ?_; rintro e w' ⟨rfl, rfl⟩) | (go_at_call 46; refine (sValue _ _).mono ?_; rintro e w' ⟨rfl, rfl⟩))
    go_ret2
    exact ⟨retP (by simp [M.prodOf, ha]), rfl⟩

set_option maxHeartbeats 400000 in
theorem power (a n : Int) (w : World) (ha : M.isVal a = true) (hn : M.inR n = true) : Calls Try.prog 54 #[.int .i64 a, .int .i64 n] w fun e w' => e = .returned (.int .i64 (M.power a n)) ∧ w = w' := by
  obtain ⟨n1, n2⟩ := M.inR_t hn
  by_cases h0 : n = 0
  · subst h0
    go_enter Try.func54, Try.ntmps54
    go_wp2
    all_goals go_ret; exact ⟨retI (by simp [M.power]), rfl⟩
  · have h0' : (n == 0) = false := by simpa using h0
    by_cases h : a = -1000000000000000
    · subst h
      go_enter Try.func54, Try.ntmps54
      go_wp2
      all_goals go_ret; exact ⟨retI (by simp [M.power, h0]), rfl⟩
    · have h' : (a == -1000000000000000) = false := by simpa using h
      have hf := M.isVal_t ha
      have hf2 : -1000000 ≤ a ∧ a ≤ 1000000 := by omega
      obtain ⟨a1, a2⟩ := hf2
      obtain ⟨p1, p2⟩ := M.mul_bd a n a1 a2 (by omega) n2
      clear hf ha
      go_enter Try.func54, Try.ntmps54
      go_wp2
      all_goals go_ret; exact ⟨retI (by simp [M.power, h0, h]), rfl⟩

set_option maxHeartbeats 400000 in
theorem powerOf (a n : Int) (w : World) : Calls Try.prog 25 #[.int .i64 a, .int .i64 n] w fun e w' => e = .returned (.tuple #[.int .i64 (M.powOf a n).1, .int .i64 (M.powOf a n).2]) ∧ w = w' := by
  by_cases ha : M.isVal a = true
  · by_cases hn : M.inR n = true
    · obtain ⟨n1, n2⟩ := M.inR_t hn
      go_enter Try.func25, Try.ntmps25
      go_wp2_with (first | (go_at_call 22; refine (isValue _ _).mono ?_; rintro e w' ⟨rfl, rfl⟩) | (go_at_call 54; refine (power _ _ _ ha hn).mono ?_; rintro e w' ⟨rfl, rfl⟩) | (go_at_call 45; refine (checked _ _).mono ?_; rintro e w' ⟨rfl, rfl⟩))
      all_goals
        go_ret2
        exact ⟨retP (by simp [M.powOf, ha, hn]), rfl⟩
    · simp only [Bool.not_eq_true] at hn
      have hn' := M.inR_f hn
      by_cases h0 : n < 0
      · go_enter Try.func25, Try.ntmps25
        go_wp2_with (first | (go_at_call 22; refine (isValue _ _).mono ?_; rintro e w' ⟨rfl, rfl⟩))
        all_goals
          go_ret2
          exact ⟨retP (by simp [M.powOf, ha, hn]), rfl⟩
      · have h1 : 1000000 < n := by omega
        go_enter Try.func25, Try.ntmps25
        go_wp2_with (first | (go_at_call 22; refine (isValue _ _).mono ?_; rintro e w' ⟨rfl, rfl⟩))
        all_goals
          go_ret2
          exact ⟨retP (by simp [M.powOf, ha, hn]), rfl⟩
  · simp only [Bool.not_eq_true] at ha
    go_enter Try.func25, Try.ntmps25
    go_wp2_with (first | (go_at_call 22; refine (isValue _ _).mono ?_; rintro e w' ⟨rfl, rfl⟩))
    all_goals
      go_ret2
      exact ⟨retP (by simp [M.powOf, ha]), rfl⟩

set_option maxHeartbeats 400000 in
theorem sPowerOf (a n : Int) (w : World) : Calls Try.prog 26 #[.int .i64 a, .int .i64 n] w fun e w' => e = .returned (.tuple #[.int .i64 (M.powOf a n).1, .int .i64 (M.powOf a n).2]) ∧ w = w' := by
  by_cases ha : M.isVal a = true
  · by_cases hn : M.inR n = true
    · obtain ⟨n1, n2⟩ := M.inR_t hn
      have hd : (decide (0 ≤ n) && decide (n ≤ 1000000)) = true := hn
      by_cases h0 : n = 0
      · subst h0
        go_enter Try.func26, Try.ntmps26
        go_wp2_with (first | (go_at_call 23; refine (sIsValue _ _).mono ?_; rintro e w' ⟨rfl, rfl⟩) | (go_at_call 55; refine (sIn _ _ _ _).mono ?_; rintro e w' ⟨rfl, rfl⟩) | (go_at_call 52; refine (sFinite _ _).mono ?_; rintro e w' ⟨rfl, rfl⟩))
        all_goals
          go_ret2
          exact ⟨retP (M.powOf_0 ha), rfl⟩
      · have h0' : (n == 0) = false := by simpa using h0
        by_cases h : a = -1000000000000000
        · subst h
          go_enter Try.func26, Try.ntmps26
          go_wp2_with (first | (go_at_call 23; refine (sIsValue _ _).mono ?_; rintro e w' ⟨rfl, rfl⟩) | (go_at_call 55; refine (sIn _ _ _ _).mono ?_; rintro e w' ⟨rfl, rfl⟩) | (go_at_call 52; refine (sFinite _ _).mono ?_; rintro e w' ⟨rfl, rfl⟩))
          all_goals
            go_ret2
            exact ⟨retP (M.powOf_b hn h0), rfl⟩
        · have h' : (a == -1000000000000000) = false := by simpa using h
          have hf := M.isVal_t ha
          have hf2 : -1000000 ≤ a ∧ a ≤ 1000000 := by omega
          obtain ⟨a1, a2⟩ := hf2
          obtain ⟨p1, p2⟩ := M.mul_bd a n a1 a2 (by omega) n2
          clear hf
          by_cases hv : M.isFin (a * n) = true
          · go_enter Try.func26, Try.ntmps26
            go_wp2_with (first | (go_at_call 23; refine (sIsValue _ _).mono ?_; rintro e w' ⟨rfl, rfl⟩) | (go_at_call 55; refine (sIn _ _ _ _).mono ?_; rintro e w' ⟨rfl, rfl⟩) | (go_at_call 52; refine (sFinite _ _).mono ?_; rintro e w' ⟨rfl, rfl⟩))
            all_goals
              go_ret2
              exact ⟨retP (M.powOf_y ha hn h h0 hv), rfl⟩
          · simp only [Bool.not_eq_true] at hv
            go_enter Try.func26, Try.ntmps26
            go_wp2_with (first | (go_at_call 23; refine (sIsValue _ _).mono ?_; rintro e w' ⟨rfl, rfl⟩) | (go_at_call 55; refine (sIn _ _ _ _).mono ?_; rintro e w' ⟨rfl, rfl⟩) | (go_at_call 52; refine (sFinite _ _).mono ?_; rintro e w' ⟨rfl, rfl⟩))
            all_goals
              go_ret2
              exact ⟨retP (M.powOf_n ha hn h h0 hv p1), rfl⟩
    · simp only [Bool.not_eq_true] at hn
      have hd : (decide (0 ≤ n) && decide (n ≤ 1000000)) = false := hn
      go_enter Try.func26, Try.ntmps26
      go_wp2_with (first | (go_at_call 23; refine (sIsValue _ _).mono ?_; rintro e w' ⟨rfl, rfl⟩) | (go_at_call 55; refine (sIn _ _ _ _).mono ?_; rintro e w' ⟨rfl, rfl⟩) | (go_at_call 52; refine (sFinite _ _).mono ?_; rintro e w' ⟨rfl, rfl⟩))
      all_goals
        go_ret2
        exact ⟨retP (by simp [M.powOf, ha, hn]), rfl⟩
  · simp only [Bool.not_eq_true] at ha
    go_enter Try.func26, Try.ntmps26
    go_wp2_with (first | (go_at_call 23; refine (sIsValue _ _).mono ?_; rintro e w' ⟨rfl, rfl⟩) | (go_at_call 55; refine (sIn _ _ _ _).mono ?_; rintro e w' ⟨rfl, rfl⟩) | (go_at_call 52; refine (sFinite _ _).mono ?_; rintro e w' ⟨rfl, rfl⟩))
    all_goals
      go_ret2
      exact ⟨retP (by simp [M.powOf, ha]), rfl⟩

set_option maxHeartbeats 400000 in
theorem over (a b : Int) (w : World) (ha : M.isVal a = true) (hb : M.isVal b = true) : Calls Try.prog 56 #[.int .i64 a, .int .i64 b] w fun e w' => e = .returned (.int .i64 (M.over a b)) ∧ w = w' := by
  obtain ⟨ba1, ba2⟩ := M.isVal_bound ha
  obtain ⟨bb1, bb2⟩ := M.isVal_bound hb
  clear ha hb
  by_cases h : a = -1000000000000000
  · subst h
    go_enter Try.func56, Try.ntmps56
    go_wp2
    all_goals go_ret; exact ⟨retI (by simp [M.over]), rfl⟩
  · have h' : (a == -1000000000000000) = false := by simpa using h
    go_enter Try.func56, Try.ntmps56
    go_wp2
    all_goals go_ret; exact ⟨retI (by simp [M.over, h]), rfl⟩

set_option maxHeartbeats 400000 in
theorem quotientOf (a b : Int) (w : World) : Calls Try.prog 28 #[.int .i64 a, .int .i64 b] w fun e w' => e = .returned (.tuple #[.int .i64 (M.quoOf a b).1, .int .i64 (M.quoOf a b).2]) ∧ w = w' := by
  by_cases ha : M.isVal a = true
  · by_cases hb : M.isVal b = true
    · obtain ⟨ba1, ba2⟩ := M.isVal_bound ha
      obtain ⟨bb1, bb2⟩ := M.isVal_bound hb
      by_cases h : b = -1000000000000000
      · subst h
        go_enter Try.func28, Try.ntmps28
        go_wp2_with (first | (go_at_call 22; refine (isValue _ _).mono ?_; rintro e w' ⟨rfl, rfl⟩) | (go_at_call 56; refine (over _ _ _ ha hb).mono ?_; rintro e w' ⟨rfl, rfl⟩) | (go_at_call 45; refine (checked _ _).mono ?_; rintro e w' ⟨rfl, rfl⟩))
        all_goals
          go_ret2
          exact ⟨retP (M.quoOf_b ha), rfl⟩
      · have h' : (b == -1000000000000000) = false := by simpa using h
        go_enter Try.func28, Try.ntmps28
        go_wp2_with (first | (go_at_call 22; refine (isValue _ _).mono ?_; rintro e w' ⟨rfl, rfl⟩) | (go_at_call 56; refine (over _ _ _ ha hb).mono ?_; rintro e w' ⟨rfl, rfl⟩) | (go_at_call 45; refine (checked _ _).mono ?_; rintro e w' ⟨rfl, rfl⟩))
        all_goals
          go_ret2
          exact ⟨retP (by simp [M.quoOf, ha, hb, h]), rfl⟩
    · simp only [Bool.not_eq_true] at hb
      go_enter Try.func28, Try.ntmps28
      go_wp2_with (first | (go_at_call 22; refine (isValue _ _).mono ?_; rintro e w' ⟨rfl, rfl⟩) | (go_at_call 56; refine (over _ _ _ ha hb).mono ?_; rintro e w' ⟨rfl, rfl⟩) | (go_at_call 45; refine (checked _ _).mono ?_; rintro e w' ⟨rfl, rfl⟩))
      all_goals
        go_ret2
        exact ⟨retP (by simp [M.quoOf, ha, hb]), rfl⟩
  · simp only [Bool.not_eq_true] at ha
    go_enter Try.func28, Try.ntmps28
    go_wp2_with (first | (go_at_call 22; refine (isValue _ _).mono ?_; rintro e w' ⟨rfl, rfl⟩) | (go_at_call 56; refine (over _ _ _ ha hb).mono ?_; rintro e w' ⟨rfl, rfl⟩) | (go_at_call 45; refine (checked _ _).mono ?_; rintro e w' ⟨rfl, rfl⟩))
    all_goals
      go_ret2
      exact ⟨retP (by simp [M.quoOf, ha]), rfl⟩

set_option maxHeartbeats 400000 in
theorem sQuotientOf (a b : Int) (w : World) : Calls Try.prog 29 #[.int .i64 a, .int .i64 b] w fun e w' => e = .returned (.tuple #[.int .i64 (M.quoOf a b).1, .int .i64 (M.quoOf a b).2]) ∧ w = w' := by
  by_cases ha : M.isVal a = true
  · by_cases hb : M.isVal b = true
    · obtain ⟨ba1, ba2⟩ := M.isVal_bound ha
      obtain ⟨bb1, bb2⟩ := M.isVal_bound hb
      by_cases h : b = -1000000000000000
      · subst h
        go_enter Try.func29, Try.ntmps29
        go_wp2_with (first | (go_at_call 23; refine (sIsValue _ _).mono ?_; rintro e w' ⟨rfl, rfl⟩) | (go_at_call 46; refine (sValue _ _).mono ?_; rintro e w' ⟨rfl, rfl⟩))
        all_goals
          go_ret2
          exact ⟨retP (M.quoOf_b ha), rfl⟩
      · have h' : (b == -1000000000000000) = false := by simpa using h
        by_cases hz : a = -1000000000000000
        · subst hz
          go_enter Try.func29, Try.ntmps29
          go_wp2_with (first | (go_at_call 23; refine (sIsValue _ _).mono ?_; rintro e w' ⟨rfl, rfl⟩) | (go_at_call 46; refine (sValue _ _).mono ?_; rintro e w' ⟨rfl, rfl⟩))
          all_goals
            go_ret2
            exact ⟨retP (M.quoOf_a hb h), rfl⟩
        · have hz' : (a == -1000000000000000) = false := by simpa using hz
          go_enter Try.func29, Try.ntmps29
          go_wp2_with (first | (go_at_call 23; refine (sIsValue _ _).mono ?_; rintro e w' ⟨rfl, rfl⟩) | (go_at_call 46; refine (sValue _ _).mono ?_; rintro e w' ⟨rfl, rfl⟩))
          all_goals
            go_ret2
            exact ⟨retP (by simp [M.quoOf, ha, hb, h, M.over, hz]), rfl⟩
    · simp only [Bool.not_eq_true] at hb
      go_enter Try.func29, Try.ntmps29
      go_wp2_with (first | (go_at_call 23; refine (sIsValue _ _).mono ?_; rintro e w' ⟨rfl, rfl⟩) | (go_at_call 46; refine (sValue _ _).mono ?_; rintro e w' ⟨rfl, rfl⟩))
      all_goals
        go_ret2
        exact ⟨retP (by simp [M.quoOf, ha, hb]), rfl⟩
  · simp only [Bool.not_eq_true] at ha
    go_enter Try.func29, Try.ntmps29
    go_wp2_with (first | (go_at_call 23; refine (sIsValue _ _).mono ?_; rintro e w' ⟨rfl, rfl⟩) | (go_at_call 46; refine (sValue _ _).mono ?_; rintro e w' ⟨rfl, rfl⟩))
    all_goals
      go_ret2
      exact ⟨retP (by simp [M.quoOf, ha]), rfl⟩

end Go.Proofs.Ytemnnjojeffifaa.V
