/- Contracts of the functions of chapter 1 on plain values, program and model: each returns what its plain function says and leaves the world alone. -/
import Derived.Test.YtackennmjmobdaaRows
import Derived.Test.YtackennmjmobdaaMath1
import Derived.Test.YtackennmjmobdaaVals0
import Derived.WalkKit
import Derived.ProofKit
namespace Go.Proofs.Ytackennmjmobdaa.V
open Go.RowKit

set_option maxRecDepth 100000 in
set_option maxHeartbeats 400000 in
theorem checked (a : Int) (w : World) : Calls Try.prog 52 #[.int .i64 a] w fun e w' => e = .returned (.tuple #[.int .i64 (M.chk a).1, .int .i64 (M.chk a).2]) ∧ w = w' := by
  by_cases h : M.isVal a = true
  · go_enter Try.func52, Try.ntmps52
    go_wp2_with (first | (go_at_call 80; refine (isValid _ _).mono ?_; rintro e w' ⟨rfl, rfl⟩))
    go_ret2
    exact ⟨retP (by simp [M.chk, h]), rfl⟩
  · simp only [Bool.not_eq_true] at h
    go_enter Try.func52, Try.ntmps52
    go_wp2_with (first | (go_at_call 80; refine (isValid _ _).mono ?_; rintro e w' ⟨rfl, rfl⟩))
    go_ret2
    exact ⟨retP (by simp [M.chk, h]), rfl⟩

set_option maxRecDepth 100000 in
set_option maxHeartbeats 400000 in
theorem sValue (a : Int) (w : World) : Calls Try.prog 54 #[.int .i64 a] w fun e w' => e = .returned (.tuple #[.int .i64 (M.chk a).1, .int .i64 (M.chk a).2]) ∧ w = w' := by
  by_cases h : M.isVal a = true
  · go_enter Try.func54, Try.ntmps54
    go_wp2_with (first | (go_at_call 85; refine (sIsValue _ _).mono ?_; rintro e w' ⟨rfl, rfl⟩))
    go_ret2
    exact ⟨retP (by simp [M.chk, h]), rfl⟩
  · simp only [Bool.not_eq_true] at h
    go_enter Try.func54, Try.ntmps54
    go_wp2_with (first | (go_at_call 85; refine (sIsValue _ _).mono ?_; rintro e w' ⟨rfl, rfl⟩))
    go_ret2
    exact ⟨retP (by simp [M.chk, h]), rfl⟩

set_option maxRecDepth 100000 in
set_option maxHeartbeats 400000 in
theorem times (a b : Int) (w : World) (ha : M.isVal a = true) (hb : M.isVal b = true) : Calls Try.prog 77 #[.int .i64 a, .int .i64 b] w fun e w' => e = .returned (.int .i64 (M.times a b)) ∧ w = w' := by
  have ba := M.isVal_bound ha
  have bb := M.isVal_bound hb
  clear ha hb
  obtain ⟨ba1, ba2⟩ := ba
  obtain ⟨bb1, bb2⟩ := bb
  by_cases h : a = -1000000000000000
  · subst h
    go_enter Try.func77, Try.ntmps77
    go_wp2
    all_goals go_ret; exact ⟨retI (by simp [M.times]), rfl⟩
  · have h' : (a == -1000000000000000) = false := by simpa using h
    by_cases h2 : b = -1000000000000000
    · subst h2
      go_enter Try.func77, Try.ntmps77
      go_wp2
      all_goals go_ret; exact ⟨retI (by simp [M.times]), rfl⟩
    · have h2' : (b == -1000000000000000) = false := by simpa using h2
      go_enter Try.func77, Try.ntmps77
      go_wp2
      all_goals go_ret; exact ⟨retI (by simp [M.times, h, h2]), rfl⟩

set_option maxRecDepth 100000 in
set_option maxHeartbeats 400000 in
theorem sTimes (a b : Int) (w : World) (ha : M.isVal a = true) (hb : M.isVal b = true) : Calls Try.prog 68 #[.int .i64 a, .int .i64 b] w fun e w' => e = .returned (.int .i64 (M.times a b)) ∧ w = w' := by
  have ba := M.isVal_bound ha
  have bb := M.isVal_bound hb
  clear ha hb
  obtain ⟨ba1, ba2⟩ := ba
  obtain ⟨bb1, bb2⟩ := bb
  by_cases h : a = -1000000000000000
  · subst h
    go_enter Try.func68, Try.ntmps68
    go_wp2
    all_goals go_ret; exact ⟨retI (by simp [M.times]), rfl⟩
  · have h' : (a == -1000000000000000) = false := by simpa using h
    by_cases h2 : b = -1000000000000000
    · subst h2
      go_enter Try.func68, Try.ntmps68
      go_wp2
      all_goals go_ret; exact ⟨retI (by simp [M.times]), rfl⟩
    · have h2' : (b == -1000000000000000) = false := by simpa using h2
      go_enter Try.func68, Try.ntmps68
      go_wp2
      all_goals go_ret; exact ⟨retI (by simp [M.times, h, h2]), rfl⟩
end Go.Proofs.Ytackennmjmobdaa.V
