/- Contracts of the functions of chapter 1 on plain values, program and model: each returns what its plain function says and leaves the world alone. -/
import Derived.Test.YtfdckijililomaaRows
import Derived.Test.YtfdckijililomaaMath1
import Derived.Test.YtfdckijililomaaVals0
import Derived.WalkKit
import Derived.ProofKit
namespace Go.Proofs.Ytfdckijililomaa.V
open Go.RowKit

set_option maxRecDepth 100000 in
set_option maxHeartbeats 400000 in
theorem checked (a : Int) (w : World) : Calls Try.prog 127 #[.int .i64 a] w fun e w' => e = .returned (.tuple #[.int .i64 (M.chk a).1, .int .i64 (M.chk a).2]) ∧ w = w' := by
  by_cases h : M.isVal a = true
  · go_enter Try.func127, Try.ntmps127
    go_wp2_with (first | (go_at_call 166; refine (isValid _ _).mono ?_; rintro e w' ⟨rfl, rfl⟩))
    go_ret2
    exact ⟨retP (by simp [M.chk, h]), rfl⟩
  · simp only [Bool.not_eq_true] at h
    go_enter Try.func127, Try.ntmps127
    go_wp2_with (first | (go_at_call 166; refine (isValid _ _).mono ?_; rintro e w' ⟨rfl, rfl⟩))
    go_ret2
    exact ⟨retP (by simp [M.chk, h]), rfl⟩

set_option maxRecDepth 100000 in
set_option maxHeartbeats 400000 in
theorem sValue (a : Int) (w : World) : Calls Try.prog 129 #[.int .i64 a] w fun e w' => e = .returned (.tuple #[.int .i64 (M.chk a).1, .int .i64 (M.chk a).2]) ∧ w = w' := by
  by_cases h : M.isVal a = true
  · go_enter Try.func129, Try.ntmps129
    go_wp2_with (first | (go_at_call 161; refine (sIsValue _ _).mono ?_; rintro e w' ⟨rfl, rfl⟩))
    go_ret2
    exact ⟨retP (by simp [M.chk, h]), rfl⟩
  · simp only [Bool.not_eq_true] at h
    go_enter Try.func129, Try.ntmps129
    go_wp2_with (first | (go_at_call 161; refine (sIsValue _ _).mono ?_; rintro e w' ⟨rfl, rfl⟩))
    go_ret2
    exact ⟨retP (by simp [M.chk, h]), rfl⟩

set_option maxRecDepth 100000 in
set_option maxHeartbeats 400000 in
theorem times (a b : Int) (w : World) (ha : M.isVal a = true) (hb : M.isVal b = true) : Calls Try.prog 165 #[.int .i64 a, .int .i64 b] w fun e w' => e = .returned (.int .i64 (M.times a b)) ∧ w = w' := by
  have ba := M.isVal_bound ha
  have bb := M.isVal_bound hb
  clear ha hb
  obtain ⟨ba1, ba2⟩ := ba
  obtain ⟨bb1, bb2⟩ := bb
  by_cases h : a = -1000000000000000
  · subst h
    go_enter Try.func165, Try.ntmps165
    go_wp2
    all_goals go_ret; exact ⟨retI (by simp [M.times]), rfl⟩
  · have h' : (a == -1000000000000000) = false := by simpa using h
    by_cases h2 : b = -1000000000000000
    · subst h2
      go_enter Try.func165, Try.ntmps165
      go_wp2
      all_goals go_ret; exact ⟨retI (by simp [M.times]), rfl⟩
    · have h2' : (b == -1000000000000000) = false := by simpa using h2
      go_enter Try.func165, Try.ntmps165
      go_wp2
      all_goals go_ret; exact ⟨retI (by simp [M.times, h, h2]), rfl⟩

set_option maxRecDepth 100000 in
set_option maxHeartbeats 400000 in
theorem sTimes (a b : Int) (w : World) (ha : M.isVal a = true) (hb : M.isVal b = true) : Calls Try.prog 160 #[.int .i64 a, .int .i64 b] w fun e w' => e = .returned (.int .i64 (M.times a b)) ∧ w = w' := by
  have ba := M.isVal_bound ha
  have bb := M.isVal_bound hb
  clear ha hb
  obtain ⟨ba1, ba2⟩ := ba
  obtain ⟨bb1, bb2⟩ := bb
  by_cases h : a = -1000000000000000
  · subst h
    go_enter Try.func160, Try.ntmps160
    go_wp2
    all_goals go_ret; exact ⟨retI (by simp [M.times]), rfl⟩
  · have h' : (a == -1000000000000000) = false := by simpa using h
    by_cases h2 : b = -1000000000000000
    · subst h2
      go_enter Try.func160, Try.ntmps160
      go_wp2
      all_goals go_ret; exact ⟨retI (by simp [M.times]), rfl⟩
    · have h2' : (b == -1000000000000000) = false := by simpa using h2
      go_enter Try.func160, Try.ntmps160
      go_wp2
      all_goals go_ret; exact ⟨retI (by simp [M.times, h, h2]), rfl⟩
end Go.Proofs.Ytfdckijililomaa.V
