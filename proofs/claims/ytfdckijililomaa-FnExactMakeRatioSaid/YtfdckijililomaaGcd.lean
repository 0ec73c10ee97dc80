/- Contracts of the two functions for the greatest common divisor. -/
import Derived.Test.YtfdckijililomaaRows
import Derived.Test.YtfdckijililomaaMath1
import Derived.Test.YtfdckijililomaaVals
import Derived.WalkKit
import Derived.ProofKit
import Derived.Deep.QuietTactic
import Derived.BigQuiet
import Derived.Deep.Draws
namespace Go.Proofs.Ytfdckijililomaa.V
open Go.RowKit

set_option maxRecDepth 100000 in
set_option maxHeartbeats 400000 in
theorem divisor (a b : Int) (w : World) (a1 : -1000000000000 ≤ a) (a2 : a ≤ 1000000000000) (b1 : -1000000000000 ≤ b) (b2 : b ≤ 1000000000000) :
    Calls Try.prog 119 #[.int .i64 a, .int .i64 b] w fun e w' => e = .returned (.int .i64 (Int.gcd a b)) ∧ w = w' := by
  go_enter Try.func119, Try.ntmps119
  go_wp2
  go_loop [0, 1] (fun p q => ∃ x y : Int, p = .int .i64 x ∧ q = .int .i64 y ∧ Int.gcd x y = Int.gcd a b ∧ -1000000000000 ≤ x ∧ x ≤ 1000000000000 ∧ -1000000000000 ≤ y ∧ y ≤ 1000000000000) (fun p _ => (intOf p).natAbs)
  case atStart => exact ⟨a, b, rfl, rfl, rfl, a1, a2, b1, b2⟩
  case round =>
    obtain ⟨x, y, rfl, rfl, hg, x1, x2, y1, y2⟩ := hrel
    have HG : Hid (Int.gcd x y = Int.gcd a b) := hg
    clear hg
    by_cases hx : x = 0
    · subst hx
      by_cases hy : y < 0
      · go_wp2
        go_ret
        exact ⟨retI (by have := HG.out; rw [← this, M.gcd_zero, if_pos hy]), rfl⟩
      · go_wp2
        go_ret
        exact ⟨retI (by have := HG.out; rw [← this, M.gcd_zero, if_neg (by omega)]), rfl⟩
    · have hx' : (x != 0) = true := by simpa using hx
      have hx'' : (x == 0) = false := by simpa using hx
      have hl := M.tmod_lt x y hx
      have HS : Hid (Int.gcd (y.tmod x) x = Int.gcd a b) := by rw [M.gcd_step]; exact HG.out
      have l1 : -1000000000000 ≤ y.tmod x := by generalize y.tmod x = z at *; omega
      have l2 : y.tmod x ≤ 1000000000000 := by generalize y.tmod x = z at *; omega
      have HL : Hid ((y.tmod x).natAbs < x.natAbs) := hl
      clear hl
      go_wp2
      go_round
      case rel => exact ⟨_, _, rfl, rfl, HS.out, l1, l2, x1, x2⟩
      case measure => exact HL.out

set_option maxRecDepth 100000 in
set_option maxHeartbeats 400000 in
theorem sDivisor (a b : Int) (w : World) (a1 : -1000000000000 ≤ a) (a2 : a ≤ 1000000000000) (b1 : -1000000000000 ≤ b) (b2 : b ≤ 1000000000000) :
    Calls Try.prog 121 #[.int .i64 a, .int .i64 b] w fun e w' => e = .returned (.int .i64 (Int.gcd a b)) ∧ ∃ n, w' = w.drewN n := by
  go_enter Try.func121, Try.ntmps121
  go_wp2
  all_goals
    go_loopw [0, 1] (fun p q wr => ∃ x y : Int, p = .int .i64 x ∧ q = .int .i64 y ∧ Int.gcd x y = Int.gcd a b ∧ 0 ≤ x ∧ x ≤ 1000000000000 ∧ 0 ≤ y ∧ y ≤ 1000000000000 ∧ ∃ n, wr = w.drewN n) (fun _ q _ => (intOf q).natAbs)
    case atStart => exact ⟨_, _, rfl, rfl, by simp, by omega, by omega, by omega, by omega, 0, rfl⟩
    case round =>
      obtain ⟨x, y, rfl, rfl, hg, x1, x2, y1, y2, n, rfl⟩ := hrel
      have HG : Hid (Int.gcd x y = Int.gcd a b) := hg
      clear hg
      by_cases hy : y = 0
      · subst hy
        go_wp2
        go_ret
        exact ⟨retI (by have := HG.out; rw [← this, M.gcd_zero' x x1]), n, rfl⟩
      · have hy' : (y != 0) = true := by simpa using hy
        have hy'' : (y == 0) = false := by simpa using hy
        have hy3 : 0 < y := by omega
        clear hy
        have l1 : 0 ≤ x % y := Int.emod_nonneg _ (by omega)
        have l2 : x % y < y := Int.emod_lt_of_pos _ hy3
        have HS : Hid (Int.gcd y (x % y) = Int.gcd a b) := by show _ = _; rw [M.gcd_step' _ _ x1]; exact HG.out
        go_wp2
        go_quiet (fail)
        go_wp2
        go_roundw
        case rel => exact ⟨_, _, rfl, rfl, HS.out, y1, y2, l1, by omega, _, World.drewN_drewN _ _ _⟩
        case measure => simp [intOf]; omega
end Go.Proofs.Ytfdckijililomaa.V
