/- Products of matrices, in the program. -/
import Derived.Test.YtackennmjmobdaaRows
import Derived.Test.YtackennmjmobdaaMath1
import Derived.Test.YtackennmjmobdaaList
import Derived.Test.YtackennmjmobdaaMatM
import Derived.Test.YtackennmjmobdaaHelp
import Derived.Test.YtackennmjmobdaaRows0
import Derived.Test.YtackennmjmobdaaOwn
import Derived.Test.YtackennmjmobdaaMat0
import Derived.WalkKit
import Derived.ProofKit
import Derived.WalkSmall
import Derived.Deep.QuietTactic
import Derived.BigQuiet
import Derived.BigRegion
import Derived.Deep.Draws
import Derived.Lib.Hide
import Derived.OpenShut
import Derived.Deep.OwnRows
import Derived.Test.YtackennmjmobdaaVals0
import Derived.Test.YtackennmjmobdaaApp
import Derived.Test.YtackennmjmobdaaSBot
import Derived.Test.YtackennmjmobdaaVec
import Derived.Test.YtackennmjmobdaaIsMat
import Derived.Test.YtackennmjmobdaaSMul
import Derived.Test.YtackennmjmobdaaIAdd
import Derived.StillTailTactics
namespace Go.Proofs.Ytackennmjmobdaa.V
open Go.RowKit

set_option maxRecDepth 100000 in
set_option maxHeartbeats 400000 in
theorem timesB (a b : Int) (w : World) (ha : M.Big a) (hb : M.Big b) : Calls Try.prog 77 #[.int .i64 a, .int .i64 b] w fun e w' => e = .returned (.int .i64 (M.times a b)) ∧ w = w' := by
  have ba := M.big_bound ha
  have bb := M.big_bound hb
  clear ha hb
  obtain ⟨ba1, ba2⟩ := ba
  obtain ⟨bb1, bb2⟩ := bb
  by_cases h : a = -1000000000000000
  · subst h
    go_enter Try.func77, Try.ntmps77
    go_wp2
    all_goals go_ret; exact ⟨retI (by simp [M.times]), rfl⟩
  · have h' : (a == -1000000000000000) = false := by simpa using h
    by_cases h2 : b = -1000000000000000
    · subst h2
      go_enter Try.func77, Try.ntmps77
      go_wp2
      all_goals go_ret; exact ⟨retI (by simp [M.times]), rfl⟩
    · have h2' : (b == -1000000000000000) = false := by simpa using h2
      go_enter Try.func77, Try.ntmps77
      go_wp2
      all_goals go_ret; exact ⟨retI (by simp [M.times, h, h2]), rfl⟩

set_option maxRecDepth 100000 in
set_option maxHeartbeats 400000 in
theorem clTimes (a b : Int) (w : World) (ha : M.Big a) (hb : M.Big b) : Calls Try.prog 76 #[.int .i64 a, .int .i64 b] w fun e w' => e = .returned (.int .i64 (M.times a b)) ∧ w = w' := by
  have HA := Lib.hid ha
  have HB := Lib.hid hb
  clear ha hb
  go_enter Try.func76, Try.ntmps76
  go_wp2_with (first | (go_at_call 77; refine (timesB _ _ _ HA.out HB.out).mono ?_; rintro e w' ⟨rfl, rfl⟩))
  go_ret
  exact ⟨rfl, rfl⟩

end Go.Proofs.Ytackennmjmobdaa.V
