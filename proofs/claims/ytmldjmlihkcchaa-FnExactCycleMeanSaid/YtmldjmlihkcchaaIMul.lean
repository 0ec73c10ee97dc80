/- Products of matrices, in the program. -/
import Derived.Test.YtmldjmlihkcchaaRows
import Derived.Test.YtmldjmlihkcchaaPln
import Derived.Test.YtmldjmlihkcchaaHelp
import Derived.Test.YtmldjmlihkcchaaRows0
import Derived.Test.YtmldjmlihkcchaaOwn
import Derived.Test.YtmldjmlihkcchaaMat0
import Derived.WalkKit
import Derived.ProofKit
import Derived.WalkSmall
import Derived.Deep.QuietTactic
import Derived.BigQuiet
import Derived.BigRegion
import Derived.Deep.Draws
import Derived.Lib.Hide
import Derived.OpenShut
import Derived.Deep.OwnRows
import Derived.Test.YtmldjmlihkcchaaVals0
import Derived.Test.YtmldjmlihkcchaaApp
import Derived.Test.YtmldjmlihkcchaaSBot
import Derived.Test.YtmldjmlihkcchaaVec
import Derived.Test.YtmldjmlihkcchaaIsMat
import Derived.Test.YtmldjmlihkcchaaSMul
import Derived.Test.YtmldjmlihkcchaaIAdd
import Derived.StillTailTactics
namespace Go.Proofs.Ytmldjmlihkcchaa.V
open Go.RowKit

set_option maxRecDepth 100000 in
set_option maxHeartbeats 400000 in
theorem timesB (a b : Int) (w : World) (ha : M.Big a) (hb : M.Big b) : Calls Try.prog 137 #[.int .i64 a, .int .i64 b] w fun e w' => e = .returned (.int .i64 (M.times a b)) ∧ w = w' := by
  have ba := M.big_bound ha
  have bb := M.big_bound hb
  clear ha hb
  obtain ⟨ba1, ba2⟩ := ba
  obtain ⟨bb1, bb2⟩ := bb
  by_cases h : a = -1000000000000000
  · subst h
    go_enter Try.func137, Try.ntmps137
    go_wp2
    all_goals go_ret; exact ⟨retI (by simp [M.times]), rfl⟩
  · have h' : (a == -1000000000000000) = false := by simpa using h
    by_cases h2 : b = -1000000000000000
    · subst h2
      go_enter Try.func137, Try.ntmps137
      go_wp2
      all_goals go_ret; exact ⟨retI (by simp [M.times]), rfl⟩
    · have h2' : (b == -1000000000000000) = false := by simpa using h2
      go_enter Try.func137, Try.ntmps137
      go_wp2
      all_goals go_ret; exact ⟨retI (by simp [M.times, h, h2]), rfl⟩

theorem dot_one {R R' : List (List Int)} {i j : Nat} (h : M.Big (M.ent R i 0)) (h' : M.Big (M.ent R' 0 j)) : M.dot R R' i j 1 = M.times (M.ent R i 0) (M.ent R' 0 j) :=
  M.sumN_one (M.big_times_ge h h')

end Go.Proofs.Ytmldjmlihkcchaa.V
