/- Products of matrices, in the model. -/
import Derived.Test.YtmldjmlihkcchabRows
import Derived.Test.YtmldjmlihkcchabPln
import Derived.Test.YtmldjmlihkcchabHelp
import Derived.Test.YtmldjmlihkcchabRows0
import Derived.Test.YtmldjmlihkcchabOwn
import Derived.Test.YtmldjmlihkcchabMat0
import Derived.WalkKit
import Derived.ProofKit
import Derived.WalkSmall
import Derived.Deep.QuietTactic
import Derived.BigQuiet
import Derived.BigRegion
import Derived.Deep.Draws
import Derived.Lib.Hide
import Derived.OpenShut
import Derived.Deep.OwnRows
import Derived.Test.YtmldjmlihkcchabVals0
import Derived.Test.YtmldjmlihkcchabApp
import Derived.Test.YtmldjmlihkcchabSBot
import Derived.Test.YtmldjmlihkcchabVec
import Derived.Test.YtmldjmlihkcchabIsMat
import Derived.StillTailTactics
namespace Go.Proofs.Ytmldjmlihkcchab.V
open Go.RowKit

theorem tm_val {R : List (List Int)} {n L : Nat} (hR : M.isMat R = true) (hr : Rect R n L) (hn : 0 < n) {i j : Nat} (hi : i < n) (hj : j < L) : M.isVal (M.ent R i j) = true :=
  M.isMat_val hR (by rw [hr.1]; exact hi) (by rw [hr.wid hn]; exact hj)

set_option maxRecDepth 100000 in
set_option maxHeartbeats 400000 in
theorem sTimesB (a b : Int) (w : World) (ha : M.Big a) (hb : M.Big b) : Calls Try.prog 68 #[.int .i64 a, .int .i64 b] w fun e w' => e = .returned (.int .i64 (M.times a b)) ∧ w = w' := by
  have ba := M.big_bound ha
  have bb := M.big_bound hb
  clear ha hb
  obtain ⟨ba1, ba2⟩ := ba
  obtain ⟨bb1, bb2⟩ := bb
  by_cases h : a = -1000000000000000
  · subst h
    go_enter Try.func68, Try.ntmps68
    go_wp2
    all_goals go_ret; exact ⟨retI (by simp [M.times]), rfl⟩
  · have h' : (a == -1000000000000000) = false := by simpa using h
    by_cases h2 : b = -1000000000000000
    · subst h2
      go_enter Try.func68, Try.ntmps68
      go_wp2
      all_goals go_ret; exact ⟨retI (by simp [M.times]), rfl⟩
    · have h2' : (b == -1000000000000000) = false := by simpa using h2
      go_enter Try.func68, Try.ntmps68
      go_wp2
      all_goals go_ret; exact ⟨retI (by simp [M.times, h, h2]), rfl⟩

end Go.Proofs.Ytmldjmlihkcchab.V
