/- Vectors and matrices: whether a list is one; program and model. -/
import Derived.Test.YtmldjmlihkcchaaRows
import Derived.Test.YtmldjmlihkcchaaPln
import Derived.Test.YtmldjmlihkcchaaHelp
import Derived.Test.YtmldjmlihkcchaaRows0
import Derived.Test.YtmldjmlihkcchaaOwn
import Derived.Test.YtmldjmlihkcchaaMat0
import Derived.WalkKit
import Derived.ProofKit
import Derived.WalkSmall
import Derived.Deep.QuietTactic
import Derived.BigQuiet
import Derived.BigRegion
import Derived.Deep.Draws
import Derived.Lib.Hide
import Derived.OpenShut
import Derived.Deep.OwnRows
import Derived.Test.YtmldjmlihkcchaaVals0
namespace Go.Proofs.Ytmldjmlihkcchaa.V
open Go.RowKit

set_option maxRecDepth 100000 in
set_option maxHeartbeats 400000 in
theorem plus (a b : Int) (w : World) : Calls Try.prog 135 #[.int .i64 a, .int .i64 b] w fun e w' => e = .returned (.int .i64 (max a b)) ∧ w = w' := by
  go_enter Try.func135, Try.ntmps135
  go_wp2
  all_goals
    go_ret
    exact ⟨retI (by omega), rfl⟩

set_option maxRecDepth 100000 in
set_option maxHeartbeats 400000 in
theorem isSize (n : Int) (w : World) : Calls Try.prog 123 #[.int .i64 n] w fun e w' => e = .returned (.bool (decide (1 ≤ n) && decide (n ≤ 10))) ∧ w = w' := by
  go_enter Try.func123, Try.ntmps123
  go_wp2
  all_goals
    go_ret
    refine ⟨retB ?_, rfl⟩
    grind

end Go.Proofs.Ytmldjmlihkcchaa.V
