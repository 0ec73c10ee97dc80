/- Texts laid together: Rat4. -/
import Derived.Test.YtlofnadpgnbmdaaGreatRows
import Derived.Test.YtlofnadpgnbmdaaGreatQa1
import Derived.Test.YtlofnadpgnbmdaaGreatQa8
import Derived.Test.YtlofnadpgnbmdaaGreatQa2
import Derived.WalkKit
import Derived.ProofKit
import Derived.WalkSmall
import Derived.Deep.QuietTactic
import Derived.BigQuiet
import Derived.BigRegion
import Derived.Deep.Draws
set_option linter.unusedSimpArgs false
set_option linter.unusedVariables false
set_option linter.unusedSectionVars false
namespace Go.Proofs.YtlofnadpgnbmdaaGreat.V
open Go.RowKit

set_option maxRecDepth 100000 in
set_option maxHeartbeats 400000 in
theorem eqRatio (a b : Int) (w : World) :
    Calls Tryz.prog 37 #[.agg #[.int .i64 a, .int .i64 b], .agg #[.int .i64 a, .int .i64 b]] w fun e w' => e = .returned (.bool true) ∧ Below w.heap.size w w' := by
  go_enter Tryz.func37, Tryz.ntmps37
  go_wp2
  go_ret
  exact ⟨rfl, b_alloc2 _ _ _⟩
end Go.Proofs.YtlofnadpgnbmdaaGreat.V
