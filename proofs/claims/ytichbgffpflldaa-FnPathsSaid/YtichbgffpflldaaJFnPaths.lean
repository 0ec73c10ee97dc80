/- For every code: the heaviest path has the weight in the star, no other path is heavier, and HeaviestPath and PathWeight answer as their models. -/
import Derived.Test.YtichbgffpflldaaRows
import Derived.WalkKit
import Derived.ProofKit
import Derived.OpenShut
import Derived.ShutString
import Derived.ChangeOld
import Derived.Below
import Derived.Lib.SmallJoins
import Derived.Lib.Hide
import Derived.WalkSmall
import Derived.Deep.Draws
import Derived.Deep.QuietTactic
import Derived.BigQuiet
import Derived.Deep.OwnRows
import Derived.Deep.RegionWith
import Derived.Deep.RegionHeld3
namespace Go.Proofs.Ytichbgffpflldaa.fnPaths
open Go.ChangeShapes Go.WideShapes Go.ChangeAt Go.RowKit
open Go.ChangeMaps (open_string shut_string)
set_option linter.unusedVariables false

theorem closed : joinedFacts Try.pinned.checked.prog 6 Try.f6 Rows.fnPathsSpec Rows.fnPathsRow = true := by kernel_rfl
end Go.Proofs.Ytichbgffpflldaa.fnPaths
