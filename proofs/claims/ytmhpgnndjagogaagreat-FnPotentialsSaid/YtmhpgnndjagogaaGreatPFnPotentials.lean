/- For every code: PotentialOf, IsPotential and ShiftMatrix answer as their models, a potential that is told holds, and there is none exactly below the cycle mean. -/
import Derived.Test.YtmhpgnndjagogaaGreatRows
import Derived.Test.YtmhpgnndjagogaaGreatLFnPotentials
import Derived.Test.YtmhpgnndjagogaaGreatFrm
import Derived.WalkKit
import Derived.ProofKit
import Derived.OpenShut
import Derived.ShutString
import Derived.ChangeOld
import Derived.Below
import Derived.Lib.SmallJoins
import Derived.Lib.Hide
import Derived.WalkSmall
import Derived.Deep.Draws
import Derived.Deep.QuietTactic
import Derived.BigQuiet
import Derived.Deep.OwnRows
import Derived.Deep.RegionWith
import Derived.Deep.RegionHeld3
set_option linter.unusedSimpArgs false
set_option linter.unusedVariables false
set_option linter.unusedSectionVars false
namespace Go.Proofs.YtmhpgnndjagogaaGreat.fnPotentials
open Go.ChangeShapes Go.WideShapes Go.ChangeAt Go.RowKit
open Go.ChangeMaps (open_string shut_string)
set_option linter.unusedVariables false

set_option maxRecDepth 100000 in
theorem closed : joinedFacts Tryz.pinned.checked.prog 4 Tryz.f4 Rows.fnPotentialsSpec Rows.fnPotentialsRow = true := by
  unfold joinedFacts
  rw [Fr.enter, Fr.make, Fr.lifts]
  kernel_rfl

theorem over : Rows.fnPotentialsRow.holds Tryz.pinned (OpenSpec.ofChange Rows.fnPotentialsSpec) :=
  OpenClaim.holds_of_wide 4 Tryz.f4 rfl rfl rfl rfl rfl rfl rfl ⟨rfl, rfl, rfl, rfl, rfl⟩ rfl rfl rfl rfl rfl (by kernel_rfl) Tryz.func4 closed
    (of_decide_eq_true (by kernel_rfl)) (by unfold Func.isWrapper; first | (rw [if_pos (by decide +kernel)]; kernel_rfl) | (rw [if_neg (by decide +kernel)]; exact ⟨rfl, rfl⟩))
    (fun os started H enc _ => lifted os started H enc)

theorem proved : Rows.FnPotentialsSaid := over
#print axioms proved
end Go.Proofs.YtmhpgnndjagogaaGreat.fnPotentials
