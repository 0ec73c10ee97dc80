/- For every code: critical arcs, nodes and matrices, and whether a cycle is critical, are those of their models; a cycle is critical exactly if all of its arcs are, and critical arcs join critical nodes with their entry. -/
import Derived.Test.YtlljnfljcdljaabGreatRows
import Derived.Test.YtlljnfljcdljaabGreatLFnCriticalArcs
import Derived.Test.YtlljnfljcdljaabGreatFrm
import Derived.WalkKit
import Derived.ProofKit
import Derived.OpenShut
import Derived.ShutString
import Derived.ChangeOld
import Derived.Below
import Derived.Lib.SmallJoins
import Derived.Lib.Hide
import Derived.WalkSmall
import Derived.Deep.Draws
import Derived.Deep.QuietTactic
import Derived.BigQuiet
import Derived.Deep.OwnRows
import Derived.Deep.RegionWith
import Derived.Deep.RegionHeld3
set_option linter.unusedSimpArgs false
set_option linter.unusedVariables false
set_option linter.unusedSectionVars false
namespace Go.Proofs.YtlljnfljcdljaabGreat.fnCriticalArcs
open Go.ChangeShapes Go.WideShapes Go.ChangeAt Go.RowKit
open Go.ChangeMaps (open_string shut_string)
set_option linter.unusedVariables false

set_option maxRecDepth 100000 in
theorem closed : joinedFacts Tryz.pinned.checked.prog 4 Tryz.f4 Rows.fnCriticalArcsSpec Rows.fnCriticalArcsRow = true := by
  unfold joinedFacts
  rw [Fr.enter, Fr.make, Fr.lifts]
  kernel_rfl

theorem over : Rows.fnCriticalArcsRow.holds Tryz.pinned (OpenSpec.ofChange Rows.fnCriticalArcsSpec) :=
  OpenClaim.holds_of_wide 4 Tryz.f4 rfl rfl rfl rfl rfl rfl rfl ⟨rfl, rfl, rfl, rfl, rfl⟩ rfl rfl rfl rfl rfl (by kernel_rfl) Tryz.func4 closed
    (of_decide_eq_true (by kernel_rfl)) (by unfold Func.isWrapper; first | (rw [if_pos (by decide +kernel)]; kernel_rfl) | (rw [if_neg (by decide +kernel)]; exact ⟨rfl, rfl⟩))
    (fun os started H enc _ => lifted os started H enc)

theorem proved : Rows.FnCriticalArcsSaid := over
#print axioms proved
end Go.Proofs.YtlljnfljcdljaabGreat.fnCriticalArcs
