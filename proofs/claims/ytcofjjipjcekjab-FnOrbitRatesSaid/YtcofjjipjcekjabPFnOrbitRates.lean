/- For every code: OrbitRepeats and OrbitRate answer as their models; the orbit goes to the end of the first repeat, is there the shifted one of its beginning, and the rate is the growth over the period. -/
import Derived.Test.YtcofjjipjcekjabRows
import Derived.Test.YtcofjjipjcekjabLFnOrbitRates
import Derived.Test.YtcofjjipjcekjabFrm
import Derived.WalkKit
import Derived.ProofKit
import Derived.OpenShut
import Derived.ShutString
import Derived.ChangeOld
import Derived.Below
import Derived.Lib.SmallJoins
import Derived.Lib.Hide
import Derived.WalkSmall
import Derived.Deep.Draws
import Derived.Deep.QuietTactic
import Derived.BigQuiet
import Derived.Deep.OwnRows
import Derived.Deep.RegionWith
import Derived.Deep.RegionHeld3
set_option linter.unusedSimpArgs false
set_option linter.unusedVariables false
set_option linter.unusedSectionVars false
namespace Go.Proofs.Ytcofjjipjcekjab.fnOrbitRates
open Go.ChangeShapes Go.WideShapes Go.ChangeAt Go.RowKit
open Go.ChangeMaps (open_string shut_string)
set_option linter.unusedVariables false

set_option maxRecDepth 100000 in
theorem closed : joinedFacts Try.pinned.checked.prog 13 Try.f13 Rows.fnOrbitRatesSpec Rows.fnOrbitRatesRow = true := by
  unfold joinedFacts
  rw [Fr.enter, Fr.make, Fr.lifts]
  kernel_rfl

theorem over : Rows.fnOrbitRatesRow.holds Try.pinned (OpenSpec.ofChange Rows.fnOrbitRatesSpec) :=
  OpenClaim.holds_of_wide 13 Try.f13 rfl rfl rfl rfl rfl rfl rfl ⟨rfl, rfl, rfl, rfl, rfl⟩ rfl rfl rfl rfl rfl (by kernel_rfl) Try.func13 closed
    (of_decide_eq_true (by kernel_rfl)) (by unfold Func.isWrapper; first | (rw [if_pos (by decide +kernel)]; kernel_rfl) | (rw [if_neg (by decide +kernel)]; exact ⟨rfl, rfl⟩))
    (fun os started H enc _ => lifted os started H enc)

theorem proved : Rows.FnOrbitRatesSaid := over
#print axioms proved
end Go.Proofs.Ytcofjjipjcekjab.fnOrbitRates
