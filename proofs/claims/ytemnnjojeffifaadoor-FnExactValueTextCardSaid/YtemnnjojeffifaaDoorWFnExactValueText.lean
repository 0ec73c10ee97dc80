/- The walk through the law: it returns true and writes nothing that was there. The function ValueText answers as its model, for every integer. -/
import Derived.Test.YtemnnjojeffifaaDoorRows
import Derived.Test.YtemnnjojeffifaaDoorMath1
import Derived.Test.YtemnnjojeffifaaDoorVals0
import Derived.Test.YtemnnjojeffifaaDoorDec
import Derived.Test.YtemnnjojeffifaaDoorFmt
import Derived.Test.YtemnnjojeffifaaDoorTxt
import Derived.WalkKit
import Derived.ProofKit
import Derived.OpenShut
import Derived.ShutString
import Derived.ChangeOld
import Derived.Below
import Derived.Lib.SmallJoins
import Derived.Lib.Hide
import Derived.Lib.LaidTab
import Derived.WalkSmall
import Derived.Deep.Draws
import Derived.Deep.QuietTactic
import Derived.BigQuiet
import Derived.Deep.OwnRows
import Derived.Deep.DeepHandedRow
import Derived.Stop.LaidErr
namespace Go.Proofs.YtemnnjojeffifaaDoor.fnExactValueText
open Go.ChangeShapes Go.WideShapes Go.ChangeAt Go.RowKit
open Go.ChangeMaps (open_string shut_string)
set_option linter.unusedVariables false

set_option maxRecDepth 100000 in
set_option maxHeartbeats 1000000 in
theorem walk (a0 : Int) (w : World) (w0 : (Lit.int .i64 a0).wf = true) (htab : Lib.TabIs Tryd.prog w "internal/strconv.uint64pow10" .u64 Lib.pow10Tab) :
    Calls Tryd.prog 4 #[.int .i64 a0] w fun e w' => e = .returned (.bool true) ∧ Below w.heap.size w w' := by
  have HT := Lib.hid htab
  clear htab
  go_enter Tryd.func4, Tryd.ntmps4
  go_wp2_with fail
  refine (V.sValueText _ _).mono ?_
  rintro e w1 ⟨s, rfl, rfl, hb⟩
  have HB := Lib.hid hb
  clear hb
  go_wp2_with fail
  refine (V.valueText _ _ (by exact Go.Joins.tab_stays (g := 2) (by kernel_rfl) HT.out HB.out (Nat.le_refl _))).mono ?_
  rintro e w2 ⟨s, rfl, rfl, hb2⟩
  go_wp2
  go_ret
  exact ⟨rfl, HB.out.trans (hb2.mono HB.out.size)⟩
end Go.Proofs.YtemnnjojeffifaaDoor.fnExactValueText
