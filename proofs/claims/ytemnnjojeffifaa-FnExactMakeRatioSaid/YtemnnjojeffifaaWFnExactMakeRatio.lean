/- The walk through the law: it returns true and writes nothing that was there. The function MakeRatio answers as its model, for all pairs of integers. -/
import Derived.Test.YtemnnjojeffifaaRows
import Derived.Test.YtemnnjojeffifaaMath1
import Derived.Test.YtemnnjojeffifaaVals
import Derived.Test.YtemnnjojeffifaaGcd
import Derived.Test.YtemnnjojeffifaaHelp
import Derived.Test.YtemnnjojeffifaaRat
import Derived.Test.YtemnnjojeffifaaRat2
import Derived.Test.YtemnnjojeffifaaRat3
import Derived.Test.YtemnnjojeffifaaRat4
import Derived.WalkKit
import Derived.ProofKit
import Derived.OpenShut
import Derived.ShutString
import Derived.ChangeOld
import Derived.Below
import Derived.Lib.SmallJoins
import Derived.Lib.Hide
import Derived.WalkSmall
import Derived.Deep.Draws
import Derived.Deep.QuietTactic
import Derived.BigQuiet
import Derived.Deep.RegionWith
import Derived.Deep.RegionHeld3
namespace Go.Proofs.Ytemnnjojeffifaa.fnExactMakeRatio
open Go.ChangeShapes Go.WideShapes Go.ChangeAt Go.RowKit
open Go.ChangeMaps (open_string shut_string)
set_option linter.unusedVariables false

set_option maxHeartbeats 400000 in
theorem walk (a0 : Int) (a1 : Int) (w : World) (w0 : (Lit.int .i64 a0).wf = true) (w1 : (Lit.int .i64 a1).wf = true) :
    Calls Try.prog 13 #[.int .i64 a0, .int .i64 a1] w fun e w' => e = .returned (.bool true) ∧ Below w.heap.size w w' := by
  go_enter Try.func13, Try.ntmps13
  go_wp2_with fail
  refine (V.sMakeRatio _ _ _).mono ?_
  rintro e w1 ⟨rfl, hb1⟩
  go_wp2_with fail
  refine (V.makeRatio _ _ _).mono ?_
  rintro e w2 ⟨rfl, hb2⟩
  obtain ⟨hc2, hf2⟩ := V.bcell hb2
  have hz2 := hb2.size
  simp at hz2
  have z2 : w1.heap.size < w2.heap.size := by omega
  go_wp2_with fail
  refine (V.eqRatio _ _ _).mono ?_
  rintro e w3 ⟨rfl, hb3⟩
  go_wp2
  go_ret
  have hb12 := hb1.trans ((V.bel1 hb2).mono hb1.size)
  exact ⟨rfl, hb12.trans ((V.bel1 hb3).mono hb12.size)⟩
end Go.Proofs.Ytemnnjojeffifaa.fnExactMakeRatio
