/- The walk through the law: it returns true and writes nothing that was there. The function MakeRatio answers as its model, for all pairs of integers. -/
import Derived.Test.YtfdckijililomaaRows
import Derived.Test.YtfdckijililomaaMath1
import Derived.Test.YtfdckijililomaaVals
import Derived.Test.YtfdckijililomaaGcd
import Derived.Test.YtfdckijililomaaHelp
import Derived.Test.YtfdckijililomaaRat
import Derived.Test.YtfdckijililomaaRat2
import Derived.Test.YtfdckijililomaaRat3
import Derived.Test.YtfdckijililomaaRat4
import Derived.WalkKit
import Derived.ProofKit
import Derived.OpenShut
import Derived.ShutString
import Derived.ChangeOld
import Derived.Below
import Derived.Lib.SmallJoins
import Derived.Lib.Hide
import Derived.WalkSmall
import Derived.Deep.Draws
import Derived.Deep.QuietTactic
import Derived.BigQuiet
import Derived.Deep.OwnRows
import Derived.Deep.RegionWith
import Derived.Deep.RegionHeld3
namespace Go.Proofs.Ytfdckijililomaa.fnExactMakeRatio
open Go.ChangeShapes Go.WideShapes Go.ChangeAt Go.RowKit
open Go.ChangeMaps (open_string shut_string)
set_option linter.unusedVariables false

set_option maxRecDepth 100000 in
set_option maxHeartbeats 4000000 in
theorem walk (a0 : Int) (a1 : Int) (w : World) (w0 : (Lit.int .i64 a0).wf = true) (w1 : (Lit.int .i64 a1).wf = true) :
    Calls Try.prog 13 #[.int .i64 a0, .int .i64 a1] w fun e w' => e = .returned (.bool true) ∧ Below w.heap.size w w' := by
  go_enter Try.func13, Try.ntmps13
  go_wp2_with fail
  refine (V.sMakeRatio _ _ _).mono ?_
  rintro e w1 ⟨rfl, hb1⟩
  go_wp2_with fail
  refine (V.makeRatio _ _ _).mono ?_
  rintro e w2 ⟨rfl, hb2⟩
  obtain ⟨hc2, hf2⟩ := V.bcell hb2
  have hz2 := hb2.size
  simp at hz2
  have z2 : w1.heap.size < w2.heap.size := by omega
  go_wp2_with fail
  refine (V.eqRatio _ _ _).mono ?_
  rintro e w3 ⟨rfl, hb3⟩
  go_wp2
  go_ret
  have hb12 := hb1.trans ((V.bel1 hb2).mono hb1.size)
  exact ⟨rfl, hb12.trans ((V.bel1 hb3).mono hb12.size)⟩
end Go.Proofs.Ytfdckijililomaa.fnExactMakeRatio
