/- The walk through the law: it returns true and writes nothing that was there. The function CompareRatios answers as its model, for all pairs of ratios, valid or not. -/
import Derived.Test.YtfdckijililomaaRows
import Derived.Test.YtfdckijililomaaMath1
import Derived.Test.YtfdckijililomaaVals
import Derived.Test.YtfdckijililomaaGcd
import Derived.Test.YtfdckijililomaaHelp
import Derived.Test.YtfdckijililomaaRat
import Derived.Test.YtfdckijililomaaRat2
import Derived.Test.YtfdckijililomaaRat3
import Derived.Test.YtfdckijililomaaRat4
import Derived.WalkKit
import Derived.ProofKit
import Derived.OpenShut
import Derived.ShutString
import Derived.ChangeOld
import Derived.Below
import Derived.Lib.SmallJoins
import Derived.Lib.Hide
import Derived.WalkSmall
import Derived.Deep.Draws
import Derived.Deep.QuietTactic
import Derived.BigQuiet
import Derived.Deep.OwnRows
import Derived.Deep.RegionWith
import Derived.Deep.RegionHeld3
namespace Go.Proofs.Ytfdckijililomaa.fnExactCompareRatios
open Go.ChangeShapes Go.WideShapes Go.ChangeAt Go.RowKit
open Go.ChangeMaps (open_string shut_string)
set_option linter.unusedVariables false

set_option maxRecDepth 100000 in
set_option maxHeartbeats 4000000 in
theorem walk (a0_0 a0_1 : Int) (a1_0 a1_1 : Int) (w : World) (w0_0 : (Lit.int .i64 a0_0).wf = true) (w0_1 : (Lit.int .i64 a0_1).wf = true) (w1_0 : (Lit.int .i64 a1_0).wf = true) (w1_1 : (Lit.int .i64 a1_1).wf = true) :
    Calls Try.prog 14 #[.agg #[.int .i64 a0_0, .int .i64 a0_1], .agg #[.int .i64 a1_0, .int .i64 a1_1]] w fun e w' => e = .returned (.bool true) ∧ Below w.heap.size w w' := by
  go_enter Try.func14, Try.ntmps14
  go_wp2
  go_region_held3 (fun w' => w'.cell? ⟨w.heap.size, 0, none⟩ = some (.int .i64 a0_0) ∧ w'.cell? ⟨w.heap.size, 1, none⟩ = some (.int .i64 a0_1) ∧ w'.cell? ⟨w.heap.size + 1, 0, none⟩ = some (.int .i64 a1_0) ∧ w'.cell? ⟨w.heap.size + 1, 1, none⟩ = some (.int .i64 a1_1) ∧ Below w.heap.size w w') (refine ⟨?_, ?_, ?_, ?_, ?_⟩ <;> first | exact V.kA (by assumption) hb | exact V.kB (by assumption) hb | exact V.kC (by assumption) hb | exact V.kD (by assumption) hb | exact V.sb (by assumption) hb | exact V.sd (by assumption) | exact (V.b_alloc2 _ _ _).drew | go_keep) (first | (go_at_call 43; refine (V.toRatio _ _ _).mono ?_; rintro e wx ⟨rfl, hb⟩) | (go_at_call 56; refine (V.sCompareRatios _ _ _ _ _).mono ?_; rintro e wx ⟨rfl, hb⟩))
  go_wp2
  go_region_held3 (fun w' => w'.cell? ⟨w.heap.size, 0, none⟩ = some (.int .i64 a0_0) ∧ w'.cell? ⟨w.heap.size, 1, none⟩ = some (.int .i64 a0_1) ∧ w'.cell? ⟨w.heap.size + 1, 0, none⟩ = some (.int .i64 a1_0) ∧ w'.cell? ⟨w.heap.size + 1, 1, none⟩ = some (.int .i64 a1_1) ∧ Below w.heap.size w w') (refine ⟨?_, ?_, ?_, ?_, ?_⟩ <;> first | exact V.kA (by assumption) hb | exact V.kB (by assumption) hb | exact V.kC (by assumption) hb | exact V.kD (by assumption) hb | exact V.sb (by assumption) hb | exact V.sd (by assumption) | exact (V.b_alloc2 _ _ _).drew | go_keep) (first | (go_at_call 43; refine (V.toRatio _ _ _).mono ?_; rintro e wx ⟨rfl, hb⟩) | (go_at_call 30; refine (V.compareRatios _ _ _ _ _).mono ?_; rintro e wx ⟨rfl, hb⟩))
  go_wp2
  go_ret
  exact ⟨rfl, V.s5 (by assumption)⟩
end Go.Proofs.Ytfdckijililomaa.fnExactCompareRatios
