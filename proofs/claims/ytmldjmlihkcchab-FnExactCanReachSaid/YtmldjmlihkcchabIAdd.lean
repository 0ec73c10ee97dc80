/- The sum of two matrices, in the program. -/
import Derived.Test.YtmldjmlihkcchabRows
import Derived.Test.YtmldjmlihkcchabPln
import Derived.Test.YtmldjmlihkcchabHelp
import Derived.Test.YtmldjmlihkcchabRows0
import Derived.Test.YtmldjmlihkcchabOwn
import Derived.Test.YtmldjmlihkcchabMat0
import Derived.WalkKit
import Derived.ProofKit
import Derived.WalkSmall
import Derived.Deep.QuietTactic
import Derived.BigQuiet
import Derived.BigRegion
import Derived.Deep.Draws
import Derived.Lib.Hide
import Derived.OpenShut
import Derived.Deep.OwnRows
import Derived.Test.YtmldjmlihkcchabVals0
import Derived.Test.YtmldjmlihkcchabApp
import Derived.Test.YtmldjmlihkcchabSBot
import Derived.Test.YtmldjmlihkcchabVec
import Derived.Test.YtmldjmlihkcchabIsMat
import Derived.StillTailTactics
namespace Go.Proofs.Ytmldjmlihkcchab.V
open Go.RowKit

set_option maxRecDepth 100000 in
set_option maxHeartbeats 400000 in
theorem clPlus (a b : Int) (w : World) : Calls Try.prog 92 #[.int .i64 a, .int .i64 b] w fun e w' => e = .returned (.int .i64 (max a b)) ∧ w = w' := by
  go_enter Try.func92, Try.ntmps92
  go_wp2_with (first | (go_at_call 93; refine (plus _ _ _).mono ?_; rintro e w' ⟨rfl, rfl⟩))
  go_ret
  exact ⟨rfl, rfl⟩

/-- The pair of operations. -/
theorem maxPlus (w : World) : Calls Try.prog 85 #[] w fun e w' => e = .returned (.agg #[.func (.func 92) #[] #[], .func (.func 94) #[] #[]]) ∧ Below w.heap.size w w' := by
  have hst : ∀ (w : World) (a : Addr) (f : Fn), (store a (.func f #[] #[])).run Try.prog w = stored Try.prog w a (.func f #[] #[]) .plain := fun w a f => run_store _ w a _ _ rfl
  go_enter Try.func85, Try.ntmps85
  go_wp2
  exact bodyPost_ret (v := .agg #[.func (.func 92) #[] #[], .func (.func 94) #[] #[]]) (by simp [results, Try.results85, go_sem]) rfl ⟨rfl, b_alloc _ _⟩

theorem fld0 (w : World) (f g : Fn) : (Instr.field 84 (.agg #[.func f #[] #[], .func g #[] #[]]) 0).run Try.prog w = .ok (.func f #[] #[]) w := by
  simp [Instr.field, part, asAgg, go_sem]
end Go.Proofs.Ytmldjmlihkcchab.V
