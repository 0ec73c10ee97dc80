/- Contracts of the laws' own helpers on ratios. -/
import Derived.Test.YtmldjmlihkcchabRows
import Derived.Test.YtmldjmlihkcchabPln
import Derived.Test.YtmldjmlihkcchabVals
import Derived.Test.YtmldjmlihkcchabHelp
import Derived.WalkKit
import Derived.ProofKit
import Derived.WalkSmall
import Derived.Deep.QuietTactic
import Derived.BigQuiet
import Derived.BigRegion
import Derived.Deep.Draws
namespace Go.Proofs.Ytmldjmlihkcchab.V
open Go.RowKit

set_option maxRecDepth 100000 in
set_option maxHeartbeats 400000 in
theorem toRatio (a b : Int) (w : World) :
    Calls Try.prog 26 #[.agg #[.int .i64 a, .int .i64 b]] w fun e w' => e = .returned (.agg #[.int .i64 a, .int .i64 b]) ∧ Below w.heap.size w w' := by
  go_enter Try.func26, Try.ntmps26
  go_wp2
  exact bodyPost_ret (v := .agg #[.int .i64 a, .int .i64 b]) (by simp [results, Try.results26, go_sem]) rfl ⟨rfl, (b_alloc2 _ _ _).alloc (by simp; omega) _⟩

end Go.Proofs.Ytmldjmlihkcchab.V
