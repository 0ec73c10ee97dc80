/- The plus of a square matrix, in the program. -/
import Derived.Test.YtmldjmlihkcchabClo1
namespace Go.Proofs.Ytmldjmlihkcchab.V
open Go.RowKit

/-- A matrix and a sign are returned. -/
def CPost (r : List (List Int) × Bool) (w : World) (e : Ending) (w' : World) : Prop :=
  ∃ b n c, e = .returned (.tuple #[.slice b n c, .bool r.2]) ∧ OwnM w' w.heap.size (.slice b n c) r.1 ∧ Below w.heap.size w w'

end Go.Proofs.Ytmldjmlihkcchab.V
