/- Texts laid together: Pth5, Pth6. -/
import Derived.Test.YtmldjmlihkcchaaPth4
namespace Go.Proofs.Ytmldjmlihkcchaa.V
open Go.RowKit

/-- Two integers are returned, and nothing that was there is changed. -/
def IPost (r : Int × Int) (w : World) (e : Ending) (w' : World) : Prop := e = .returned (.tuple #[.int .i64 r.1, .int .i64 r.2]) ∧ Below w.heap.size w w'
theorem IPost.mk {r : Int × Int} {x y : Int} {w w' : World} (h : r = (x, y)) (hb : Below w.heap.size w w') : IPost r w (.returned (.tuple #[.int .i64 x, .int .i64 y])) w' := by
  subst h; exact ⟨rfl, hb⟩
def BPost (b : Bool) (w : World) (e : Ending) (w' : World) : Prop := e = .returned (.bool b) ∧ Below w.heap.size w w'


end Go.Proofs.Ytmldjmlihkcchaa.V

namespace Go.Proofs.Ytmldjmlihkcchaa.V
open Go.RowKit

end Go.Proofs.Ytmldjmlihkcchaa.V
