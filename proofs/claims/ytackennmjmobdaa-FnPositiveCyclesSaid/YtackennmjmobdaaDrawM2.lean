/- Drawn matrices and vectors, as the laws draw them. -/
import Derived.Test.YtackennmjmobdaaRows
import Derived.Test.YtackennmjmobdaaMath1
import Derived.Test.YtackennmjmobdaaList
import Derived.Test.YtackennmjmobdaaMatM
import Derived.Test.YtackennmjmobdaaHelp
import Derived.Test.YtackennmjmobdaaRows0
import Derived.Test.YtackennmjmobdaaOwn
import Derived.Test.YtackennmjmobdaaMat0
import Derived.WalkKit
import Derived.ProofKit
import Derived.WalkSmall
import Derived.Deep.QuietTactic
import Derived.BigQuiet
import Derived.BigRegion
import Derived.Deep.Draws
import Derived.Lib.Hide
import Derived.OpenShut
import Derived.Deep.OwnRows
import Derived.Test.YtackennmjmobdaaVals0
import Derived.Test.YtackennmjmobdaaApp
import Derived.Test.YtackennmjmobdaaSBot
import Derived.Test.YtackennmjmobdaaDraw1
import Derived.Test.YtackennmjmobdaaDraw2
import Derived.Deep.RegionHeld3
import Derived.Test.YtackennmjmobdaaDrawM
import Derived.Test.YtackennmjmobdaaIsMat
import Derived.Test.YtackennmjmobdaaApp
namespace Go.Proofs.Ytackennmjmobdaa.V
open Go.RowKit


/-- A drawn matrix, as a law is handed it. -/
def DrawnM (w : World) (e : Ending) (w' : World) : Prop :=
  ∃ (a : Option Addr) (n cap : Nat) (R : List (List Int)), e = .returned (.slice a n cap) ∧ Mat w' a n R ∧ Below w.heap.size w w'

end Go.Proofs.Ytackennmjmobdaa.V
