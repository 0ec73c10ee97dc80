/- Drawn matrices and vectors, as the laws draw them. -/
import Derived.Test.YtfdckijililomaaRows
import Derived.Test.YtfdckijililomaaMath1
import Derived.Test.YtfdckijililomaaList
import Derived.Test.YtfdckijililomaaMatM
import Derived.Test.YtfdckijililomaaHelp
import Derived.Test.YtfdckijililomaaRows0
import Derived.Test.YtfdckijililomaaOwn
import Derived.Test.YtfdckijililomaaMat0
import Derived.WalkKit
import Derived.ProofKit
import Derived.WalkSmall
import Derived.Deep.QuietTactic
import Derived.BigQuiet
import Derived.BigRegion
import Derived.Deep.Draws
import Derived.Lib.Hide
import Derived.OpenShut
import Derived.Deep.OwnRows
import Derived.Test.YtfdckijililomaaVals0
import Derived.Test.YtfdckijililomaaApp
import Derived.Test.YtfdckijililomaaSBot
import Derived.Test.YtfdckijililomaaDraw1
import Derived.Test.YtfdckijililomaaDraw2
import Derived.Deep.RegionHeld3
import Derived.Test.YtfdckijililomaaDrawM
import Derived.Test.YtfdckijililomaaIsMat
import Derived.Test.YtfdckijililomaaApp
namespace Go.Proofs.Ytfdckijililomaa.V
open Go.RowKit


/-- A drawn matrix, as a law is handed it. -/
def DrawnM (w : World) (e : Ending) (w' : World) : Prop :=
  ∃ (a : Option Addr) (n cap : Nat) (R : List (List Int)), e = .returned (.slice a n cap) ∧ Mat w' a n R ∧ Below w.heap.size w w'

end Go.Proofs.Ytfdckijililomaa.V
