/- Transposes, in the program and in the model. -/
import Derived.Test.YtackennmjmobdaaRows
import Derived.Test.YtackennmjmobdaaMath1
import Derived.Test.YtackennmjmobdaaList
import Derived.Test.YtackennmjmobdaaMatM
import Derived.Test.YtackennmjmobdaaHelp
import Derived.Test.YtackennmjmobdaaRows0
import Derived.Test.YtackennmjmobdaaOwn
import Derived.Test.YtackennmjmobdaaMat0
import Derived.WalkKit
import Derived.ProofKit
import Derived.WalkSmall
import Derived.Deep.QuietTactic
import Derived.BigQuiet
import Derived.BigRegion
import Derived.Deep.Draws
import Derived.Lib.Hide
import Derived.OpenShut
import Derived.Deep.OwnRows
import Derived.Test.YtackennmjmobdaaVals0
import Derived.Test.YtackennmjmobdaaApp
import Derived.Test.YtackennmjmobdaaSBot
import Derived.Test.YtackennmjmobdaaVec
import Derived.Test.YtackennmjmobdaaIsMat
import Derived.StillTailTactics
namespace Go.Proofs.Ytackennmjmobdaa.V
open Go.RowKit



end Go.Proofs.Ytackennmjmobdaa.V
