/- Whether a list of rows is a matrix; program and model. -/
import Derived.Test.YtmldjmlihkcchaaRows
import Derived.Test.YtmldjmlihkcchaaPln
import Derived.Test.YtmldjmlihkcchaaHelp
import Derived.Test.YtmldjmlihkcchaaRows0
import Derived.Test.YtmldjmlihkcchaaOwn
import Derived.Test.YtmldjmlihkcchaaMat0
import Derived.WalkKit
import Derived.ProofKit
import Derived.WalkSmall
import Derived.Deep.QuietTactic
import Derived.BigQuiet
import Derived.BigRegion
import Derived.Deep.Draws
import Derived.Lib.Hide
import Derived.OpenShut
import Derived.Deep.OwnRows
import Derived.Test.YtmldjmlihkcchaaVec
namespace Go.Proofs.Ytmldjmlihkcchaa.V
open Go.RowKit

end Go.Proofs.Ytmldjmlihkcchaa.V
