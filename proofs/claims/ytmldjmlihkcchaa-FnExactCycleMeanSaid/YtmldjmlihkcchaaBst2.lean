/- CycleMean and BestCycle in the model. -/
import Derived.Test.YtmldjmlihkcchaaBst
namespace Go.Proofs.Ytmldjmlihkcchaa
namespace V
open Go.RowKit
end V
end Go.Proofs.Ytmldjmlihkcchaa
