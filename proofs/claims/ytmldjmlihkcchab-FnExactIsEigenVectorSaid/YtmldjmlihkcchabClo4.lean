/- The star in the model; StarMatrix and PlusMatrix there: every case. -/
import Derived.Test.YtmldjmlihkcchabClo2
namespace Go.Proofs.Ytmldjmlihkcchab.V
open Go.RowKit



end Go.Proofs.Ytmldjmlihkcchab.V
