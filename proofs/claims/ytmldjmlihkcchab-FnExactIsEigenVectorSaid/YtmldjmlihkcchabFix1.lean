/- FixedPoint, in the program and in the model: every case. -/
import Derived.Test.YtmldjmlihkcchabClo3
import Derived.Test.YtmldjmlihkcchabClo5
import Derived.Test.YtmldjmlihkcchabTrans
import Derived.Test.YtmldjmlihkcchabApply
namespace Go.Proofs.Ytmldjmlihkcchab.V
open Go.RowKit

/-- What the least fixed point of a matrix and a vector that fit is. -/
def M.lfpL (R : List (List Int)) (n : Nat) (l : List Int) : List Int × Int := if M.noPos (M.ent R) n then (if M.isVec (M.applyM (M.starM R n) l) then (M.applyM (M.starM R n) l, 0) else ([], 3)) else ([], 5)

end Go.Proofs.Ytmldjmlihkcchab.V
