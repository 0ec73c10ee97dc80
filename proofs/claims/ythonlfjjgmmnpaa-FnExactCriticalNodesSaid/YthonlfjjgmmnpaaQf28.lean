/- Texts laid together: Clo5, Fix1. -/
import Derived.Test.YthonlfjjgmmnpaaQf27
import Derived.Test.YthonlfjjgmmnpaaQf21
import Derived.Test.YthonlfjjgmmnpaaQf10
import Derived.Test.YthonlfjjgmmnpaaQf12
namespace Go.Proofs.Ythonlfjjgmmnpaa.V
open Go.RowKit



end Go.Proofs.Ythonlfjjgmmnpaa.V

namespace Go.Proofs.Ythonlfjjgmmnpaa.V
open Go.RowKit

/-- What the least fixed point of a matrix and a vector that fit is. -/
def M.lfpL (R : List (List Int)) (n : Nat) (l : List Int) : List Int × Int := if M.noPos (M.ent R) n then (if M.isVec (M.applyM (M.starM R n) l) then (M.applyM (M.starM R n) l, 0) else ([], 3)) else ([], 5)

end Go.Proofs.Ythonlfjjgmmnpaa.V
