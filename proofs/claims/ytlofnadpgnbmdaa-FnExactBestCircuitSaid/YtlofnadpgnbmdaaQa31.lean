/- Texts laid together: Rcc. -/
import Derived.Test.YtlofnadpgnbmdaaQa27
import Derived.Test.YtlofnadpgnbmdaaQa28
import Derived.Test.YtlofnadpgnbmdaaQa30
import Derived.Test.YtlofnadpgnbmdaaQa21
import Derived.StillTailTactics
set_option linter.unusedSimpArgs false
set_option linter.unusedVariables false
set_option linter.unusedSectionVars false
namespace Go.Proofs.Ytlofnadpgnbmdaa
namespace M
def delRes (x : Int) (l : List Pc) (m : Int) : List (List Int) × Int := if isGr x l then (if inB m 0 5 then (wtM (fDel m) x.toNat l, 0) else ([], 2)) else ([], 1)
end M
namespace V
set_option maxRecDepth 100000
open Go.RowKit
end V
end Go.Proofs.Ytlofnadpgnbmdaa
