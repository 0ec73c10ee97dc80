/- Texts laid together: Rcl. -/
import Derived.Test.YtjbffpmelglegaaQa47
import Derived.Deep.RegionHeld3
set_option linter.unusedSimpArgs false
set_option linter.unusedVariables false
set_option linter.unusedSectionVars false
namespace Go.Proofs.Ytjbffpmelglegaa
namespace V
set_option maxRecDepth 100000
open Go.RowKit
end V
end Go.Proofs.Ytjbffpmelglegaa
