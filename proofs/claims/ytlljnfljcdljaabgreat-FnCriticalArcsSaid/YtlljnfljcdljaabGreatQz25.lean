/- Texts laid together: Scp. -/
import Derived.Test.YtlljnfljcdljaabGreatQz22
import Derived.Test.YtlljnfljcdljaabGreatQz15
import Derived.Test.YtlljnfljcdljaabGreatQz24
set_option linter.unusedSimpArgs false
set_option linter.unusedVariables false
set_option linter.unusedSectionVars false
namespace Go.Proofs.YtlljnfljcdljaabGreat.V
open Go.RowKit
end Go.Proofs.YtlljnfljcdljaabGreat.V
