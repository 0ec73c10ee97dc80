/- Texts laid together: IBot. -/
import Derived.Test.YtlljnfljcdljaabGreatRows
import Derived.Test.YtlljnfljcdljaabGreatQz2
import Derived.Test.YtlljnfljcdljaabGreatQz4
import Derived.Test.YtlljnfljcdljaabGreatQz5
import Derived.WalkKit
import Derived.ProofKit
import Derived.WalkSmall
import Derived.Deep.QuietTactic
import Derived.BigQuiet
import Derived.BigRegion
import Derived.Deep.Draws
import Derived.Lib.Hide
import Derived.OpenShut
import Derived.Deep.OwnRows
import Derived.Test.YtlljnfljcdljaabGreatQz42
set_option linter.unusedSimpArgs false
set_option linter.unusedVariables false
set_option linter.unusedSectionVars false
namespace Go.Proofs.YtlljnfljcdljaabGreat.V
open Go.RowKit

end Go.Proofs.YtlljnfljcdljaabGreat.V
