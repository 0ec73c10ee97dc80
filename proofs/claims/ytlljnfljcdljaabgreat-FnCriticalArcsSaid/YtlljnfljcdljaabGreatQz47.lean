/- Texts laid together: D3z. -/
import Derived.Test.YtlljnfljcdljaabGreatQz37
import Derived.Test.YtlljnfljcdljaabGreatQz45
import Derived.Test.YtlljnfljcdljaabGreatQz46
set_option linter.unusedSimpArgs false
set_option linter.unusedVariables false
set_option linter.unusedSectionVars false

