/- Texts laid together: Itz. -/
import Derived.Test.YtlljnfljcdljaabGreatQz14
set_option linter.unusedSimpArgs false
set_option linter.unusedVariables false
set_option linter.unusedSectionVars false

