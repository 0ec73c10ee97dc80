/- Texts laid together: Stc. -/
import Derived.Test.YtlljnfljcdljaabGreatQz14
import Derived.Test.YtlljnfljcdljaabGreatQz6
set_option linter.unusedSimpArgs false
set_option linter.unusedVariables false
set_option linter.unusedSectionVars false
namespace Go.Proofs.YtlljnfljcdljaabGreat
namespace M
def stcM (S : Nat → Nat → Int) (n : Nat) : List (List Int) := mk n n fun i j => ent (mk n n (starF S n)) j i
end M
namespace V
set_option maxRecDepth 100000
open Go.RowKit
end V
end Go.Proofs.YtlljnfljcdljaabGreat
