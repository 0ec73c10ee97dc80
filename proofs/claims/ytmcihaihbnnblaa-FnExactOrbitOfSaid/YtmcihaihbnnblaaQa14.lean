/- Texts laid together: Repeat, IBot. -/
import Derived.Test.YtmcihaihbnnblaaRows
import Derived.Test.YtmcihaihbnnblaaQa1
import Derived.Test.YtmcihaihbnnblaaQa2
import Derived.Test.YtmcihaihbnnblaaQa3
import Derived.WalkKit
import Derived.ProofKit
import Derived.WalkSmall
import Derived.Deep.QuietTactic
import Derived.BigQuiet
import Derived.BigRegion
import Derived.Deep.Draws
import Derived.Lib.Hide
import Derived.OpenShut
import Derived.Deep.OwnRows
import Derived.Laws.CopyOwn
import Derived.Deep.RegionLaw
import Derived.IntWalk
import Derived.Maps.AppendAt
import Derived.StillTailTactics
import Derived.Deep.RegionHeld3
import Derived.Test.YtmcihaihbnnblaaQa4
import Derived.Test.YtmcihaihbnnblaaQa5
import Derived.Test.YtmcihaihbnnblaaQa6
set_option linter.unusedSimpArgs false
set_option linter.unusedVariables false
set_option linter.unusedSectionVars false
namespace Go.Proofs.Ytmcihaihbnnblaa.V
open Go.RowKit

end Go.Proofs.Ytmcihaihbnnblaa.V

namespace Go.Proofs.Ytmcihaihbnnblaa.V
open Go.RowKit

end Go.Proofs.Ytmcihaihbnnblaa.V
