/- The walk through the law: it returns true and writes nothing that was there. The function ReadValue answers as its model, for every string of at most 1048576 bytes (the law is true of longer ones by its own first test). -/
import Derived.Test.YtichbgffpflldaaDoorRows
import Derived.Test.YtichbgffpflldaaDoorMath1
import Derived.Test.YtichbgffpflldaaDoorRead
import Derived.Test.YtichbgffpflldaaDoorVals0
import Derived.Test.YtichbgffpflldaaDoorDec
import Derived.Test.YtichbgffpflldaaDoorFmt
import Derived.Test.YtichbgffpflldaaDoorTxt
import Derived.Test.YtichbgffpflldaaDoorDig
import Derived.Test.YtichbgffpflldaaDoorParse
import Derived.Test.YtichbgffpflldaaDoorRv
import Derived.WalkKit
import Derived.ProofKit
import Derived.OpenShut
import Derived.ShutString
import Derived.ChangeOld
import Derived.Below
import Derived.Lib.SmallJoins
import Derived.Lib.Hide
import Derived.Lib.LaidTab
import Derived.WalkSmall
import Derived.Deep.Draws
import Derived.Deep.QuietTactic
import Derived.BigQuiet
import Derived.Deep.OwnRows
import Derived.Deep.DeepHandedRow
import Derived.Stop.LaidErr
namespace Go.Proofs.YtichbgffpflldaaDoor.fnExactReadValue
open Go.ChangeShapes Go.WideShapes Go.ChangeAt Go.RowKit
open Go.ChangeMaps (open_string shut_string)
set_option linter.unusedVariables false

set_option maxRecDepth 100000 in
set_option maxHeartbeats 1000000 in
theorem walk (a0 : ByteArray) (w : World) (w0 : a0.size ≤ maxLen) (htab : ∀ w', Below w.heap.size w w' → Lib.TabIs Tryd.prog w' "internal/strconv.uint64pow10" .u64 Lib.pow10Tab) (hsent : ∀ w', Below w.heap.size w w' → V.Sent w') :
    Calls Tryd.prog 4 #[.string a0] w fun e w' => e = .returned (.bool true) ∧ Below w.heap.size w w' := by
  by_cases hbig : 1048576 < a0.size
  · clear htab hsent
    go_enter Tryd.func4, Tryd.ntmps4
    go_wp2
    go_ret
    exact ⟨rfl, Below.refl _ _⟩
  · have HT := Lib.hid htab
    have HN := Lib.hid hsent
    clear htab hsent
    go_enter Tryd.func4, Tryd.ntmps4
    go_wp2_with fail
    refine (V.sReadValue _ _ w0).mono ?_
    rintro e w1 ⟨rfl, hb⟩
    have HB := Lib.hid hb
    clear hb
    go_wp2_with fail
    refine (V.readValue a0 w1 (by omega) (fun w' h => HT.out w' (HB.out.trans (h.mono HB.out.size))) (fun w' h => HN.out w' (HB.out.trans (h.mono HB.out.size)))).mono ?_
    rintro e w2 ⟨rfl, hb2⟩
    have HB2 := Lib.hid (HB.out.trans (hb2.mono HB.out.size))
    clear hb2
    have hq := M.read_eq a0.data.toList
    go_wp2
    go_ret
    exact ⟨rfl, HB2.out⟩
end Go.Proofs.YtichbgffpflldaaDoor.fnExactReadValue
