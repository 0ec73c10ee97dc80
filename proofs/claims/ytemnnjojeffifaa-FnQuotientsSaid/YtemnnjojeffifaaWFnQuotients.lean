/- The walk through the law: it returns true and writes nothing that was there. For every code: a quotient times the divisor is the number, and QuotientOf answers as its model. -/
import Derived.Test.YtemnnjojeffifaaRows
import Derived.Test.YtemnnjojeffifaaMath1
import Derived.Test.YtemnnjojeffifaaVals
import Derived.Test.YtemnnjojeffifaaVals2
import Derived.Test.YtemnnjojeffifaaHelp
import Derived.Test.YtemnnjojeffifaaRows1
import Derived.Test.YtemnnjojeffifaaDraw1
import Derived.Test.YtemnnjojeffifaaDraw2
import Derived.Test.YtemnnjojeffifaaDrawP
import Derived.WalkKit
import Derived.ProofKit
import Derived.OpenShut
import Derived.ShutString
import Derived.ChangeOld
import Derived.Below
import Derived.Lib.SmallJoins
import Derived.Lib.Hide
import Derived.WalkSmall
import Derived.Deep.Draws
import Derived.Deep.QuietTactic
import Derived.BigQuiet
import Derived.Deep.RegionWith
import Derived.Deep.RegionHeld3
namespace Go.Proofs.Ytemnnjojeffifaa.fnQuotients
open Go.ChangeShapes Go.WideShapes Go.ChangeAt Go.RowKit
open Go.ChangeMaps (open_string shut_string)
set_option linter.unusedVariables false

set_option maxHeartbeats 400000 in
theorem walk (a0 : Option Addr) (len0 cap0 : Nat) (z0 : List Int) (w : World) (w0 : V.IsRow .u8 w a0 len0 cap0 z0) :
    Calls Try.prog 5 #[.slice a0 len0 cap0] w fun e w' => e = .returned (.bool true) ∧ Below w.heap.size w w' := by
  have hB := w0.bytes
  have hm := hB.1
  by_cases hbig : 4096 < len0
  · have hd : decide (4096 < len0) = true := by simpa using hbig
    clear hB w0
    go_enter Try.func5, Try.ntmps5
    go_wp2_with (first | (go_at_call 15; refine (V.big _ _ _ _ hm).mono ?_; rintro e w' ⟨rfl, rfl⟩))
    go_ret
    exact ⟨rfl, Below.refl _ _⟩
  · have hd : decide (4096 < len0) = false := by simpa using hbig
    clear w0
    have HB := Lib.hid hB
    clear hB
    go_enter Try.func5, Try.ntmps5
    go_wp2_with (go_at_call 15; refine (V.big _ _ _ _ hm).mono ?_; rintro e w' ⟨rfl, rfl⟩)
    refine (V.drawQuotientOf _ _ _ _ HB.out).mono ?_
    rintro e w1 ⟨a, n, rfl, ha, hn, hb⟩
    have HB1 := Lib.hid hb
    clear hb
    by_cases hz : (M.quoOf a n).2 = 0
    · have he := M.back_quo hz
      go_wp2_with (first | (go_at_call 28; refine (V.quotientOf _ _ _).mono ?_; rintro e w' ⟨rfl, rfl⟩) | (go_at_call 29; refine (V.sQuotientOf _ _ _).mono ?_; rintro e w' ⟨rfl, rfl⟩) | (go_at_call 17; refine (V.productOf _ _ _).mono ?_; rintro e w' ⟨rfl, rfl⟩))
      go_ret
      exact ⟨rfl, HB1.out⟩
    · have hz' : ((M.quoOf a n).2 == 0) = false := by simpa using hz
      have hz2 : ((M.quoOf a n).2 != 0) = true := by simpa using hz
      clear hz
      go_wp2_with (first | (go_at_call 28; refine (V.quotientOf _ _ _).mono ?_; rintro e w' ⟨rfl, rfl⟩) | (go_at_call 29; refine (V.sQuotientOf _ _ _).mono ?_; rintro e w' ⟨rfl, rfl⟩) | (go_at_call 17; refine (V.productOf _ _ _).mono ?_; rintro e w' ⟨rfl, rfl⟩))
      go_ret
      exact ⟨rfl, HB1.out⟩
end Go.Proofs.Ytemnnjojeffifaa.fnQuotients
