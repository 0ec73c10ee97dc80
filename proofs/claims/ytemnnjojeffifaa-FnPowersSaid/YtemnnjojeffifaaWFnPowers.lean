/- The walk through the law: it returns true and writes nothing that was there. For every code: one factor more multiplies a power, and PowerOf answers as its model. -/
import Derived.Test.YtemnnjojeffifaaRows
import Derived.Test.YtemnnjojeffifaaMath1
import Derived.Test.YtemnnjojeffifaaVals
import Derived.Test.YtemnnjojeffifaaVals2
import Derived.Test.YtemnnjojeffifaaHelp
import Derived.Test.YtemnnjojeffifaaRows1
import Derived.Test.YtemnnjojeffifaaDraw1
import Derived.Test.YtemnnjojeffifaaDraw2
import Derived.Test.YtemnnjojeffifaaDrawP
import Derived.WalkKit
import Derived.ProofKit
import Derived.OpenShut
import Derived.ShutString
import Derived.ChangeOld
import Derived.Below
import Derived.Lib.SmallJoins
import Derived.Lib.Hide
import Derived.WalkSmall
import Derived.Deep.Draws
import Derived.Deep.QuietTactic
import Derived.BigQuiet
import Derived.Deep.RegionWith
import Derived.Deep.RegionHeld3
namespace Go.Proofs.Ytemnnjojeffifaa.fnPowers
open Go.ChangeShapes Go.WideShapes Go.ChangeAt Go.RowKit
open Go.ChangeMaps (open_string shut_string)
set_option linter.unusedVariables false

set_option maxHeartbeats 400000 in
theorem walk (a0 : Option Addr) (len0 cap0 : Nat) (z0 : List Int) (w : World) (w0 : V.IsRow .u8 w a0 len0 cap0 z0) :
    Calls Try.prog 4 #[.slice a0 len0 cap0] w fun e w' => e = .returned (.bool true) ∧ Below w.heap.size w w' := by
  have hB := w0.bytes
  have hm := hB.1
  by_cases hbig : 4096 < len0
  · have hd : decide (4096 < len0) = true := by simpa using hbig
    clear hB w0
    go_enter Try.func4, Try.ntmps4
    go_wp2_with (first | (go_at_call 15; refine (V.big _ _ _ _ hm).mono ?_; rintro e w' ⟨rfl, rfl⟩))
    go_ret
    exact ⟨rfl, Below.refl _ _⟩
  · have hd : decide (4096 < len0) = false := by simpa using hbig
    clear w0
    have HB := Lib.hid hB
    clear hB
    go_enter Try.func4, Try.ntmps4
    go_wp2_with (go_at_call 15; refine (V.big _ _ _ _ hm).mono ?_; rintro e w' ⟨rfl, rfl⟩)
    refine (V.drawPowerOf _ _ _ _ HB.out).mono ?_
    rintro e w1 ⟨a, n, rfl, ha, hn, hb⟩
    have HB1 := Lib.hid hb
    clear hb
    by_cases hz : (M.powOf a n).2 = 0
    · have H := Lib.hid hz
      by_cases hn6 : n = 1000000
      · subst hn6
        go_wp2_with (first | (go_at_call 25; refine (V.powerOf _ _ _).mono ?_; rintro e w' ⟨rfl, rfl⟩) | (go_at_call 26; refine (V.sPowerOf _ _ _).mono ?_; rintro e w' ⟨rfl, rfl⟩) | (go_at_call 17; refine (V.productOf _ _ _).mono ?_; rintro e w' ⟨rfl, rfl⟩))
        go_ret
        exact ⟨rfl, HB1.out⟩
      · have hn7 : (n == 1000000) = false := by simpa using hn6
        have he := M.next_power H.out hn6
        obtain ⟨-, hr, -, -⟩ := M.powOf_ok H.out
        obtain ⟨n1, n2⟩ := M.inR_t hr
        clear hn6 hr
        go_wp2_with (first | (go_at_call 25; refine (V.powerOf _ _ _).mono ?_; rintro e w' ⟨rfl, rfl⟩) | (go_at_call 26; refine (V.sPowerOf _ _ _).mono ?_; rintro e w' ⟨rfl, rfl⟩) | (go_at_call 17; refine (V.productOf _ _ _).mono ?_; rintro e w' ⟨rfl, rfl⟩))
        go_ret
        exact ⟨rfl, HB1.out⟩
    · have hz' : ((M.powOf a n).2 == 0) = false := by simpa using hz
      have hz2 : ((M.powOf a n).2 != 0) = true := by simpa using hz
      clear hz
      go_wp2_with (first | (go_at_call 25; refine (V.powerOf _ _ _).mono ?_; rintro e w' ⟨rfl, rfl⟩) | (go_at_call 26; refine (V.sPowerOf _ _ _).mono ?_; rintro e w' ⟨rfl, rfl⟩) | (go_at_call 17; refine (V.productOf _ _ _).mono ?_; rintro e w' ⟨rfl, rfl⟩))
      go_ret
      exact ⟨rfl, HB1.out⟩
end Go.Proofs.Ytemnnjojeffifaa.fnPowers
