/- The walk through the law: it returns true and writes nothing that was there. The function SumOf answers as its model, for every list of integers, and leaves the list as it was. -/
import Derived.Test.YtemnnjojeffifaaRows
import Derived.Test.YtemnnjojeffifaaMath1
import Derived.Test.YtemnnjojeffifaaList
import Derived.Test.YtemnnjojeffifaaVals
import Derived.Test.YtemnnjojeffifaaHelp
import Derived.Test.YtemnnjojeffifaaRows1
import Derived.WalkKit
import Derived.ProofKit
import Derived.OpenShut
import Derived.ShutString
import Derived.ChangeOld
import Derived.Below
import Derived.Lib.SmallJoins
import Derived.Lib.Hide
import Derived.WalkSmall
import Derived.Deep.Draws
import Derived.Deep.QuietTactic
import Derived.BigQuiet
import Derived.Deep.RegionWith
import Derived.Deep.RegionHeld3
namespace Go.Proofs.Ytemnnjojeffifaa.fnExactSumOf
open Go.ChangeShapes Go.WideShapes Go.ChangeAt Go.RowKit
open Go.ChangeMaps (open_string shut_string)
set_option linter.unusedVariables false

set_option maxHeartbeats 400000 in
theorem walk (a0 : Option Addr) (len0 cap0 : Nat) (z0 : List Int) (w : World) (w0 : V.IsRow .i64 w a0 len0 cap0 z0) :
    Calls Try.prog 8 #[.slice a0 len0 cap0] w fun e w' => e = .returned (.bool true) ∧ Below w.heap.size w w' := by
  by_cases hbig : 1048576 < len0
  · go_enter Try.func8, Try.ntmps8
    go_wp2
    go_ret
    exact ⟨rfl, Below.refl _ _⟩
  · have hI := w0.ints
    have hs : len0 ≤ 1048576 := by omega
    generalize z0.take len0 = l at hI
    have HI := Lib.hid hI
    clear hI w0 hbig
    go_enter Try.func8, Try.ntmps8
    go_wp2_with fail
    refine (V.copyInts _ _ _ l _ HI.out hs).mono ?_
    rintro e w1 ⟨rfl, h1, hb1⟩
    have H1 := Lib.hid h1
    have H1' := Lib.hid (HI.out.below hb1)
    clear h1 HI
    go_wp2_with fail
    refine (V.sSumOf _ _ _ l _ H1.out).mono ?_
    rintro e w' ⟨rfl, rfl⟩
    go_wp2_with fail
    refine (V.copyInts _ _ _ l _ H1'.out hs).mono ?_
    rintro e w2 ⟨rfl, h2, hb2⟩
    have H2 := Lib.hid h2
    have H2' := Lib.hid (H1'.out.below hb2)
    clear h2 H1 H1'
    go_wp2_with fail
    refine (V.sumOf _ _ _ l _ H2.out).mono ?_
    rintro e w' ⟨rfl, rfl⟩
    go_wp2_with fail
    refine (V.copyInts _ _ _ l _ H2'.out hs).mono ?_
    rintro e w3 ⟨rfl, h3, hb3⟩
    have H3 := Lib.hid h3
    have H3' := Lib.hid (H2.out.below hb3)
    clear h3 H2 H2'
    go_wp2_with fail
    refine (V.eqInts _ _ _ l _ _ _ l _ H3'.out H3.out rfl).mono ?_
    rintro e w4 ⟨rfl, q, rfl⟩
    go_wp2
    go_ret
    have hb12 := hb1.trans (hb2.mono hb1.size)
    exact ⟨rfl, below_drewN (hb12.trans (hb3.mono hb12.size)) q⟩
end Go.Proofs.Ytemnnjojeffifaa.fnExactSumOf
