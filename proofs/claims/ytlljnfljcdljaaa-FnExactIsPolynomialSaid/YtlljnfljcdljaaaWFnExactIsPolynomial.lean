/- The walk through the law: it returns true and writes nothing that was there. The function IsPolynomial answers as its model, for every list of integers, and leaves it as it was. -/
import Derived.Test.YtlljnfljcdljaaaRows
import Derived.Test.YtlljnfljcdljaaaQa1
import Derived.Test.YtlljnfljcdljaaaQa2
import Derived.Test.YtlljnfljcdljaaaQa11
import Derived.WalkKit
import Derived.ProofKit
import Derived.OpenShut
import Derived.ShutString
import Derived.ChangeOld
import Derived.Below
import Derived.Lib.SmallJoins
import Derived.Lib.Hide
import Derived.WalkSmall
import Derived.Deep.Draws
import Derived.Deep.QuietTactic
import Derived.BigQuiet
import Derived.Deep.OwnRows
import Derived.Deep.RegionWith
import Derived.Deep.RegionHeld3
set_option linter.unusedSimpArgs false
set_option linter.unusedVariables false
set_option linter.unusedSectionVars false
namespace Go.Proofs.Ytlljnfljcdljaaa.fnExactIsPolynomial
open Go.ChangeShapes Go.WideShapes Go.ChangeAt Go.RowKit
open Go.ChangeMaps (open_string shut_string)
set_option linter.unusedVariables false

set_option maxRecDepth 100000 in
set_option maxHeartbeats 4000000 in
theorem walk (a0 : Option Addr) (len0 cap0 : Nat) (z0 : List Int) (w : World) (w0 : V.IsRow .i64 w a0 len0 cap0 z0) :
    Calls Try.prog 6 #[.slice a0 len0 cap0] w fun e w' => e = .returned (.bool true) ∧ Below w.heap.size w w' := by
  by_cases hbig0 : 1048576 < len0
  · go_enter Try.func6, Try.ntmps6
    go_wp2
    go_ret
    exact ⟨rfl, by first | exact Below.refl _ _ | exact V.b_alloc _ _⟩
  have hn0 : len0 ≤ 1048576 := by omega
  have hI0 := w0.ints
  generalize z0.take len0 = l0 at hI0
  have HA0 := Lib.hid hI0
  clear hI0 w0 hbig0
  have HB0 := Lib.hid (Below.refl w.heap.size w)
  go_enter Try.func6, Try.ntmps6
  go_wp2_with fail
  refine (V.copyInts _ _ _ l0 _ (HA0.out.below HB0.out) hn0).mono ?_
  rintro e w_1 ⟨rfl, ho, hb⟩
  have z1 : w.heap.size ≤ w_1.heap.size := hb.size
  have HB1 := Lib.hid (HB0.out.trans (hb.mono (by omega)))
  clear hb HB0
  have HOc0 := Lib.hid ho
  clear ho
  have Sc0_1 := Lib.hid (V.Same.refl w.heap.size w_1.heap.size w_1)
  go_wp2_with fail
  refine (V.sIsPolynomialB _ _ _ l0 _ ((HOc0.out.keep Sc0_1.out).ints')).mono ?_
  rintro e w_2 ⟨rfl, hb⟩
  have z2 : w_1.heap.size ≤ w_2.heap.size := hb.size
  have HB2 := Lib.hid (HB1.out.trans (hb.mono (by omega)))
  have Sc0_2 := Lib.hid (Sc0_1.out.below hb (by omega))
  clear hb HB1 Sc0_1
  clear HOc0 Sc0_2
  go_wp2_with fail
  refine (V.copyInts _ _ _ l0 _ (HA0.out.below HB2.out) hn0).mono ?_
  rintro e w_3 ⟨rfl, ho, hb⟩
  have z3 : w_2.heap.size ≤ w_3.heap.size := hb.size
  have HB3 := Lib.hid (HB2.out.trans (hb.mono (by omega)))
  clear hb HB2
  have HOx0 := Lib.hid ho
  clear ho
  have Sx0_3 := Lib.hid (V.Same.refl w_2.heap.size w_3.heap.size w_3)
  go_wp2_with fail
  refine (V.isPolynomial _ _ _ l0 _ ((HOx0.out.keep Sx0_3.out).ints')).mono ?_
  rintro e w' ⟨rfl, rfl⟩
  go_wp2_with fail
  refine (V.copyInts _ _ _ l0 _ (HA0.out.below HB3.out) hn0).mono ?_
  rintro e w_4 ⟨rfl, ho, hb⟩
  have z4 : w_3.heap.size ≤ w_4.heap.size := hb.size
  have HB4 := Lib.hid (HB3.out.trans (hb.mono (by omega)))
  have Sx0_4 := Lib.hid (Sx0_3.out.below hb (by omega))
  clear hb HB3 Sx0_3
  have HOd0 := Lib.hid ho
  clear ho
  have Sd0_4 := Lib.hid (V.Same.refl w_3.heap.size w_4.heap.size w_4)
  go_wp2_with fail
  refine (V.eqV _ _ _ _ _ _ _ _ ((HOx0.out.keep Sx0_4.out).ints') ((HOd0.out.keep Sd0_4.out).ints')).mono ?_
  rintro e w_5 ⟨rfl, hb⟩
  have z5 : w_4.heap.size ≤ w_5.heap.size := hb.size
  have HB5 := Lib.hid (HB4.out.trans (hb.mono (by omega)))
  have Sx0_5 := Lib.hid (Sx0_4.out.below hb (by omega))
  have Sd0_5 := Lib.hid (Sd0_4.out.below hb (by omega))
  clear hb HB4 Sx0_4 Sd0_4
  clear HOd0 Sd0_5
  go_wp2
  go_ret
  exact ⟨rfl, HB5.out⟩
end Go.Proofs.Ytlljnfljcdljaaa.fnExactIsPolynomial
