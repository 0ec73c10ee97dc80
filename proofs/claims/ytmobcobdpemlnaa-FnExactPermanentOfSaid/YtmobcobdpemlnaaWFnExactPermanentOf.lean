/- The walk through the law: it returns true and writes nothing that was there. The function PermanentOf answers as its model, for every list of lists of integers, and leaves it as it was. -/
import Derived.Test.YtmobcobdpemlnaaRows
import Derived.Test.YtmobcobdpemlnaaQa1
import Derived.Test.YtmobcobdpemlnaaQa2
import Derived.Test.YtmobcobdpemlnaaQa18
import Derived.WalkKit
import Derived.ProofKit
import Derived.OpenShut
import Derived.ShutString
import Derived.ChangeOld
import Derived.Below
import Derived.Lib.SmallJoins
import Derived.Lib.Hide
import Derived.WalkSmall
import Derived.Deep.Draws
import Derived.Deep.QuietTactic
import Derived.BigQuiet
import Derived.Deep.OwnRows
import Derived.Deep.RegionWith
import Derived.Deep.RegionHeld3
set_option linter.unusedSimpArgs false
set_option linter.unusedVariables false
set_option linter.unusedSectionVars false
namespace Go.Proofs.Ytmobcobdpemlnaa.fnExactPermanentOf
open Go.ChangeShapes Go.WideShapes Go.ChangeAt Go.RowKit
open Go.ChangeMaps (open_string shut_string)
set_option linter.unusedVariables false

set_option maxRecDepth 100000 in
set_option maxHeartbeats 4000000 in
theorem walk (a0 : Option Addr) (len0 cap0 : Nat) (R0 : List (List Int)) (w : World) (w0 : V.Mat w a0 len0 R0) :
    Calls Try.prog 5 #[.slice a0 len0 cap0] w fun e w' => e = .returned (.bool true) ∧ Below w.heap.size w w' := by
  have HA0 := Lib.hid w0
  clear w0
  have HB0 := Lib.hid (Below.refl w.heap.size w)
  go_enter Try.func5, Try.ntmps5
  go_wp2_with fail
  refine (V.szIntss _ _ _ R0 1048576 w HA0.out (by omega) (by omega)).mono ?_
  rintro e w' ⟨y0, rfl, hy0, rfl⟩
  rcases hy0 with hy0 | ⟨hy0, hx0, hn0_, hp0_⟩
  · go_wp2
    go_ret
    exact ⟨rfl, HB0.out⟩
  have hn0 : len0 ≤ 1048576 := by omega
  have hp0 : M.pre R0 R0.length ≤ 1048576 := by omega
  clear hn0_ hp0_
  go_wp2_with fail
  refine (V.copyIntss _ _ _ R0 _ (HA0.out.below HB0.out) hn0 hp0).mono ?_
  rintro e w_1 ⟨rfl, ho, hb⟩
  have z1 : w.heap.size ≤ w_1.heap.size := hb.size
  have HB1 := Lib.hid (HB0.out.trans (hb.mono (by omega)))
  clear hb HB0
  have HOc0 := Lib.hid ho
  clear ho
  have Sc0_1 := Lib.hid (V.Same.refl w.heap.size w_1.heap.size w_1)
  go_wp2_with fail
  refine (V.sPermanentOf _ _ _ R0 _ ((HOc0.out.keep Sc0_1.out).mat)).mono ?_
  rintro e w_2 ⟨rfl, hb⟩
  have z2 : w_1.heap.size ≤ w_2.heap.size := hb.size
  have HB2 := Lib.hid (HB1.out.trans (hb.mono (by omega)))
  have Sc0_2 := Lib.hid (Sc0_1.out.below hb (by omega))
  clear hb HB1 Sc0_1
  clear HOc0 Sc0_2
  go_wp2_with fail
  refine (V.copyIntss _ _ _ R0 _ (HA0.out.below HB2.out) hn0 hp0).mono ?_
  rintro e w_3 ⟨rfl, ho, hb⟩
  have z3 : w_2.heap.size ≤ w_3.heap.size := hb.size
  have HB3 := Lib.hid (HB2.out.trans (hb.mono (by omega)))
  clear hb HB2
  have HOx0 := Lib.hid ho
  clear ho
  have Sx0_3 := Lib.hid (V.Same.refl w_2.heap.size w_3.heap.size w_3)
  go_wp2_with fail
  refine (V.permanentOf _ _ _ R0 _ ((HOx0.out.keep Sx0_3.out).mat)).mono ?_
  rintro e w_4 ⟨rfl, hb⟩
  have z4 : w_3.heap.size ≤ w_4.heap.size := hb.size
  have HB4 := Lib.hid (HB3.out.trans (hb.mono (by omega)))
  have Sx0_4 := Lib.hid (Sx0_3.out.below hb (by omega))
  clear hb HB3 Sx0_3
  go_wp2_with fail
  refine (V.copyIntss _ _ _ R0 _ (HA0.out.below HB4.out) hn0 hp0).mono ?_
  rintro e w_5 ⟨rfl, ho, hb⟩
  have z5 : w_4.heap.size ≤ w_5.heap.size := hb.size
  have HB5 := Lib.hid (HB4.out.trans (hb.mono (by omega)))
  have Sx0_5 := Lib.hid (Sx0_4.out.below hb (by omega))
  clear hb HB4 Sx0_4
  have HOd0 := Lib.hid ho
  clear ho
  have Sd0_5 := Lib.hid (V.Same.refl w_4.heap.size w_5.heap.size w_5)
  go_wp2_with fail
  refine (V.eqM _ _ _ _ _ _ _ _ ((HOx0.out.keep Sx0_5.out).mat) ((HOd0.out.keep Sd0_5.out).mat)).mono ?_
  rintro e w_6 ⟨rfl, hb⟩
  have z6 : w_5.heap.size ≤ w_6.heap.size := hb.size
  have HB6 := Lib.hid (HB5.out.trans (hb.mono (by omega)))
  have Sx0_6 := Lib.hid (Sx0_5.out.below hb (by omega))
  have Sd0_6 := Lib.hid (Sd0_5.out.below hb (by omega))
  clear hb HB5 Sx0_5 Sd0_5
  clear HOd0 Sd0_6
  go_wp2
  go_ret
  exact ⟨rfl, HB6.out⟩
end Go.Proofs.Ytmobcobdpemlnaa.fnExactPermanentOf
