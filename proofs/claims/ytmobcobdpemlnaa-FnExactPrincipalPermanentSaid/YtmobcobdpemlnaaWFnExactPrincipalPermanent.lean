/- The walk through the law: it returns true and writes nothing that was there. The function PrincipalPermanent answers as its model, for all arguments, and leaves them as they were. -/
import Derived.Test.YtmobcobdpemlnaaRows
import Derived.Test.YtmobcobdpemlnaaQa1
import Derived.Test.YtmobcobdpemlnaaQa2
import Derived.Test.YtmobcobdpemlnaaQa19
import Derived.WalkKit
import Derived.ProofKit
import Derived.OpenShut
import Derived.ShutString
import Derived.ChangeOld
import Derived.Below
import Derived.Lib.SmallJoins
import Derived.Lib.Hide
import Derived.WalkSmall
import Derived.Deep.Draws
import Derived.Deep.QuietTactic
import Derived.BigQuiet
import Derived.Deep.OwnRows
import Derived.Deep.RegionWith
import Derived.Deep.RegionHeld3
set_option linter.unusedSimpArgs false
set_option linter.unusedVariables false
set_option linter.unusedSectionVars false
namespace Go.Proofs.Ytmobcobdpemlnaa.fnExactPrincipalPermanent
open Go.ChangeShapes Go.WideShapes Go.ChangeAt Go.RowKit
open Go.ChangeMaps (open_string shut_string)
set_option linter.unusedVariables false

set_option maxRecDepth 100000 in
set_option maxHeartbeats 4000000 in
theorem walk (a0 : Option Addr) (len0 cap0 : Nat) (R0 : List (List Int)) (a1 : Option Addr) (len1 cap1 : Nat) (z1 : List Int) (w : World) (w0 : V.Mat w a0 len0 R0) (w1 : V.IsRow .i64 w a1 len1 cap1 z1) :
    Calls Try.prog 9 #[.slice a0 len0 cap0, .slice a1 len1 cap1] w fun e w' => e = .returned (.bool true) ∧ Below w.heap.size w w' := by
  have HA0 := Lib.hid w0
  clear w0
  by_cases hbig1 : 1048576 < len1
  · go_enter Try.func9, Try.ntmps9
    go_wp2
    go_ret
    exact ⟨rfl, by first | exact Below.refl _ _ | exact V.b_alloc _ _⟩
  have hn1 : len1 ≤ 1048576 := by omega
  have hI1 := w1.ints
  generalize z1.take len1 = l1 at hI1
  have HA1 := Lib.hid hI1
  clear hI1 w1 hbig1
  have HB0 := Lib.hid (Below.refl w.heap.size w)
  go_enter Try.func9, Try.ntmps9
  go_wp2_with fail
  refine (V.szIntss _ _ _ R0 1048576 w HA0.out (by omega) (by omega)).mono ?_
  rintro e w' ⟨y0, rfl, hy0, rfl⟩
  rcases hy0 with hy0 | ⟨hy0, hx0, hn0_, hp0_⟩
  · go_wp2
    go_ret
    exact ⟨rfl, HB0.out⟩
  have hn0 : len0 ≤ 1048576 := by omega
  have hp0 : M.pre R0 R0.length ≤ 1048576 := by omega
  clear hn0_ hp0_
  go_wp2_with fail
  refine (V.copyIntss _ _ _ R0 _ (HA0.out.below HB0.out) hn0 hp0).mono ?_
  rintro e w_1 ⟨rfl, ho, hb⟩
  have z1 : w.heap.size ≤ w_1.heap.size := hb.size
  have HB1 := Lib.hid (HB0.out.trans (hb.mono (by omega)))
  clear hb HB0
  have HOc0 := Lib.hid ho
  clear ho
  have Sc0_1 := Lib.hid (V.Same.refl w.heap.size w_1.heap.size w_1)
  go_wp2_with fail
  refine (V.copyInts _ _ _ l1 _ (HA1.out.below HB1.out) hn1).mono ?_
  rintro e w_2 ⟨rfl, ho, hb⟩
  have z2 : w_1.heap.size ≤ w_2.heap.size := hb.size
  have HB2 := Lib.hid (HB1.out.trans (hb.mono (by omega)))
  have Sc0_2 := Lib.hid (Sc0_1.out.below hb (by omega))
  clear hb HB1 Sc0_1
  have HOc1 := Lib.hid ho
  clear ho
  have Sc1_2 := Lib.hid (V.Same.refl w_1.heap.size w_2.heap.size w_2)
  go_wp2_with fail
  refine (V.sPrincipalPermanent _ _ _ R0 _ _ _ l1 _ ((HOc0.out.keep Sc0_2.out).mat) ((HOc1.out.keep Sc1_2.out).ints')).mono ?_
  rintro e w_3 ⟨rfl, hb⟩
  have z3 : w_2.heap.size ≤ w_3.heap.size := hb.size
  have HB3 := Lib.hid (HB2.out.trans (hb.mono (by omega)))
  have Sc0_3 := Lib.hid (Sc0_2.out.below hb (by omega))
  have Sc1_3 := Lib.hid (Sc1_2.out.below hb (by omega))
  clear hb HB2 Sc0_2 Sc1_2
  clear HOc0 Sc0_3
  clear HOc1 Sc1_3
  go_wp2_with fail
  refine (V.copyIntss _ _ _ R0 _ (HA0.out.below HB3.out) hn0 hp0).mono ?_
  rintro e w_4 ⟨rfl, ho, hb⟩
  have z4 : w_3.heap.size ≤ w_4.heap.size := hb.size
  have HB4 := Lib.hid (HB3.out.trans (hb.mono (by omega)))
  clear hb HB3
  have HOx0 := Lib.hid ho
  clear ho
  have Sx0_4 := Lib.hid (V.Same.refl w_3.heap.size w_4.heap.size w_4)
  go_wp2_with fail
  refine (V.copyInts _ _ _ l1 _ (HA1.out.below HB4.out) hn1).mono ?_
  rintro e w_5 ⟨rfl, ho, hb⟩
  have z5 : w_4.heap.size ≤ w_5.heap.size := hb.size
  have HB5 := Lib.hid (HB4.out.trans (hb.mono (by omega)))
  have Sx0_5 := Lib.hid (Sx0_4.out.below hb (by omega))
  clear hb HB4 Sx0_4
  have HOx1 := Lib.hid ho
  clear ho
  have Sx1_5 := Lib.hid (V.Same.refl w_4.heap.size w_5.heap.size w_5)
  go_wp2_with fail
  refine (V.principalPermanent _ _ _ R0 _ _ _ l1 _ ((HOx0.out.keep Sx0_5.out).mat) ((HOx1.out.keep Sx1_5.out).ints')).mono ?_
  rintro e w_6 ⟨rfl, hb⟩
  have z6 : w_5.heap.size ≤ w_6.heap.size := hb.size
  have HB6 := Lib.hid (HB5.out.trans (hb.mono (by omega)))
  have Sx0_6 := Lib.hid (Sx0_5.out.below hb (by omega))
  have Sx1_6 := Lib.hid (Sx1_5.out.below hb (by omega))
  clear hb HB5 Sx0_5 Sx1_5
  go_wp2_with fail
  refine (V.copyIntss _ _ _ R0 _ (HA0.out.below HB6.out) hn0 hp0).mono ?_
  rintro e w_7 ⟨rfl, ho, hb⟩
  have z7 : w_6.heap.size ≤ w_7.heap.size := hb.size
  have HB7 := Lib.hid (HB6.out.trans (hb.mono (by omega)))
  have Sx0_7 := Lib.hid (Sx0_6.out.below hb (by omega))
  have Sx1_7 := Lib.hid (Sx1_6.out.below hb (by omega))
  clear hb HB6 Sx0_6 Sx1_6
  have HOd0 := Lib.hid ho
  clear ho
  have Sd0_7 := Lib.hid (V.Same.refl w_6.heap.size w_7.heap.size w_7)
  go_wp2_with fail
  refine (V.eqM _ _ _ _ _ _ _ _ ((HOx0.out.keep Sx0_7.out).mat) ((HOd0.out.keep Sd0_7.out).mat)).mono ?_
  rintro e w_8 ⟨rfl, hb⟩
  have z8 : w_7.heap.size ≤ w_8.heap.size := hb.size
  have HB8 := Lib.hid (HB7.out.trans (hb.mono (by omega)))
  have Sx0_8 := Lib.hid (Sx0_7.out.below hb (by omega))
  have Sx1_8 := Lib.hid (Sx1_7.out.below hb (by omega))
  have Sd0_8 := Lib.hid (Sd0_7.out.below hb (by omega))
  clear hb HB7 Sx0_7 Sx1_7 Sd0_7
  clear HOd0 Sd0_8
  go_wp2_with fail
  refine (V.copyInts _ _ _ l1 _ (HA1.out.below HB8.out) hn1).mono ?_
  rintro e w_9 ⟨rfl, ho, hb⟩
  have z9 : w_8.heap.size ≤ w_9.heap.size := hb.size
  have HB9 := Lib.hid (HB8.out.trans (hb.mono (by omega)))
  have Sx0_9 := Lib.hid (Sx0_8.out.below hb (by omega))
  have Sx1_9 := Lib.hid (Sx1_8.out.below hb (by omega))
  clear hb HB8 Sx0_8 Sx1_8
  have HOd1 := Lib.hid ho
  clear ho
  have Sd1_9 := Lib.hid (V.Same.refl w_8.heap.size w_9.heap.size w_9)
  go_wp2_with fail
  refine (V.eqV _ _ _ _ _ _ _ _ ((HOx1.out.keep Sx1_9.out).ints') ((HOd1.out.keep Sd1_9.out).ints')).mono ?_
  rintro e w_10 ⟨rfl, hb⟩
  have z10 : w_9.heap.size ≤ w_10.heap.size := hb.size
  have HB10 := Lib.hid (HB9.out.trans (hb.mono (by omega)))
  have Sx0_10 := Lib.hid (Sx0_9.out.below hb (by omega))
  have Sx1_10 := Lib.hid (Sx1_9.out.below hb (by omega))
  have Sd1_10 := Lib.hid (Sd1_9.out.below hb (by omega))
  clear hb HB9 Sx0_9 Sx1_9 Sd1_9
  clear HOd1 Sd1_10
  go_wp2
  go_ret
  exact ⟨rfl, HB10.out⟩
end Go.Proofs.Ytmobcobdpemlnaa.fnExactPrincipalPermanent
