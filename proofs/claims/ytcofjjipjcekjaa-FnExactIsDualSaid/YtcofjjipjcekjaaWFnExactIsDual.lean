/- The walk through the law: it returns true and writes nothing that was there. The function IsDual answers as its model, for all arguments, and leaves them as they were. -/
import Derived.Test.YtcofjjipjcekjaaRows
import Derived.Test.YtcofjjipjcekjaaQa1
import Derived.Test.YtcofjjipjcekjaaQa2
import Derived.Test.YtcofjjipjcekjaaQa10
import Derived.Test.YtcofjjipjcekjaaQa12
import Derived.Test.YtcofjjipjcekjaaQa18
import Derived.WalkKit
import Derived.ProofKit
import Derived.OpenShut
import Derived.ShutString
import Derived.ChangeOld
import Derived.Below
import Derived.Lib.SmallJoins
import Derived.Lib.Hide
import Derived.WalkSmall
import Derived.Deep.Draws
import Derived.Deep.QuietTactic
import Derived.BigQuiet
import Derived.Deep.OwnRows
import Derived.Deep.RegionWith
import Derived.Deep.RegionHeld3
set_option linter.unusedSimpArgs false
set_option linter.unusedVariables false
set_option linter.unusedSectionVars false
namespace Go.Proofs.Ytcofjjipjcekjaa.fnExactIsDual
open Go.ChangeShapes Go.WideShapes Go.ChangeAt Go.RowKit
open Go.ChangeMaps (open_string shut_string)
set_option linter.unusedVariables false

set_option maxRecDepth 100000 in
set_option maxHeartbeats 4000000 in
theorem walk (a0 : Option Addr) (len0 cap0 : Nat) (R0 : List (List Int)) (a1 : Option Addr) (len1 cap1 : Nat) (z1 : List Int) (a2 : Option Addr) (len2 cap2 : Nat) (z2 : List Int) (w : World) (w0 : V.Mat w a0 len0 R0) (w1 : V.IsRow .i64 w a1 len1 cap1 z1) (w2 : V.IsRow .i64 w a2 len2 cap2 z2) :
    Calls Try.prog 13 #[.slice a0 len0 cap0, .slice a1 len1 cap1, .slice a2 len2 cap2] w fun e w' => e = .returned (.bool true) ∧ Below w.heap.size w w' := by
  have HA0 := Lib.hid w0
  clear w0
  by_cases hbig1 : 1048576 < len1
  · go_enter Try.func13, Try.ntmps13
    go_wp2
    go_ret
    exact ⟨rfl, by first | exact Below.refl _ _ | exact V.b_alloc _ _⟩
  have hn1 : len1 ≤ 1048576 := by omega
  have hI1 := w1.ints
  generalize z1.take len1 = l1 at hI1
  have HA1 := Lib.hid hI1
  clear hI1 w1 hbig1
  by_cases hbig2 : 1048576 < len2
  · go_enter Try.func13, Try.ntmps13
    go_wp2
    go_ret
    exact ⟨rfl, by first | exact Below.refl _ _ | exact V.b_alloc _ _⟩
  have hn2 : len2 ≤ 1048576 := by omega
  have hI2 := w2.ints
  generalize z2.take len2 = l2 at hI2
  have HA2 := Lib.hid hI2
  clear hI2 w2 hbig2
  have HB0 := Lib.hid (Below.refl w.heap.size w)
  go_enter Try.func13, Try.ntmps13
  go_wp2_with fail
  refine (V.szIntss _ _ _ R0 1048576 w HA0.out (by omega) (by omega)).mono ?_
  rintro e w' ⟨y0, rfl, hy0, rfl⟩
  rcases hy0 with hy0 | ⟨hy0, hx0, hn0_, hp0_⟩
  · go_wp2
    go_ret
    exact ⟨rfl, HB0.out⟩
  have hn0 : len0 ≤ 1048576 := by omega
  have hp0 : M.pre R0 R0.length ≤ 1048576 := by omega
  clear hn0_ hp0_
  go_wp2_with fail
  refine (V.copyIntss _ _ _ R0 _ (HA0.out.below HB0.out) hn0 hp0).mono ?_
  rintro e w_1 ⟨rfl, ho, hb⟩
  have z1 : w.heap.size ≤ w_1.heap.size := hb.size
  have HB1 := Lib.hid (HB0.out.trans (hb.mono (by omega)))
  clear hb HB0
  have HOc0 := Lib.hid ho
  clear ho
  have Sc0_1 := Lib.hid (V.Same.refl w.heap.size w_1.heap.size w_1)
  go_wp2_with fail
  refine (V.copyInts _ _ _ l1 _ (HA1.out.below HB1.out) hn1).mono ?_
  rintro e w_2 ⟨rfl, ho, hb⟩
  have z2 : w_1.heap.size ≤ w_2.heap.size := hb.size
  have HB2 := Lib.hid (HB1.out.trans (hb.mono (by omega)))
  have Sc0_2 := Lib.hid (Sc0_1.out.below hb (by omega))
  clear hb HB1 Sc0_1
  have HOc1 := Lib.hid ho
  clear ho
  have Sc1_2 := Lib.hid (V.Same.refl w_1.heap.size w_2.heap.size w_2)
  go_wp2_with fail
  refine (V.copyInts _ _ _ l2 _ (HA2.out.below HB2.out) hn2).mono ?_
  rintro e w_3 ⟨rfl, ho, hb⟩
  have z3 : w_2.heap.size ≤ w_3.heap.size := hb.size
  have HB3 := Lib.hid (HB2.out.trans (hb.mono (by omega)))
  have Sc0_3 := Lib.hid (Sc0_2.out.below hb (by omega))
  have Sc1_3 := Lib.hid (Sc1_2.out.below hb (by omega))
  clear hb HB2 Sc0_2 Sc1_2
  have HOc2 := Lib.hid ho
  clear ho
  have Sc2_3 := Lib.hid (V.Same.refl w_2.heap.size w_3.heap.size w_3)
  go_wp2_with fail
  refine (V.sIsDual _ _ _ R0 _ _ _ l1 _ _ _ l2 _ ((HOc0.out.keep Sc0_3.out).mat) ((HOc1.out.keep Sc1_3.out).ints') ((HOc2.out.keep Sc2_3.out).ints')).mono ?_
  rintro e w_4 ⟨rfl, hb⟩
  have z4 : w_3.heap.size ≤ w_4.heap.size := hb.size
  have HB4 := Lib.hid (HB3.out.trans (hb.mono (by omega)))
  have Sc0_4 := Lib.hid (Sc0_3.out.below hb (by omega))
  have Sc1_4 := Lib.hid (Sc1_3.out.below hb (by omega))
  have Sc2_4 := Lib.hid (Sc2_3.out.below hb (by omega))
  clear hb HB3 Sc0_3 Sc1_3 Sc2_3
  clear HOc0 Sc0_4
  clear HOc1 Sc1_4
  clear HOc2 Sc2_4
  go_wp2_with fail
  refine (V.copyIntss _ _ _ R0 _ (HA0.out.below HB4.out) hn0 hp0).mono ?_
  rintro e w_5 ⟨rfl, ho, hb⟩
  have z5 : w_4.heap.size ≤ w_5.heap.size := hb.size
  have HB5 := Lib.hid (HB4.out.trans (hb.mono (by omega)))
  clear hb HB4
  have HOx0 := Lib.hid ho
  clear ho
  have Sx0_5 := Lib.hid (V.Same.refl w_4.heap.size w_5.heap.size w_5)
  go_wp2_with fail
  refine (V.copyInts _ _ _ l1 _ (HA1.out.below HB5.out) hn1).mono ?_
  rintro e w_6 ⟨rfl, ho, hb⟩
  have z6 : w_5.heap.size ≤ w_6.heap.size := hb.size
  have HB6 := Lib.hid (HB5.out.trans (hb.mono (by omega)))
  have Sx0_6 := Lib.hid (Sx0_5.out.below hb (by omega))
  clear hb HB5 Sx0_5
  have HOx1 := Lib.hid ho
  clear ho
  have Sx1_6 := Lib.hid (V.Same.refl w_5.heap.size w_6.heap.size w_6)
  go_wp2_with fail
  refine (V.copyInts _ _ _ l2 _ (HA2.out.below HB6.out) hn2).mono ?_
  rintro e w_7 ⟨rfl, ho, hb⟩
  have z7 : w_6.heap.size ≤ w_7.heap.size := hb.size
  have HB7 := Lib.hid (HB6.out.trans (hb.mono (by omega)))
  have Sx0_7 := Lib.hid (Sx0_6.out.below hb (by omega))
  have Sx1_7 := Lib.hid (Sx1_6.out.below hb (by omega))
  clear hb HB6 Sx0_6 Sx1_6
  have HOx2 := Lib.hid ho
  clear ho
  have Sx2_7 := Lib.hid (V.Same.refl w_6.heap.size w_7.heap.size w_7)
  go_wp2_with fail
  refine (V.isDual _ _ _ R0 _ _ _ l1 _ _ _ l2 _ ((HOx0.out.keep Sx0_7.out).mat) ((HOx1.out.keep Sx1_7.out).ints') ((HOx2.out.keep Sx2_7.out).ints')).mono ?_
  rintro e w_8 ⟨rfl, hb⟩
  have z8 : w_7.heap.size ≤ w_8.heap.size := hb.size
  have HB8 := Lib.hid (HB7.out.trans (hb.mono (by omega)))
  have Sx0_8 := Lib.hid (Sx0_7.out.below hb (by omega))
  have Sx1_8 := Lib.hid (Sx1_7.out.below hb (by omega))
  have Sx2_8 := Lib.hid (Sx2_7.out.below hb (by omega))
  clear hb HB7 Sx0_7 Sx1_7 Sx2_7
  go_wp2_with fail
  refine (V.copyIntss _ _ _ R0 _ (HA0.out.below HB8.out) hn0 hp0).mono ?_
  rintro e w_9 ⟨rfl, ho, hb⟩
  have z9 : w_8.heap.size ≤ w_9.heap.size := hb.size
  have HB9 := Lib.hid (HB8.out.trans (hb.mono (by omega)))
  have Sx0_9 := Lib.hid (Sx0_8.out.below hb (by omega))
  have Sx1_9 := Lib.hid (Sx1_8.out.below hb (by omega))
  have Sx2_9 := Lib.hid (Sx2_8.out.below hb (by omega))
  clear hb HB8 Sx0_8 Sx1_8 Sx2_8
  have HOd0 := Lib.hid ho
  clear ho
  have Sd0_9 := Lib.hid (V.Same.refl w_8.heap.size w_9.heap.size w_9)
  go_wp2_with fail
  refine (V.eqM _ _ _ _ _ _ _ _ ((HOx0.out.keep Sx0_9.out).mat) ((HOd0.out.keep Sd0_9.out).mat)).mono ?_
  rintro e w_10 ⟨rfl, hb⟩
  have z10 : w_9.heap.size ≤ w_10.heap.size := hb.size
  have HB10 := Lib.hid (HB9.out.trans (hb.mono (by omega)))
  have Sx0_10 := Lib.hid (Sx0_9.out.below hb (by omega))
  have Sx1_10 := Lib.hid (Sx1_9.out.below hb (by omega))
  have Sx2_10 := Lib.hid (Sx2_9.out.below hb (by omega))
  have Sd0_10 := Lib.hid (Sd0_9.out.below hb (by omega))
  clear hb HB9 Sx0_9 Sx1_9 Sx2_9 Sd0_9
  clear HOd0 Sd0_10
  go_wp2_with fail
  refine (V.copyInts _ _ _ l1 _ (HA1.out.below HB10.out) hn1).mono ?_
  rintro e w_11 ⟨rfl, ho, hb⟩
  have z11 : w_10.heap.size ≤ w_11.heap.size := hb.size
  have HB11 := Lib.hid (HB10.out.trans (hb.mono (by omega)))
  have Sx0_11 := Lib.hid (Sx0_10.out.below hb (by omega))
  have Sx1_11 := Lib.hid (Sx1_10.out.below hb (by omega))
  have Sx2_11 := Lib.hid (Sx2_10.out.below hb (by omega))
  clear hb HB10 Sx0_10 Sx1_10 Sx2_10
  have HOd1 := Lib.hid ho
  clear ho
  have Sd1_11 := Lib.hid (V.Same.refl w_10.heap.size w_11.heap.size w_11)
  go_wp2_with fail
  refine (V.eqV _ _ _ _ _ _ _ _ ((HOx1.out.keep Sx1_11.out).ints') ((HOd1.out.keep Sd1_11.out).ints')).mono ?_
  rintro e w_12 ⟨rfl, hb⟩
  have z12 : w_11.heap.size ≤ w_12.heap.size := hb.size
  have HB12 := Lib.hid (HB11.out.trans (hb.mono (by omega)))
  have Sx0_12 := Lib.hid (Sx0_11.out.below hb (by omega))
  have Sx1_12 := Lib.hid (Sx1_11.out.below hb (by omega))
  have Sx2_12 := Lib.hid (Sx2_11.out.below hb (by omega))
  have Sd1_12 := Lib.hid (Sd1_11.out.below hb (by omega))
  clear hb HB11 Sx0_11 Sx1_11 Sx2_11 Sd1_11
  clear HOd1 Sd1_12
  go_wp2_with fail
  refine (V.copyInts _ _ _ l2 _ (HA2.out.below HB12.out) hn2).mono ?_
  rintro e w_13 ⟨rfl, ho, hb⟩
  have z13 : w_12.heap.size ≤ w_13.heap.size := hb.size
  have HB13 := Lib.hid (HB12.out.trans (hb.mono (by omega)))
  have Sx0_13 := Lib.hid (Sx0_12.out.below hb (by omega))
  have Sx1_13 := Lib.hid (Sx1_12.out.below hb (by omega))
  have Sx2_13 := Lib.hid (Sx2_12.out.below hb (by omega))
  clear hb HB12 Sx0_12 Sx1_12 Sx2_12
  have HOd2 := Lib.hid ho
  clear ho
  have Sd2_13 := Lib.hid (V.Same.refl w_12.heap.size w_13.heap.size w_13)
  go_wp2_with fail
  refine (V.eqV _ _ _ _ _ _ _ _ ((HOx2.out.keep Sx2_13.out).ints') ((HOd2.out.keep Sd2_13.out).ints')).mono ?_
  rintro e w_14 ⟨rfl, hb⟩
  have z14 : w_13.heap.size ≤ w_14.heap.size := hb.size
  have HB14 := Lib.hid (HB13.out.trans (hb.mono (by omega)))
  have Sx0_14 := Lib.hid (Sx0_13.out.below hb (by omega))
  have Sx1_14 := Lib.hid (Sx1_13.out.below hb (by omega))
  have Sx2_14 := Lib.hid (Sx2_13.out.below hb (by omega))
  have Sd2_14 := Lib.hid (Sd2_13.out.below hb (by omega))
  clear hb HB13 Sx0_13 Sx1_13 Sx2_13 Sd2_13
  clear HOd2 Sd2_14
  go_wp2
  go_ret
  exact ⟨rfl, HB14.out⟩
end Go.Proofs.Ytcofjjipjcekjaa.fnExactIsDual
