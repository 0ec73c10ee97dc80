/- The walk through the law: it returns true and writes nothing that was there. The function DualOf answers as its model, for every list of lists of integers, leaves it as it was, and its answer owns its memory. -/
import Derived.Test.YtmobcobdpemlnaaRows
import Derived.Test.YtmobcobdpemlnaaQa1
import Derived.Test.YtmobcobdpemlnaaQa2
import Derived.Test.YtmobcobdpemlnaaQa19
import Derived.Test.YtmobcobdpemlnaaQa20
import Derived.WalkKit
import Derived.ProofKit
import Derived.OpenShut
import Derived.ShutString
import Derived.ChangeOld
import Derived.Below
import Derived.Lib.SmallJoins
import Derived.Lib.Hide
import Derived.WalkSmall
import Derived.Deep.Draws
import Derived.Deep.QuietTactic
import Derived.BigQuiet
import Derived.Deep.OwnRows
import Derived.Deep.RegionWith
import Derived.Deep.RegionHeld3
set_option linter.unusedSimpArgs false
set_option linter.unusedVariables false
set_option linter.unusedSectionVars false
namespace Go.Proofs.Ytmobcobdpemlnaa.fnExactDualOf
open Go.ChangeShapes Go.WideShapes Go.ChangeAt Go.RowKit
open Go.ChangeMaps (open_string shut_string)
set_option linter.unusedVariables false

set_option maxRecDepth 100000 in
set_option maxHeartbeats 4000000 in
theorem walk (a0 : Option Addr) (len0 cap0 : Nat) (R0 : List (List Int)) (w : World) (w0 : V.Mat w a0 len0 R0) :
    Calls Try.prog 8 #[.slice a0 len0 cap0] w fun e w' => e = .returned (.bool true) ∧ Below w.heap.size w w' := by
  have HA0 := Lib.hid w0
  clear w0
  have HB0 := Lib.hid (Below.refl w.heap.size w)
  go_enter Try.func8, Try.ntmps8
  go_wp2_with fail
  refine (V.szIntss _ _ _ R0 1048576 w HA0.out (by omega) (by omega)).mono ?_
  rintro e w' ⟨y0, rfl, hy0, rfl⟩
  rcases hy0 with hy0 | ⟨hy0, hx0, hn0_, hp0_⟩
  · go_wp2
    go_ret
    exact ⟨rfl, HB0.out⟩
  have hn0 : len0 ≤ 1048576 := by omega
  have hp0 : M.pre R0 R0.length ≤ 1048576 := by omega
  clear hn0_ hp0_
  go_wp2_with fail
  refine (V.copyIntss _ _ _ R0 _ (HA0.out.below HB0.out) hn0 hp0).mono ?_
  rintro e w_1 ⟨rfl, ho, hb⟩
  have z1 : w.heap.size ≤ w_1.heap.size := hb.size
  have HB1 := Lib.hid (HB0.out.trans (hb.mono (by omega)))
  clear hb HB0
  have HOc0 := Lib.hid ho
  clear ho
  have Sc0_1 := Lib.hid (V.Same.refl w.heap.size w_1.heap.size w_1)
  obtain ⟨r, hr⟩ : ∃ r, r = (M.dualRes R0) := ⟨_, rfl⟩
  obtain ⟨hok1, hok2⟩ := M.dualRes_len R0
  rw [← hr] at hok1 hok2
  have HR := Lib.hid hr
  clear hr
  go_wp2_with fail
  refine (V.sDualOf _ _ _ R0 _ ((HOc0.out.keep Sc0_1.out).mat)).mono ?_
  rintro e w_3 ⟨w_2, s1a, s1n, s1c, s2a, s2n, s2c, rfl, ho1, hbA, ho2, hbB⟩
  rw [← HR.out] at ho1 ho2 ⊢
  have z2 : w_1.heap.size ≤ w_2.heap.size := hbA.size
  have HB2 := Lib.hid (HB1.out.trans (hbA.mono (by omega)))
  have Sc0_2 := Lib.hid (Sc0_1.out.below hbA (by omega))
  clear hbA HB1 Sc0_1
  have ho := ho1
  clear ho1
  have HOs1 := Lib.hid ho
  clear ho
  have Ss1_2 := Lib.hid (V.Same.refl w_1.heap.size w_2.heap.size w_2)
  have z3 : w_2.heap.size ≤ w_3.heap.size := hbB.size
  have HB3 := Lib.hid (HB2.out.trans (hbB.mono (by omega)))
  have Sc0_3 := Lib.hid (Sc0_2.out.below hbB (by omega))
  have Ss1_3 := Lib.hid (Ss1_2.out.below hbB (by omega))
  clear hbB HB2 Sc0_2 Ss1_2
  have ho := ho2
  clear ho2
  have HOs2 := Lib.hid ho
  clear ho
  have Ss2_3 := Lib.hid (V.Same.refl w_2.heap.size w_3.heap.size w_3)
  clear HOc0 Sc0_3
  go_wp2_with fail
  refine (V.copyIntss _ _ _ R0 _ (HA0.out.below HB3.out) hn0 hp0).mono ?_
  rintro e w_4 ⟨rfl, ho, hb⟩
  have z4 : w_3.heap.size ≤ w_4.heap.size := hb.size
  have HB4 := Lib.hid (HB3.out.trans (hb.mono (by omega)))
  have Ss1_4 := Lib.hid (Ss1_3.out.below hb (by omega))
  have Ss2_4 := Lib.hid (Ss2_3.out.below hb (by omega))
  clear hb HB3 Ss1_3 Ss2_3
  have HOx0 := Lib.hid ho
  clear ho
  have Sx0_4 := Lib.hid (V.Same.refl w_3.heap.size w_4.heap.size w_4)
  go_wp2_with fail
  refine (V.dualOf _ _ _ R0 _ ((HOx0.out.keep Sx0_4.out).mat)).mono ?_
  rintro e w_6 ⟨w_5, g1a, g1n, g1c, g2a, g2n, g2c, rfl, ho1, hbA, ho2, hbB⟩
  rw [← HR.out] at ho1 ho2 ⊢
  have z5 : w_4.heap.size ≤ w_5.heap.size := hbA.size
  have HB5 := Lib.hid (HB4.out.trans (hbA.mono (by omega)))
  have Ss1_5 := Lib.hid (Ss1_4.out.below hbA (by omega))
  have Ss2_5 := Lib.hid (Ss2_4.out.below hbA (by omega))
  have Sx0_5 := Lib.hid (Sx0_4.out.below hbA (by omega))
  clear hbA HB4 Ss1_4 Ss2_4 Sx0_4
  have ho := ho1
  clear ho1
  have HOg1 := Lib.hid ho
  clear ho
  have Sg1_5 := Lib.hid (V.Same.refl w_4.heap.size w_5.heap.size w_5)
  have z6 : w_5.heap.size ≤ w_6.heap.size := hbB.size
  have HB6 := Lib.hid (HB5.out.trans (hbB.mono (by omega)))
  have Ss1_6 := Lib.hid (Ss1_5.out.below hbB (by omega))
  have Ss2_6 := Lib.hid (Ss2_5.out.below hbB (by omega))
  have Sx0_6 := Lib.hid (Sx0_5.out.below hbB (by omega))
  have Sg1_6 := Lib.hid (Sg1_5.out.below hbB (by omega))
  clear hbB HB5 Ss1_5 Ss2_5 Sx0_5 Sg1_5
  have ho := ho2
  clear ho2
  have HOg2 := Lib.hid ho
  clear ho
  have Sg2_6 := Lib.hid (V.Same.refl w_5.heap.size w_6.heap.size w_6)
  have HLw : Hid (∀ k, (Value.slice g1a g1n g1c).ownBlock = some k → k < w_5.heap.size) := fun k hk => (V.own_lt HOg1.out hk).2
  have hg1n : g1n ≤ 20 := by have := HOg1.out.len; omega
  have hg2n : g2n ≤ 20 := by have := HOg2.out.len; omega
  go_wp2_with fail
  refine (V.eqV _ _ _ _ _ _ _ _ ((HOg1.out.keep Sg1_6.out).ints') ((HOs1.out.keep Ss1_6.out).ints')).mono ?_
  rintro e w_7 ⟨rfl, hb⟩
  have z7 : w_6.heap.size ≤ w_7.heap.size := hb.size
  have HB7 := Lib.hid (HB6.out.trans (hb.mono (by omega)))
  have Ss1_7 := Lib.hid (Ss1_6.out.below hb (by omega))
  have Ss2_7 := Lib.hid (Ss2_6.out.below hb (by omega))
  have Sx0_7 := Lib.hid (Sx0_6.out.below hb (by omega))
  have Sg1_7 := Lib.hid (Sg1_6.out.below hb (by omega))
  have Sg2_7 := Lib.hid (Sg2_6.out.below hb (by omega))
  clear hb HB6 Ss1_6 Ss2_6 Sx0_6 Sg1_6 Sg2_6
  go_wp2_with fail
  refine (V.eqV _ _ _ _ _ _ _ _ ((HOg2.out.keep Sg2_7.out).ints') ((HOs2.out.keep Ss2_7.out).ints')).mono ?_
  rintro e w_8 ⟨rfl, hb⟩
  have z8 : w_7.heap.size ≤ w_8.heap.size := hb.size
  have HB8 := Lib.hid (HB7.out.trans (hb.mono (by omega)))
  have Ss1_8 := Lib.hid (Ss1_7.out.below hb (by omega))
  have Ss2_8 := Lib.hid (Ss2_7.out.below hb (by omega))
  have Sx0_8 := Lib.hid (Sx0_7.out.below hb (by omega))
  have Sg1_8 := Lib.hid (Sg1_7.out.below hb (by omega))
  have Sg2_8 := Lib.hid (Sg2_7.out.below hb (by omega))
  clear hb HB7 Ss1_7 Ss2_7 Sx0_7 Sg1_7 Sg2_7
  go_wp2_with fail
  refine (V.copyIntss _ _ _ R0 _ (HA0.out.below HB8.out) hn0 hp0).mono ?_
  rintro e w_9 ⟨rfl, ho, hb⟩
  have z9 : w_8.heap.size ≤ w_9.heap.size := hb.size
  have HB9 := Lib.hid (HB8.out.trans (hb.mono (by omega)))
  have Ss1_9 := Lib.hid (Ss1_8.out.below hb (by omega))
  have Ss2_9 := Lib.hid (Ss2_8.out.below hb (by omega))
  have Sx0_9 := Lib.hid (Sx0_8.out.below hb (by omega))
  have Sg1_9 := Lib.hid (Sg1_8.out.below hb (by omega))
  have Sg2_9 := Lib.hid (Sg2_8.out.below hb (by omega))
  clear hb HB8 Ss1_8 Ss2_8 Sx0_8 Sg1_8 Sg2_8
  have HOd0 := Lib.hid ho
  clear ho
  have Sd0_9 := Lib.hid (V.Same.refl w_8.heap.size w_9.heap.size w_9)
  go_wp2_with fail
  refine (V.eqM _ _ _ _ _ _ _ _ ((HOx0.out.keep Sx0_9.out).mat) ((HOd0.out.keep Sd0_9.out).mat)).mono ?_
  rintro e w_10 ⟨rfl, hb⟩
  have z10 : w_9.heap.size ≤ w_10.heap.size := hb.size
  have HB10 := Lib.hid (HB9.out.trans (hb.mono (by omega)))
  have Ss1_10 := Lib.hid (Ss1_9.out.below hb (by omega))
  have Ss2_10 := Lib.hid (Ss2_9.out.below hb (by omega))
  have Sx0_10 := Lib.hid (Sx0_9.out.below hb (by omega))
  have Sg1_10 := Lib.hid (Sg1_9.out.below hb (by omega))
  have Sg2_10 := Lib.hid (Sg2_9.out.below hb (by omega))
  have Sd0_10 := Lib.hid (Sd0_9.out.below hb (by omega))
  clear hb HB9 Ss1_9 Ss2_9 Sx0_9 Sg1_9 Sg2_9 Sd0_9
  clear HOd0 Sd0_10
  go_wp2_with fail
  refine (V.markM _ _ _ _ R0 _ w_4 _ HOx0.out Sx0_10.out (by have := HOx0.out.len; omega) hp0 (by omega) (by omega)).mono ?_
  rintro e w_11 ⟨k0, rfl, hk0, hy, ho, hc⟩
  have z11 : w_10.heap.size ≤ w_11.heap.size := Nat.le_of_eq hc.size.symm
  have HB11 := Lib.hid (HB10.out.trans (hc.below (fun k hk => Nat.le_trans (by omega) hk.1)))
  have Ss1_11 := Lib.hid (Ss1_10.out.chg hc (fun k h1 h2 h3 => by omega))
  have Ss2_11 := Lib.hid (Ss2_10.out.chg hc (fun k h1 h2 h3 => by omega))
  have Sg1_11 := Lib.hid (Sg1_10.out.chg hc (fun k h1 h2 h3 => by omega))
  have Sg2_11 := Lib.hid (Sg2_10.out.chg hc (fun k h1 h2 h3 => by omega))
  clear HB10 Ss1_10 Ss2_10 Sx0_10 HOx0 Sg1_10 Sg2_10 ho hc
  have hkb0 : k0 ≤ 2000000 := by have := hy.out; omega
  clear hy
  go_wp2_with fail
  refine (V.eqV _ _ _ _ _ _ _ _ ((HOg1.out.keep Sg1_11.out).ints') ((HOs1.out.keep Ss1_11.out).ints')).mono ?_
  rintro e w_12 ⟨rfl, hb⟩
  have z12 : w_11.heap.size ≤ w_12.heap.size := hb.size
  have HB12 := Lib.hid (HB11.out.trans (hb.mono (by omega)))
  have Ss1_12 := Lib.hid (Ss1_11.out.below hb (by omega))
  have Ss2_12 := Lib.hid (Ss2_11.out.below hb (by omega))
  have Sg1_12 := Lib.hid (Sg1_11.out.below hb (by omega))
  have Sg2_12 := Lib.hid (Sg2_11.out.below hb (by omega))
  clear hb HB11 Ss1_11 Ss2_11 Sg1_11 Sg2_11
  go_wp2_with fail
  refine (V.eqV _ _ _ _ _ _ _ _ ((HOg2.out.keep Sg2_12.out).ints') ((HOs2.out.keep Ss2_12.out).ints')).mono ?_
  rintro e w_13 ⟨rfl, hb⟩
  have z13 : w_12.heap.size ≤ w_13.heap.size := hb.size
  have HB13 := Lib.hid (HB12.out.trans (hb.mono (by omega)))
  have Ss1_13 := Lib.hid (Ss1_12.out.below hb (by omega))
  have Ss2_13 := Lib.hid (Ss2_12.out.below hb (by omega))
  have Sg1_13 := Lib.hid (Sg1_12.out.below hb (by omega))
  have Sg2_13 := Lib.hid (Sg2_12.out.below hb (by omega))
  clear hb HB12 Ss1_12 Ss2_12 Sg1_12 Sg2_12
  go_wp2_with fail
  refine (V.markV _ _ _ _ r.1 _ w_5 _ HOg1.out Sg1_13.out (by omega) (by omega) (by omega)).mono ?_
  rintro e w_14 ⟨m1, rfl, hm1, HM1, ho, hc⟩
  have z14 : w_13.heap.size ≤ w_14.heap.size := Nat.le_of_eq hc.size.symm
  have HB14 := Lib.hid (HB13.out.trans (hc.below (fun k hk => Nat.le_trans (by omega) hk.1)))
  have Ss1_14 := Lib.hid (Ss1_13.out.chg hc (fun k h1 h2 h3 => by omega))
  have Ss2_14 := Lib.hid (Ss2_13.out.chg hc (fun k h1 h2 h3 => by omega))
  have Sg2_14 := Lib.hid (Sg2_13.out.chg hc (fun k h1 h2 h3 => by omega))
  have HN := Lib.hid ho
  clear HB13 Ss1_13 Ss2_13 Sg1_13 HOg1 Sg2_13 ho hc
  have HOg1 := HN
  clear HN
  have Sg1_14 := Lib.hid (V.Same.refl w_4.heap.size w_14.heap.size w_14)
  have hm1b : m1 ≤ 100 := by have := HM1.out; omega
  go_wp2_with fail
  refine (V.markV _ _ _ _ r.2.1 _ w_6 _ HOg2.out Sg2_14.out (by omega) (by omega) (by omega)).mono ?_
  rintro e w_15 ⟨m2, rfl, hm2, HM2, ho, hc⟩
  have z15 : w_14.heap.size ≤ w_15.heap.size := Nat.le_of_eq hc.size.symm
  have HB15 := Lib.hid (HB14.out.trans (hc.below (fun k hk => Nat.le_trans (by omega) hk.1)))
  have Ss1_15 := Lib.hid (Ss1_14.out.chg hc (fun k h1 h2 h3 => by omega))
  have Ss2_15 := Lib.hid (Ss2_14.out.chg hc (fun k h1 h2 h3 => by omega))
  have HRg1 : Hid (V.Own w_15 w_4.heap.size (.slice g1a g1n g1c) (M.iota 1 g1n)) := V.ownsRow_keep (HOg1.out.keep Sg1_14.out) (fun k hv => hc.other k (fun q => by have := HLw.out k hv; omega))
  have HN := Lib.hid ho
  clear HB14 Ss1_14 Ss2_14 Sg1_14 HOg1 Sg2_14 HOg2 ho hc
  have HOg1 := HRg1
  clear HRg1
  have Sg1_15 := Lib.hid (V.Same.refl w_4.heap.size w_15.heap.size w_15)
  have HOg2 := HN
  clear HN
  have Sg2_15 := Lib.hid (V.Same.refl w_5.heap.size w_15.heap.size w_15)
  have hm2b : m2 ≤ 200 := by have := HM2.out; omega
  go_wp2_with fail
  refine (V.heldV _ _ _ _ m1 _ ((HOg1.out.keep Sg1_15.out).ints') (by omega) (by omega) (by omega) HM1.out).mono ?_
  rintro e w' ⟨rfl, rfl⟩
  go_wp2_with fail
  refine (V.heldV _ _ _ _ m2 _ ((HOg2.out.keep Sg2_15.out).ints') (by omega) (by omega) (by omega) HM2.out).mono ?_
  rintro e w' ⟨rfl, rfl⟩
  go_wp2_with fail
  refine (V.copyIntss _ _ _ R0 _ (HA0.out.below HB15.out) hn0 hp0).mono ?_
  rintro e w_16 ⟨rfl, ho, hb⟩
  have z16 : w_15.heap.size ≤ w_16.heap.size := hb.size
  have HB16 := Lib.hid (HB15.out.trans (hb.mono (by omega)))
  have Ss1_16 := Lib.hid (Ss1_15.out.below hb (by omega))
  have Ss2_16 := Lib.hid (Ss2_15.out.below hb (by omega))
  have Sg1_16 := Lib.hid (Sg1_15.out.below hb (by omega))
  have Sg2_16 := Lib.hid (Sg2_15.out.below hb (by omega))
  clear hb HB15 Ss1_15 Ss2_15 Sg1_15 Sg2_15
  have HOc0 := Lib.hid ho
  clear ho
  have Sc0_16 := Lib.hid (V.Same.refl w_15.heap.size w_16.heap.size w_16)
  go_wp2_with fail
  refine (V.dualOf _ _ _ R0 _ ((HOc0.out.keep Sc0_16.out).mat)).mono ?_
  rintro e w_18 ⟨w_17, h1a, h1n, h1c, h2a, h2n, h2c, rfl, ho1, hbA, ho2, hbB⟩
  rw [← HR.out] at ho1 ho2 ⊢
  have z17 : w_16.heap.size ≤ w_17.heap.size := hbA.size
  have HB17 := Lib.hid (HB16.out.trans (hbA.mono (by omega)))
  have Ss1_17 := Lib.hid (Ss1_16.out.below hbA (by omega))
  have Ss2_17 := Lib.hid (Ss2_16.out.below hbA (by omega))
  have Sg1_17 := Lib.hid (Sg1_16.out.below hbA (by omega))
  have Sg2_17 := Lib.hid (Sg2_16.out.below hbA (by omega))
  have Sc0_17 := Lib.hid (Sc0_16.out.below hbA (by omega))
  clear hbA HB16 Ss1_16 Ss2_16 Sg1_16 Sg2_16 Sc0_16
  have ho := ho1
  clear ho1
  have HOh1 := Lib.hid ho
  clear ho
  have Sh1_17 := Lib.hid (V.Same.refl w_16.heap.size w_17.heap.size w_17)
  have z18 : w_17.heap.size ≤ w_18.heap.size := hbB.size
  have HB18 := Lib.hid (HB17.out.trans (hbB.mono (by omega)))
  have Ss1_18 := Lib.hid (Ss1_17.out.below hbB (by omega))
  have Ss2_18 := Lib.hid (Ss2_17.out.below hbB (by omega))
  have Sg1_18 := Lib.hid (Sg1_17.out.below hbB (by omega))
  have Sg2_18 := Lib.hid (Sg2_17.out.below hbB (by omega))
  have Sc0_18 := Lib.hid (Sc0_17.out.below hbB (by omega))
  have Sh1_18 := Lib.hid (Sh1_17.out.below hbB (by omega))
  clear hbB HB17 Ss1_17 Ss2_17 Sg1_17 Sg2_17 Sc0_17 Sh1_17
  have ho := ho2
  clear ho2
  have HOh2 := Lib.hid ho
  clear ho
  have Sh2_18 := Lib.hid (V.Same.refl w_17.heap.size w_18.heap.size w_18)
  clear HOc0 Sc0_18
  go_wp2_with fail
  refine (V.eqV _ _ _ _ _ _ _ _ ((HOh1.out.keep Sh1_18.out).ints') ((HOs1.out.keep Ss1_18.out).ints')).mono ?_
  rintro e w_19 ⟨rfl, hb⟩
  have z19 : w_18.heap.size ≤ w_19.heap.size := hb.size
  have HB19 := Lib.hid (HB18.out.trans (hb.mono (by omega)))
  have Ss1_19 := Lib.hid (Ss1_18.out.below hb (by omega))
  have Ss2_19 := Lib.hid (Ss2_18.out.below hb (by omega))
  have Sg1_19 := Lib.hid (Sg1_18.out.below hb (by omega))
  have Sg2_19 := Lib.hid (Sg2_18.out.below hb (by omega))
  have Sh1_19 := Lib.hid (Sh1_18.out.below hb (by omega))
  have Sh2_19 := Lib.hid (Sh2_18.out.below hb (by omega))
  clear hb HB18 Ss1_18 Ss2_18 Sg1_18 Sg2_18 Sh1_18 Sh2_18
  go_wp2_with fail
  refine (V.eqV _ _ _ _ _ _ _ _ ((HOh2.out.keep Sh2_19.out).ints') ((HOs2.out.keep Ss2_19.out).ints')).mono ?_
  rintro e w_20 ⟨rfl, hb⟩
  have z20 : w_19.heap.size ≤ w_20.heap.size := hb.size
  have HB20 := Lib.hid (HB19.out.trans (hb.mono (by omega)))
  have Ss1_20 := Lib.hid (Ss1_19.out.below hb (by omega))
  have Ss2_20 := Lib.hid (Ss2_19.out.below hb (by omega))
  have Sg1_20 := Lib.hid (Sg1_19.out.below hb (by omega))
  have Sg2_20 := Lib.hid (Sg2_19.out.below hb (by omega))
  have Sh1_20 := Lib.hid (Sh1_19.out.below hb (by omega))
  have Sh2_20 := Lib.hid (Sh2_19.out.below hb (by omega))
  clear hb HB19 Ss1_19 Ss2_19 Sg1_19 Sg2_19 Sh1_19 Sh2_19
  go_wp2_with fail
  refine (V.heldV _ _ _ _ m1 _ ((HOg1.out.keep Sg1_20.out).ints') (by omega) (by omega) (by omega) HM1.out).mono ?_
  rintro e w' ⟨rfl, rfl⟩
  go_wp2_with fail
  refine (V.heldV _ _ _ _ m2 _ ((HOg2.out.keep Sg2_20.out).ints') (by omega) (by omega) (by omega) HM2.out).mono ?_
  rintro e w' ⟨rfl, rfl⟩
  go_wp2
  go_ret
  exact ⟨rfl, HB20.out⟩
end Go.Proofs.Ytmobcobdpemlnaa.fnExactDualOf
