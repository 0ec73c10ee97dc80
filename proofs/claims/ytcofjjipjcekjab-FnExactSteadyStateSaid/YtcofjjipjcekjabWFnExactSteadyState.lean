/- The walk through the law: it returns true and writes nothing that was there. The function SteadyState answers as its model, for all arguments, leaves them as they were, and its answer owns its memory. -/
import Derived.Test.YtcofjjipjcekjabRows
import Derived.Test.YtcofjjipjcekjabQb1
import Derived.Test.YtcofjjipjcekjabQb2
import Derived.Test.YtcofjjipjcekjabQb13
import Derived.Test.YtcofjjipjcekjabQb16
import Derived.Test.YtcofjjipjcekjabQb14
import Derived.Test.YtcofjjipjcekjabQb15
import Derived.WalkKit
import Derived.ProofKit
import Derived.OpenShut
import Derived.ShutString
import Derived.ChangeOld
import Derived.Below
import Derived.Lib.SmallJoins
import Derived.Lib.Hide
import Derived.WalkSmall
import Derived.Deep.Draws
import Derived.Deep.QuietTactic
import Derived.BigQuiet
import Derived.Deep.OwnRows
import Derived.Deep.RegionWith
import Derived.Deep.RegionHeld3
set_option linter.unusedSimpArgs false
set_option linter.unusedVariables false
set_option linter.unusedSectionVars false
namespace Go.Proofs.Ytcofjjipjcekjab.fnExactSteadyState
open Go.ChangeShapes Go.WideShapes Go.ChangeAt Go.RowKit
open Go.ChangeMaps (open_string shut_string)
set_option linter.unusedVariables false

set_option maxRecDepth 100000 in
set_option maxHeartbeats 4000000 in
theorem walk (a0 : Option Addr) (len0 cap0 : Nat) (R0 : List (List Int)) (a1 : Option Addr) (len1 cap1 : Nat) (z1 : List Int) (w : World) (w0 : V.Mat w a0 len0 R0) (w1 : V.IsRow .i64 w a1 len1 cap1 z1) :
    Calls Try.prog 12 #[.slice a0 len0 cap0, .slice a1 len1 cap1] w fun e w' => e = .returned (.bool true) ∧ Below w.heap.size w w' := by
  have HA0 := Lib.hid w0
  clear w0
  by_cases hbig1 : 1048576 < len1
  · go_enter Try.func12, Try.ntmps12
    go_wp2
    go_ret
    exact ⟨rfl, by first | exact Below.refl _ _ | exact V.b_alloc _ _⟩
  have hn1 : len1 ≤ 1048576 := by omega
  have hI1 := w1.ints
  generalize z1.take len1 = l1 at hI1
  have HA1 := Lib.hid hI1
  clear hI1 w1 hbig1
  have HB0 := Lib.hid (Below.refl w.heap.size w)
  go_enter Try.func12, Try.ntmps12
  go_wp2_with fail
  refine (V.szIntss _ _ _ R0 1048576 w HA0.out (by omega) (by omega)).mono ?_
  rintro e w' ⟨y0, rfl, hy0, rfl⟩
  rcases hy0 with hy0 | ⟨hy0, hx0, hn0_, hp0_⟩
  · go_wp2
    go_ret
    exact ⟨rfl, HB0.out⟩
  have hn0 : len0 ≤ 1048576 := by omega
  have hp0 : M.pre R0 R0.length ≤ 1048576 := by omega
  clear hn0_ hp0_
  go_wp2_with fail
  refine (V.copyIntss _ _ _ R0 _ (HA0.out.below HB0.out) hn0 hp0).mono ?_
  rintro e w_1 ⟨rfl, ho, hb⟩
  have z1 : w.heap.size ≤ w_1.heap.size := hb.size
  have HB1 := Lib.hid (HB0.out.trans (hb.mono (by omega)))
  clear hb HB0
  have HOc0 := Lib.hid ho
  clear ho
  have Sc0_1 := Lib.hid (V.Same.refl w.heap.size w_1.heap.size w_1)
  go_wp2_with fail
  refine (V.copyInts _ _ _ l1 _ (HA1.out.below HB1.out) hn1).mono ?_
  rintro e w_2 ⟨rfl, ho, hb⟩
  have z2 : w_1.heap.size ≤ w_2.heap.size := hb.size
  have HB2 := Lib.hid (HB1.out.trans (hb.mono (by omega)))
  have Sc0_2 := Lib.hid (Sc0_1.out.below hb (by omega))
  clear hb HB1 Sc0_1
  have HOc1 := Lib.hid ho
  clear ho
  have Sc1_2 := Lib.hid (V.Same.refl w_1.heap.size w_2.heap.size w_2)
  obtain ⟨r, hr⟩ : ∃ r, r = (M.stRes R0 l1) := ⟨_, rfl⟩
  have hok := M.stRes_len R0 l1
  rw [← hr] at hok
  have HR := Lib.hid hr
  clear hr
  go_wp2_with fail
  refine (V.sSteadyState _ _ _ R0 _ _ _ l1 _ ((HOc0.out.keep Sc0_2.out).mat) ((HOc1.out.keep Sc1_2.out).ints')).mono ?_
  rintro e w_3 ⟨sa, sn, sc, rfl, ho, hb⟩
  have z3 : w_2.heap.size ≤ w_3.heap.size := hb.size
  have HB3 := Lib.hid (HB2.out.trans (hb.mono (by omega)))
  have Sc0_3 := Lib.hid (Sc0_2.out.below hb (by omega))
  have Sc1_3 := Lib.hid (Sc1_2.out.below hb (by omega))
  clear hb HB2 Sc0_2 Sc1_2
  rw [← HR.out] at ho ⊢
  have HOs := Lib.hid ho
  clear ho
  have Ss_3 := Lib.hid (V.Same.refl w_2.heap.size w_3.heap.size w_3)
  clear HOc0 Sc0_3
  clear HOc1 Sc1_3
  go_wp2_with fail
  refine (V.copyIntss _ _ _ R0 _ (HA0.out.below HB3.out) hn0 hp0).mono ?_
  rintro e w_4 ⟨rfl, ho, hb⟩
  have z4 : w_3.heap.size ≤ w_4.heap.size := hb.size
  have HB4 := Lib.hid (HB3.out.trans (hb.mono (by omega)))
  have Ss_4 := Lib.hid (Ss_3.out.below hb (by omega))
  clear hb HB3 Ss_3
  have HOx0 := Lib.hid ho
  clear ho
  have Sx0_4 := Lib.hid (V.Same.refl w_3.heap.size w_4.heap.size w_4)
  go_wp2_with fail
  refine (V.copyInts _ _ _ l1 _ (HA1.out.below HB4.out) hn1).mono ?_
  rintro e w_5 ⟨rfl, ho, hb⟩
  have z5 : w_4.heap.size ≤ w_5.heap.size := hb.size
  have HB5 := Lib.hid (HB4.out.trans (hb.mono (by omega)))
  have Ss_5 := Lib.hid (Ss_4.out.below hb (by omega))
  have Sx0_5 := Lib.hid (Sx0_4.out.below hb (by omega))
  clear hb HB4 Ss_4 Sx0_4
  have HOx1 := Lib.hid ho
  clear ho
  have Sx1_5 := Lib.hid (V.Same.refl w_4.heap.size w_5.heap.size w_5)
  go_wp2_with fail
  refine (V.steadyState _ _ _ R0 _ _ _ l1 _ ((HOx0.out.keep Sx0_5.out).mat) ((HOx1.out.keep Sx1_5.out).ints')).mono ?_
  rintro e w_6 ⟨ga, gn, gc, rfl, ho, hb⟩
  have z6 : w_5.heap.size ≤ w_6.heap.size := hb.size
  have HB6 := Lib.hid (HB5.out.trans (hb.mono (by omega)))
  have Ss_6 := Lib.hid (Ss_5.out.below hb (by omega))
  have Sx0_6 := Lib.hid (Sx0_5.out.below hb (by omega))
  have Sx1_6 := Lib.hid (Sx1_5.out.below hb (by omega))
  clear hb HB5 Ss_5 Sx0_5 Sx1_5
  rw [← HR.out] at ho ⊢
  have HOg := Lib.hid ho
  clear ho
  have Sg_6 := Lib.hid (V.Same.refl w_5.heap.size w_6.heap.size w_6)
  have hgn : gn ≤ 20 := by have := HOg.out.len; omega
  go_wp2_with fail
  refine (V.eqV _ _ _ _ _ _ _ _ ((HOg.out.keep Sg_6.out).ints') ((HOs.out.keep Ss_6.out).ints')).mono ?_
  rintro e w_7 ⟨rfl, hb⟩
  have z7 : w_6.heap.size ≤ w_7.heap.size := hb.size
  have HB7 := Lib.hid (HB6.out.trans (hb.mono (by omega)))
  have Ss_7 := Lib.hid (Ss_6.out.below hb (by omega))
  have Sx0_7 := Lib.hid (Sx0_6.out.below hb (by omega))
  have Sx1_7 := Lib.hid (Sx1_6.out.below hb (by omega))
  have Sg_7 := Lib.hid (Sg_6.out.below hb (by omega))
  clear hb HB6 Ss_6 Sx0_6 Sx1_6 Sg_6
  go_wp2_with fail
  refine (V.copyIntss _ _ _ R0 _ (HA0.out.below HB7.out) hn0 hp0).mono ?_
  rintro e w_8 ⟨rfl, ho, hb⟩
  have z8 : w_7.heap.size ≤ w_8.heap.size := hb.size
  have HB8 := Lib.hid (HB7.out.trans (hb.mono (by omega)))
  have Ss_8 := Lib.hid (Ss_7.out.below hb (by omega))
  have Sx0_8 := Lib.hid (Sx0_7.out.below hb (by omega))
  have Sx1_8 := Lib.hid (Sx1_7.out.below hb (by omega))
  have Sg_8 := Lib.hid (Sg_7.out.below hb (by omega))
  clear hb HB7 Ss_7 Sx0_7 Sx1_7 Sg_7
  have HOd0 := Lib.hid ho
  clear ho
  have Sd0_8 := Lib.hid (V.Same.refl w_7.heap.size w_8.heap.size w_8)
  go_wp2_with fail
  refine (V.eqM _ _ _ _ _ _ _ _ ((HOx0.out.keep Sx0_8.out).mat) ((HOd0.out.keep Sd0_8.out).mat)).mono ?_
  rintro e w_9 ⟨rfl, hb⟩
  have z9 : w_8.heap.size ≤ w_9.heap.size := hb.size
  have HB9 := Lib.hid (HB8.out.trans (hb.mono (by omega)))
  have Ss_9 := Lib.hid (Ss_8.out.below hb (by omega))
  have Sx0_9 := Lib.hid (Sx0_8.out.below hb (by omega))
  have Sx1_9 := Lib.hid (Sx1_8.out.below hb (by omega))
  have Sg_9 := Lib.hid (Sg_8.out.below hb (by omega))
  have Sd0_9 := Lib.hid (Sd0_8.out.below hb (by omega))
  clear hb HB8 Ss_8 Sx0_8 Sx1_8 Sg_8 Sd0_8
  clear HOd0 Sd0_9
  go_wp2_with fail
  refine (V.copyInts _ _ _ l1 _ (HA1.out.below HB9.out) hn1).mono ?_
  rintro e w_10 ⟨rfl, ho, hb⟩
  have z10 : w_9.heap.size ≤ w_10.heap.size := hb.size
  have HB10 := Lib.hid (HB9.out.trans (hb.mono (by omega)))
  have Ss_10 := Lib.hid (Ss_9.out.below hb (by omega))
  have Sx0_10 := Lib.hid (Sx0_9.out.below hb (by omega))
  have Sx1_10 := Lib.hid (Sx1_9.out.below hb (by omega))
  have Sg_10 := Lib.hid (Sg_9.out.below hb (by omega))
  clear hb HB9 Ss_9 Sx0_9 Sx1_9 Sg_9
  have HOd1 := Lib.hid ho
  clear ho
  have Sd1_10 := Lib.hid (V.Same.refl w_9.heap.size w_10.heap.size w_10)
  go_wp2_with fail
  refine (V.eqV _ _ _ _ _ _ _ _ ((HOx1.out.keep Sx1_10.out).ints') ((HOd1.out.keep Sd1_10.out).ints')).mono ?_
  rintro e w_11 ⟨rfl, hb⟩
  have z11 : w_10.heap.size ≤ w_11.heap.size := hb.size
  have HB11 := Lib.hid (HB10.out.trans (hb.mono (by omega)))
  have Ss_11 := Lib.hid (Ss_10.out.below hb (by omega))
  have Sx0_11 := Lib.hid (Sx0_10.out.below hb (by omega))
  have Sx1_11 := Lib.hid (Sx1_10.out.below hb (by omega))
  have Sg_11 := Lib.hid (Sg_10.out.below hb (by omega))
  have Sd1_11 := Lib.hid (Sd1_10.out.below hb (by omega))
  clear hb HB10 Ss_10 Sx0_10 Sx1_10 Sg_10 Sd1_10
  clear HOd1 Sd1_11
  go_wp2_with fail
  refine (V.markM _ _ _ _ R0 _ w_4 _ HOx0.out Sx0_11.out (by have := HOx0.out.len; omega) hp0 (by omega) (by omega)).mono ?_
  rintro e w_12 ⟨k0, rfl, hk0, hy, ho, hc⟩
  have z12 : w_11.heap.size ≤ w_12.heap.size := Nat.le_of_eq hc.size.symm
  have HB12 := Lib.hid (HB11.out.trans (hc.below (fun k hk => Nat.le_trans (by omega) hk.1)))
  have Ss_12 := Lib.hid (Ss_11.out.chg hc (fun k h1 h2 h3 => by omega))
  have Sx1_12 := Lib.hid (Sx1_11.out.chg hc (fun k h1 h2 h3 => by omega))
  have Sg_12 := Lib.hid (Sg_11.out.chg hc (fun k h1 h2 h3 => by omega))
  clear HB11 Ss_11 Sx0_11 HOx0 Sx1_11 Sg_11 ho hc
  have hkb0 : k0 ≤ 2000000 := by have := hy.out; omega
  clear hy
  go_wp2_with fail
  refine (V.markV _ _ _ _ l1 _ w_5 _ HOx1.out Sx1_12.out (by have := HOx1.out.len; omega) (by omega) (by omega)).mono ?_
  rintro e w_13 ⟨k1, rfl, hk1, hy, ho, hc⟩
  have z13 : w_12.heap.size ≤ w_13.heap.size := Nat.le_of_eq hc.size.symm
  have HB13 := Lib.hid (HB12.out.trans (hc.below (fun k hk => Nat.le_trans (by omega) hk.1)))
  have Ss_13 := Lib.hid (Ss_12.out.chg hc (fun k h1 h2 h3 => by omega))
  have Sg_13 := Lib.hid (Sg_12.out.chg hc (fun k h1 h2 h3 => by omega))
  clear HB12 Ss_12 Sx1_12 HOx1 Sg_12 ho hc
  have hkb1 : k1 ≤ 4000000 := by have := hy.out; omega
  clear hy
  go_wp2_with fail
  refine (V.eqV _ _ _ _ _ _ _ _ ((HOg.out.keep Sg_13.out).ints') ((HOs.out.keep Ss_13.out).ints')).mono ?_
  rintro e w_14 ⟨rfl, hb⟩
  have z14 : w_13.heap.size ≤ w_14.heap.size := hb.size
  have HB14 := Lib.hid (HB13.out.trans (hb.mono (by omega)))
  have Ss_14 := Lib.hid (Ss_13.out.below hb (by omega))
  have Sg_14 := Lib.hid (Sg_13.out.below hb (by omega))
  clear hb HB13 Ss_13 Sg_13
  go_wp2_with fail
  refine (V.markV _ _ _ _ r.1 _ w_6 _ HOg.out Sg_14.out (by omega) (by omega) (by omega)).mono ?_
  rintro e w_15 ⟨m, rfl, hm, HM, ho, hc⟩
  have z15 : w_14.heap.size ≤ w_15.heap.size := Nat.le_of_eq hc.size.symm
  have HB15 := Lib.hid (HB14.out.trans (hc.below (fun k hk => Nat.le_trans (by omega) hk.1)))
  have Ss_15 := Lib.hid (Ss_14.out.chg hc (fun k h1 h2 h3 => by omega))
  have HN := Lib.hid ho
  clear HB14 Ss_14 Sg_14 HOg ho hc
  have HOg := HN
  clear HN
  have Sg_15 := Lib.hid (V.Same.refl w_5.heap.size w_15.heap.size w_15)
  go_wp2_with fail
  refine (V.heldV _ _ _ _ m _ ((HOg.out.keep Sg_15.out).ints') (by omega) (by omega) (by omega) HM.out).mono ?_
  rintro e w' ⟨rfl, rfl⟩
  go_wp2_with fail
  refine (V.copyIntss _ _ _ R0 _ (HA0.out.below HB15.out) hn0 hp0).mono ?_
  rintro e w_16 ⟨rfl, ho, hb⟩
  have z16 : w_15.heap.size ≤ w_16.heap.size := hb.size
  have HB16 := Lib.hid (HB15.out.trans (hb.mono (by omega)))
  have Ss_16 := Lib.hid (Ss_15.out.below hb (by omega))
  have Sg_16 := Lib.hid (Sg_15.out.below hb (by omega))
  clear hb HB15 Ss_15 Sg_15
  have HOc0 := Lib.hid ho
  clear ho
  have Sc0_16 := Lib.hid (V.Same.refl w_15.heap.size w_16.heap.size w_16)
  go_wp2_with fail
  refine (V.copyInts _ _ _ l1 _ (HA1.out.below HB16.out) hn1).mono ?_
  rintro e w_17 ⟨rfl, ho, hb⟩
  have z17 : w_16.heap.size ≤ w_17.heap.size := hb.size
  have HB17 := Lib.hid (HB16.out.trans (hb.mono (by omega)))
  have Ss_17 := Lib.hid (Ss_16.out.below hb (by omega))
  have Sg_17 := Lib.hid (Sg_16.out.below hb (by omega))
  have Sc0_17 := Lib.hid (Sc0_16.out.below hb (by omega))
  clear hb HB16 Ss_16 Sg_16 Sc0_16
  have HOc1 := Lib.hid ho
  clear ho
  have Sc1_17 := Lib.hid (V.Same.refl w_16.heap.size w_17.heap.size w_17)
  go_wp2_with fail
  refine (V.steadyState _ _ _ R0 _ _ _ l1 _ ((HOc0.out.keep Sc0_17.out).mat) ((HOc1.out.keep Sc1_17.out).ints')).mono ?_
  rintro e w_18 ⟨ha, hn, hcap, rfl, ho, hb⟩
  have z18 : w_17.heap.size ≤ w_18.heap.size := hb.size
  have HB18 := Lib.hid (HB17.out.trans (hb.mono (by omega)))
  have Ss_18 := Lib.hid (Ss_17.out.below hb (by omega))
  have Sg_18 := Lib.hid (Sg_17.out.below hb (by omega))
  have Sc0_18 := Lib.hid (Sc0_17.out.below hb (by omega))
  have Sc1_18 := Lib.hid (Sc1_17.out.below hb (by omega))
  clear hb HB17 Ss_17 Sg_17 Sc0_17 Sc1_17
  rw [← HR.out] at ho ⊢
  have HOh := Lib.hid ho
  clear ho
  have Sh_18 := Lib.hid (V.Same.refl w_17.heap.size w_18.heap.size w_18)
  clear HOc0 Sc0_18
  clear HOc1 Sc1_18
  go_wp2_with fail
  refine (V.eqV _ _ _ _ _ _ _ _ ((HOh.out.keep Sh_18.out).ints') ((HOs.out.keep Ss_18.out).ints')).mono ?_
  rintro e w_19 ⟨rfl, hb⟩
  have z19 : w_18.heap.size ≤ w_19.heap.size := hb.size
  have HB19 := Lib.hid (HB18.out.trans (hb.mono (by omega)))
  have Ss_19 := Lib.hid (Ss_18.out.below hb (by omega))
  have Sg_19 := Lib.hid (Sg_18.out.below hb (by omega))
  have Sh_19 := Lib.hid (Sh_18.out.below hb (by omega))
  clear hb HB18 Ss_18 Sg_18 Sh_18
  go_wp2_with fail
  refine (V.heldV _ _ _ _ m _ ((HOg.out.keep Sg_19.out).ints') (by omega) (by omega) (by omega) HM.out).mono ?_
  rintro e w' ⟨rfl, rfl⟩
  go_wp2
  go_ret
  exact ⟨rfl, HB19.out⟩
end Go.Proofs.Ytcofjjipjcekjab.fnExactSteadyState
