/- The walk through the law: it returns true and writes nothing that was there. The function BestAssignment answers as its model, for every list of lists of integers, leaves it as it was, and its answer owns its memory. -/
import Derived.Test.YtmobcobdpemlnaaRows
import Derived.Test.YtmobcobdpemlnaaQa1
import Derived.Test.YtmobcobdpemlnaaQa2
import Derived.Test.YtmobcobdpemlnaaQa18
import Derived.Test.YtmobcobdpemlnaaQa19
import Derived.WalkKit
import Derived.ProofKit
import Derived.OpenShut
import Derived.ShutString
import Derived.ChangeOld
import Derived.Below
import Derived.Lib.SmallJoins
import Derived.Lib.Hide
import Derived.WalkSmall
import Derived.Deep.Draws
import Derived.Deep.QuietTactic
import Derived.BigQuiet
import Derived.Deep.OwnRows
import Derived.Deep.RegionWith
import Derived.Deep.RegionHeld3
set_option linter.unusedSimpArgs false
set_option linter.unusedVariables false
set_option linter.unusedSectionVars false
namespace Go.Proofs.Ytmobcobdpemlnaa.fnExactBestAssignment
open Go.ChangeShapes Go.WideShapes Go.ChangeAt Go.RowKit
open Go.ChangeMaps (open_string shut_string)
set_option linter.unusedVariables false

set_option maxRecDepth 100000 in
set_option maxHeartbeats 4000000 in
theorem walk (a0 : Option Addr) (len0 cap0 : Nat) (R0 : List (List Int)) (w : World) (w0 : V.Mat w a0 len0 R0) :
    Calls Try.prog 6 #[.slice a0 len0 cap0] w fun e w' => e = .returned (.bool true) ∧ Below w.heap.size w w' := by
  have HA0 := Lib.hid w0
  clear w0
  have HB0 := Lib.hid (Below.refl w.heap.size w)
  go_enter Try.func6, Try.ntmps6
  go_wp2_with fail
  refine (V.szIntss _ _ _ R0 1048576 w HA0.out (by omega) (by omega)).mono ?_
  rintro e w' ⟨y0, rfl, hy0, rfl⟩
  rcases hy0 with hy0 | ⟨hy0, hx0, hn0_, hp0_⟩
  · go_wp2
    go_ret
    exact ⟨rfl, HB0.out⟩
  have hn0 : len0 ≤ 1048576 := by omega
  have hp0 : M.pre R0 R0.length ≤ 1048576 := by omega
  clear hn0_ hp0_
  go_wp2_with fail
  refine (V.copyIntss _ _ _ R0 _ (HA0.out.below HB0.out) hn0 hp0).mono ?_
  rintro e w_1 ⟨rfl, ho, hb⟩
  have z1 : w.heap.size ≤ w_1.heap.size := hb.size
  have HB1 := Lib.hid (HB0.out.trans (hb.mono (by omega)))
  clear hb HB0
  have HOc0 := Lib.hid ho
  clear ho
  have Sc0_1 := Lib.hid (V.Same.refl w.heap.size w_1.heap.size w_1)
  obtain ⟨r, hr⟩ : ∃ r, r = (M.asgRes R0) := ⟨_, rfl⟩
  have hok := M.asgRes_len R0
  rw [← hr] at hok
  have HR := Lib.hid hr
  clear hr
  go_wp2_with fail
  refine (V.sBestAssignment _ _ _ R0 _ ((HOc0.out.keep Sc0_1.out).mat)).mono ?_
  rintro e w_2 ⟨sa, sn, sc, rfl, ho, hb⟩
  have z2 : w_1.heap.size ≤ w_2.heap.size := hb.size
  have HB2 := Lib.hid (HB1.out.trans (hb.mono (by omega)))
  have Sc0_2 := Lib.hid (Sc0_1.out.below hb (by omega))
  clear hb HB1 Sc0_1
  rw [← HR.out] at ho ⊢
  have HOs := Lib.hid ho
  clear ho
  have Ss_2 := Lib.hid (V.Same.refl w_1.heap.size w_2.heap.size w_2)
  clear HOc0 Sc0_2
  go_wp2_with fail
  refine (V.copyIntss _ _ _ R0 _ (HA0.out.below HB2.out) hn0 hp0).mono ?_
  rintro e w_3 ⟨rfl, ho, hb⟩
  have z3 : w_2.heap.size ≤ w_3.heap.size := hb.size
  have HB3 := Lib.hid (HB2.out.trans (hb.mono (by omega)))
  have Ss_3 := Lib.hid (Ss_2.out.below hb (by omega))
  clear hb HB2 Ss_2
  have HOx0 := Lib.hid ho
  clear ho
  have Sx0_3 := Lib.hid (V.Same.refl w_2.heap.size w_3.heap.size w_3)
  go_wp2_with fail
  refine (V.bestAssignment _ _ _ R0 _ ((HOx0.out.keep Sx0_3.out).mat)).mono ?_
  rintro e w_4 ⟨ga, gn, gc, rfl, ho, hb⟩
  have z4 : w_3.heap.size ≤ w_4.heap.size := hb.size
  have HB4 := Lib.hid (HB3.out.trans (hb.mono (by omega)))
  have Ss_4 := Lib.hid (Ss_3.out.below hb (by omega))
  have Sx0_4 := Lib.hid (Sx0_3.out.below hb (by omega))
  clear hb HB3 Ss_3 Sx0_3
  rw [← HR.out] at ho ⊢
  have HOg := Lib.hid ho
  clear ho
  have Sg_4 := Lib.hid (V.Same.refl w_3.heap.size w_4.heap.size w_4)
  have hgn : gn ≤ 20 := by have := HOg.out.len; omega
  go_wp2_with fail
  refine (V.eqV _ _ _ _ _ _ _ _ ((HOg.out.keep Sg_4.out).ints') ((HOs.out.keep Ss_4.out).ints')).mono ?_
  rintro e w_5 ⟨rfl, hb⟩
  have z5 : w_4.heap.size ≤ w_5.heap.size := hb.size
  have HB5 := Lib.hid (HB4.out.trans (hb.mono (by omega)))
  have Ss_5 := Lib.hid (Ss_4.out.below hb (by omega))
  have Sx0_5 := Lib.hid (Sx0_4.out.below hb (by omega))
  have Sg_5 := Lib.hid (Sg_4.out.below hb (by omega))
  clear hb HB4 Ss_4 Sx0_4 Sg_4
  go_wp2_with fail
  refine (V.copyIntss _ _ _ R0 _ (HA0.out.below HB5.out) hn0 hp0).mono ?_
  rintro e w_6 ⟨rfl, ho, hb⟩
  have z6 : w_5.heap.size ≤ w_6.heap.size := hb.size
  have HB6 := Lib.hid (HB5.out.trans (hb.mono (by omega)))
  have Ss_6 := Lib.hid (Ss_5.out.below hb (by omega))
  have Sx0_6 := Lib.hid (Sx0_5.out.below hb (by omega))
  have Sg_6 := Lib.hid (Sg_5.out.below hb (by omega))
  clear hb HB5 Ss_5 Sx0_5 Sg_5
  have HOd0 := Lib.hid ho
  clear ho
  have Sd0_6 := Lib.hid (V.Same.refl w_5.heap.size w_6.heap.size w_6)
  go_wp2_with fail
  refine (V.eqM _ _ _ _ _ _ _ _ ((HOx0.out.keep Sx0_6.out).mat) ((HOd0.out.keep Sd0_6.out).mat)).mono ?_
  rintro e w_7 ⟨rfl, hb⟩
  have z7 : w_6.heap.size ≤ w_7.heap.size := hb.size
  have HB7 := Lib.hid (HB6.out.trans (hb.mono (by omega)))
  have Ss_7 := Lib.hid (Ss_6.out.below hb (by omega))
  have Sx0_7 := Lib.hid (Sx0_6.out.below hb (by omega))
  have Sg_7 := Lib.hid (Sg_6.out.below hb (by omega))
  have Sd0_7 := Lib.hid (Sd0_6.out.below hb (by omega))
  clear hb HB6 Ss_6 Sx0_6 Sg_6 Sd0_6
  clear HOd0 Sd0_7
  go_wp2_with fail
  refine (V.markM _ _ _ _ R0 _ w_3 _ HOx0.out Sx0_7.out (by have := HOx0.out.len; omega) hp0 (by omega) (by omega)).mono ?_
  rintro e w_8 ⟨k0, rfl, hk0, hy, ho, hc⟩
  have z8 : w_7.heap.size ≤ w_8.heap.size := Nat.le_of_eq hc.size.symm
  have HB8 := Lib.hid (HB7.out.trans (hc.below (fun k hk => Nat.le_trans (by omega) hk.1)))
  have Ss_8 := Lib.hid (Ss_7.out.chg hc (fun k h1 h2 h3 => by omega))
  have Sg_8 := Lib.hid (Sg_7.out.chg hc (fun k h1 h2 h3 => by omega))
  clear HB7 Ss_7 Sx0_7 HOx0 Sg_7 ho hc
  have hkb0 : k0 ≤ 2000000 := by have := hy.out; omega
  clear hy
  go_wp2_with fail
  refine (V.eqV _ _ _ _ _ _ _ _ ((HOg.out.keep Sg_8.out).ints') ((HOs.out.keep Ss_8.out).ints')).mono ?_
  rintro e w_9 ⟨rfl, hb⟩
  have z9 : w_8.heap.size ≤ w_9.heap.size := hb.size
  have HB9 := Lib.hid (HB8.out.trans (hb.mono (by omega)))
  have Ss_9 := Lib.hid (Ss_8.out.below hb (by omega))
  have Sg_9 := Lib.hid (Sg_8.out.below hb (by omega))
  clear hb HB8 Ss_8 Sg_8
  go_wp2_with fail
  refine (V.markV _ _ _ _ r.1 _ w_4 _ HOg.out Sg_9.out (by omega) (by omega) (by omega)).mono ?_
  rintro e w_10 ⟨m, rfl, hm, HM, ho, hc⟩
  have z10 : w_9.heap.size ≤ w_10.heap.size := Nat.le_of_eq hc.size.symm
  have HB10 := Lib.hid (HB9.out.trans (hc.below (fun k hk => Nat.le_trans (by omega) hk.1)))
  have Ss_10 := Lib.hid (Ss_9.out.chg hc (fun k h1 h2 h3 => by omega))
  have HN := Lib.hid ho
  clear HB9 Ss_9 Sg_9 HOg ho hc
  have HOg := HN
  clear HN
  have Sg_10 := Lib.hid (V.Same.refl w_3.heap.size w_10.heap.size w_10)
  go_wp2_with fail
  refine (V.heldV _ _ _ _ m _ ((HOg.out.keep Sg_10.out).ints') (by omega) (by omega) (by omega) HM.out).mono ?_
  rintro e w' ⟨rfl, rfl⟩
  go_wp2_with fail
  refine (V.copyIntss _ _ _ R0 _ (HA0.out.below HB10.out) hn0 hp0).mono ?_
  rintro e w_11 ⟨rfl, ho, hb⟩
  have z11 : w_10.heap.size ≤ w_11.heap.size := hb.size
  have HB11 := Lib.hid (HB10.out.trans (hb.mono (by omega)))
  have Ss_11 := Lib.hid (Ss_10.out.below hb (by omega))
  have Sg_11 := Lib.hid (Sg_10.out.below hb (by omega))
  clear hb HB10 Ss_10 Sg_10
  have HOc0 := Lib.hid ho
  clear ho
  have Sc0_11 := Lib.hid (V.Same.refl w_10.heap.size w_11.heap.size w_11)
  go_wp2_with fail
  refine (V.bestAssignment _ _ _ R0 _ ((HOc0.out.keep Sc0_11.out).mat)).mono ?_
  rintro e w_12 ⟨ha, hn, hcap, rfl, ho, hb⟩
  have z12 : w_11.heap.size ≤ w_12.heap.size := hb.size
  have HB12 := Lib.hid (HB11.out.trans (hb.mono (by omega)))
  have Ss_12 := Lib.hid (Ss_11.out.below hb (by omega))
  have Sg_12 := Lib.hid (Sg_11.out.below hb (by omega))
  have Sc0_12 := Lib.hid (Sc0_11.out.below hb (by omega))
  clear hb HB11 Ss_11 Sg_11 Sc0_11
  rw [← HR.out] at ho ⊢
  have HOh := Lib.hid ho
  clear ho
  have Sh_12 := Lib.hid (V.Same.refl w_11.heap.size w_12.heap.size w_12)
  clear HOc0 Sc0_12
  go_wp2_with fail
  refine (V.eqV _ _ _ _ _ _ _ _ ((HOh.out.keep Sh_12.out).ints') ((HOs.out.keep Ss_12.out).ints')).mono ?_
  rintro e w_13 ⟨rfl, hb⟩
  have z13 : w_12.heap.size ≤ w_13.heap.size := hb.size
  have HB13 := Lib.hid (HB12.out.trans (hb.mono (by omega)))
  have Ss_13 := Lib.hid (Ss_12.out.below hb (by omega))
  have Sg_13 := Lib.hid (Sg_12.out.below hb (by omega))
  have Sh_13 := Lib.hid (Sh_12.out.below hb (by omega))
  clear hb HB12 Ss_12 Sg_12 Sh_12
  go_wp2_with fail
  refine (V.heldV _ _ _ _ m _ ((HOg.out.keep Sg_13.out).ints') (by omega) (by omega) (by omega) HM.out).mono ?_
  rintro e w' ⟨rfl, rfl⟩
  go_wp2
  go_ret
  exact ⟨rfl, HB13.out⟩
end Go.Proofs.Ytmobcobdpemlnaa.fnExactBestAssignment
