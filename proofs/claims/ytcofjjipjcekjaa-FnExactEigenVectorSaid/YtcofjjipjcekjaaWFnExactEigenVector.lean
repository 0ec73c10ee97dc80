/- The walk through the law: it returns true and writes nothing that was there. The function EigenVector answers as its model, for every list of lists of integers, leaves it as it was, and its answer owns its memory. -/
import Derived.Test.YtcofjjipjcekjaaRows
import Derived.Test.YtcofjjipjcekjaaQa1
import Derived.Test.YtcofjjipjcekjaaQa2
import Derived.Test.YtcofjjipjcekjaaQa10
import Derived.Test.YtcofjjipjcekjaaQa12
import Derived.Test.YtcofjjipjcekjaaQa16
import Derived.Test.YtcofjjipjcekjaaQa15
import Derived.Test.YtcofjjipjcekjaaQa17
import Derived.WalkKit
import Derived.ProofKit
import Derived.OpenShut
import Derived.ShutString
import Derived.ChangeOld
import Derived.Below
import Derived.Lib.SmallJoins
import Derived.Lib.Hide
import Derived.WalkSmall
import Derived.Deep.Draws
import Derived.Deep.QuietTactic
import Derived.BigQuiet
import Derived.Deep.OwnRows
import Derived.Deep.RegionWith
import Derived.Deep.RegionHeld3
set_option linter.unusedSimpArgs false
set_option linter.unusedVariables false
set_option linter.unusedSectionVars false
namespace Go.Proofs.Ytcofjjipjcekjaa.fnExactEigenVector
open Go.ChangeShapes Go.WideShapes Go.ChangeAt Go.RowKit
open Go.ChangeMaps (open_string shut_string)
set_option linter.unusedVariables false

set_option maxRecDepth 100000 in
set_option maxHeartbeats 4000000 in
theorem walk (a0 : Option Addr) (len0 cap0 : Nat) (R0 : List (List Int)) (w : World) (w0 : V.Mat w a0 len0 R0) :
    Calls Try.prog 11 #[.slice a0 len0 cap0] w fun e w' => e = .returned (.bool true) ∧ Below w.heap.size w w' := by
  have HA0 := Lib.hid w0
  clear w0
  have HB0 := Lib.hid (Below.refl w.heap.size w)
  go_enter Try.func11, Try.ntmps11
  go_wp2_with fail
  refine (V.szIntss _ _ _ R0 1048576 w HA0.out (by omega) (by omega)).mono ?_
  rintro e w' ⟨y0, rfl, hy0, rfl⟩
  rcases hy0 with hy0 | ⟨hy0, hx0, hn0_, hp0_⟩
  · go_wp2
    go_ret
    exact ⟨rfl, HB0.out⟩
  have hn0 : len0 ≤ 1048576 := by omega
  have hp0 : M.pre R0 R0.length ≤ 1048576 := by omega
  clear hn0_ hp0_
  go_wp2_with fail
  refine (V.copyIntss _ _ _ R0 _ (HA0.out.below HB0.out) hn0 hp0).mono ?_
  rintro e w_1 ⟨rfl, ho, hb⟩
  have z1 : w.heap.size ≤ w_1.heap.size := hb.size
  have HB1 := Lib.hid (HB0.out.trans (hb.mono (by omega)))
  clear hb HB0
  have HOc0 := Lib.hid ho
  clear ho
  have Sc0_1 := Lib.hid (V.Same.refl w.heap.size w_1.heap.size w_1)
  obtain ⟨r, hr⟩ : ∃ r, r = (M.eigRes R0) := ⟨_, rfl⟩
  have hok := M.eigRes_len R0
  rw [← hr] at hok
  have HR := Lib.hid hr
  clear hr
  go_wp2_with fail
  refine (V.sEigenVector _ _ _ R0 _ ((HOc0.out.keep Sc0_1.out).mat)).mono ?_
  rintro e w_2 ⟨sa, sn, sc, rfl, ho, hb⟩
  have z2 : w_1.heap.size ≤ w_2.heap.size := hb.size
  have HB2 := Lib.hid (HB1.out.trans (hb.mono (by omega)))
  have Sc0_2 := Lib.hid (Sc0_1.out.below hb (by omega))
  clear hb HB1 Sc0_1
  rw [← HR.out] at ho ⊢
  have HOs := Lib.hid ho
  clear ho
  have Ss_2 := Lib.hid (V.Same.refl w_1.heap.size w_2.heap.size w_2)
  clear HOc0 Sc0_2
  obtain ⟨w_3, hbxbs⟩ : ∃ x, x = w_2.alloc (V.rbox r.2.1.1 r.2.1.2) := ⟨_, rfl⟩
  have HXbs : Hid (V.Boxed w_2 w_3 r.2.1.1 r.2.1.2) := by show V.Boxed _ _ _ _; rw [hbxbs]; exact V.boxed _ _ _
  have hb := HXbs.out.below
  have z3 : w_2.heap.size ≤ w_3.heap.size := hb.size
  have HB3 := Lib.hid (HB2.out.trans (hb.mono (by omega)))
  have Ss_3 := Lib.hid (Ss_2.out.below hb (by omega))
  clear hb HB2 Ss_2
  have Sbs_3 := Lib.hid (V.Same.refl w_2.heap.size w_3.heap.size w_3)
  go_wp2_with fail
  simp only [← hbxbs]
  clear hbxbs
  refine (V.copyIntss _ _ _ R0 _ (HA0.out.below HB3.out) hn0 hp0).mono ?_
  rintro e w_4 ⟨rfl, ho, hb⟩
  have z4 : w_3.heap.size ≤ w_4.heap.size := hb.size
  have HB4 := Lib.hid (HB3.out.trans (hb.mono (by omega)))
  have Ss_4 := Lib.hid (Ss_3.out.below hb (by omega))
  have Sbs_4 := Lib.hid (Sbs_3.out.below hb (by omega))
  clear hb HB3 Ss_3 Sbs_3
  have HOx0 := Lib.hid ho
  clear ho
  have Sx0_4 := Lib.hid (V.Same.refl w_3.heap.size w_4.heap.size w_4)
  go_wp2_with fail
  refine (V.eigenVector _ _ _ R0 _ ((HOx0.out.keep Sx0_4.out).mat)).mono ?_
  rintro e w_5 ⟨ga, gn, gc, rfl, ho, hb⟩
  have z5 : w_4.heap.size ≤ w_5.heap.size := hb.size
  have HB5 := Lib.hid (HB4.out.trans (hb.mono (by omega)))
  have Ss_5 := Lib.hid (Ss_4.out.below hb (by omega))
  have Sbs_5 := Lib.hid (Sbs_4.out.below hb (by omega))
  have Sx0_5 := Lib.hid (Sx0_4.out.below hb (by omega))
  clear hb HB4 Ss_4 Sbs_4 Sx0_4
  rw [← HR.out] at ho ⊢
  have HOg := Lib.hid ho
  clear ho
  have Sg_5 := Lib.hid (V.Same.refl w_4.heap.size w_5.heap.size w_5)
  have hgn : gn ≤ 20 := by have := HOg.out.len; omega
  obtain ⟨w_6, hbxbg⟩ : ∃ x, x = w_5.alloc (V.rbox r.2.1.1 r.2.1.2) := ⟨_, rfl⟩
  have HXbg : Hid (V.Boxed w_5 w_6 r.2.1.1 r.2.1.2) := by show V.Boxed _ _ _ _; rw [hbxbg]; exact V.boxed _ _ _
  have hb := HXbg.out.below
  have z6 : w_5.heap.size ≤ w_6.heap.size := hb.size
  have HB6 := Lib.hid (HB5.out.trans (hb.mono (by omega)))
  have Ss_6 := Lib.hid (Ss_5.out.below hb (by omega))
  have Sbs_6 := Lib.hid (Sbs_5.out.below hb (by omega))
  have Sx0_6 := Lib.hid (Sx0_5.out.below hb (by omega))
  have Sg_6 := Lib.hid (Sg_5.out.below hb (by omega))
  clear hb HB5 Ss_5 Sbs_5 Sx0_5 Sg_5
  have Sbg_6 := Lib.hid (V.Same.refl w_5.heap.size w_6.heap.size w_6)
  go_wp2_with fail
  simp only [← hbxbg]
  clear hbxbg
  refine (V.eqV _ _ _ _ _ _ _ _ ((HOg.out.keep Sg_6.out).ints') ((HOs.out.keep Ss_6.out).ints')).mono ?_
  rintro e w_7 ⟨rfl, hb⟩
  have z7 : w_6.heap.size ≤ w_7.heap.size := hb.size
  have HB7 := Lib.hid (HB6.out.trans (hb.mono (by omega)))
  have Ss_7 := Lib.hid (Ss_6.out.below hb (by omega))
  have Sbs_7 := Lib.hid (Sbs_6.out.below hb (by omega))
  have Sx0_7 := Lib.hid (Sx0_6.out.below hb (by omega))
  have Sg_7 := Lib.hid (Sg_6.out.below hb (by omega))
  have Sbg_7 := Lib.hid (Sbg_6.out.below hb (by omega))
  clear hb HB6 Ss_6 Sbs_6 Sx0_6 Sg_6 Sbg_6
  have pbs0 := (World.cell?_of_block (a := ⟨w_2.heap.size, 0, none⟩) (Sbs_7.out w_2.heap.size (Nat.le_refl _) (by have := HXbs.out.size; omega))).trans HXbs.out.c0
  have pbs1 := (World.cell?_of_block (a := ⟨w_2.heap.size, 1, none⟩) (Sbs_7.out w_2.heap.size (Nat.le_refl _) (by have := HXbs.out.size; omega))).trans HXbs.out.c1
  have hltbs : w_2.heap.size < w_7.heap.size := by have := HXbs.out.size; omega
  have pbg0 := (World.cell?_of_block (a := ⟨w_5.heap.size, 0, none⟩) (Sbg_7.out w_5.heap.size (Nat.le_refl _) (by have := HXbg.out.size; omega))).trans HXbg.out.c0
  have pbg1 := (World.cell?_of_block (a := ⟨w_5.heap.size, 1, none⟩) (Sbg_7.out w_5.heap.size (Nat.le_refl _) (by have := HXbg.out.size; omega))).trans HXbg.out.c1
  have hltbg : w_5.heap.size < w_7.heap.size := by have := HXbg.out.size; omega
  go_wp2_with fail
  refine (V.eqRatio _ _ _).mono ?_
  rintro e w_8 ⟨rfl, hb⟩
  have z8 : w_7.heap.size ≤ w_8.heap.size := hb.size
  have HB8 := Lib.hid (HB7.out.trans (hb.mono (by omega)))
  have Ss_8 := Lib.hid (Ss_7.out.below hb (by omega))
  have Sbs_8 := Lib.hid (Sbs_7.out.below hb (by omega))
  have Sx0_8 := Lib.hid (Sx0_7.out.below hb (by omega))
  have Sg_8 := Lib.hid (Sg_7.out.below hb (by omega))
  have Sbg_8 := Lib.hid (Sbg_7.out.below hb (by omega))
  clear hb HB7 Ss_7 Sbs_7 Sx0_7 Sg_7 Sbg_7
  clear pbs0 pbs1 hltbs pbg0 pbg1 hltbg
  go_wp2_with fail
  refine (V.copyIntss _ _ _ R0 _ (HA0.out.below HB8.out) hn0 hp0).mono ?_
  rintro e w_9 ⟨rfl, ho, hb⟩
  have z9 : w_8.heap.size ≤ w_9.heap.size := hb.size
  have HB9 := Lib.hid (HB8.out.trans (hb.mono (by omega)))
  have Ss_9 := Lib.hid (Ss_8.out.below hb (by omega))
  have Sbs_9 := Lib.hid (Sbs_8.out.below hb (by omega))
  have Sx0_9 := Lib.hid (Sx0_8.out.below hb (by omega))
  have Sg_9 := Lib.hid (Sg_8.out.below hb (by omega))
  have Sbg_9 := Lib.hid (Sbg_8.out.below hb (by omega))
  clear hb HB8 Ss_8 Sbs_8 Sx0_8 Sg_8 Sbg_8
  have HOd0 := Lib.hid ho
  clear ho
  have Sd0_9 := Lib.hid (V.Same.refl w_8.heap.size w_9.heap.size w_9)
  go_wp2_with fail
  refine (V.eqM _ _ _ _ _ _ _ _ ((HOx0.out.keep Sx0_9.out).mat) ((HOd0.out.keep Sd0_9.out).mat)).mono ?_
  rintro e w_10 ⟨rfl, hb⟩
  have z10 : w_9.heap.size ≤ w_10.heap.size := hb.size
  have HB10 := Lib.hid (HB9.out.trans (hb.mono (by omega)))
  have Ss_10 := Lib.hid (Ss_9.out.below hb (by omega))
  have Sbs_10 := Lib.hid (Sbs_9.out.below hb (by omega))
  have Sx0_10 := Lib.hid (Sx0_9.out.below hb (by omega))
  have Sg_10 := Lib.hid (Sg_9.out.below hb (by omega))
  have Sbg_10 := Lib.hid (Sbg_9.out.below hb (by omega))
  have Sd0_10 := Lib.hid (Sd0_9.out.below hb (by omega))
  clear hb HB9 Ss_9 Sbs_9 Sx0_9 Sg_9 Sbg_9 Sd0_9
  clear HOd0 Sd0_10
  go_wp2_with fail
  refine (V.markM _ _ _ _ R0 _ w_4 _ HOx0.out Sx0_10.out (by have := HOx0.out.len; omega) hp0 (by omega) (by omega)).mono ?_
  rintro e w_11 ⟨k0, rfl, hk0, hy, ho, hc⟩
  have z11 : w_10.heap.size ≤ w_11.heap.size := Nat.le_of_eq hc.size.symm
  have HB11 := Lib.hid (HB10.out.trans (hc.below (fun k hk => Nat.le_trans (by omega) hk.1)))
  have Ss_11 := Lib.hid (Ss_10.out.chg hc (fun k h1 h2 h3 => by omega))
  have Sbs_11 := Lib.hid (Sbs_10.out.chg hc (fun k h1 h2 h3 => by omega))
  have Sg_11 := Lib.hid (Sg_10.out.chg hc (fun k h1 h2 h3 => by omega))
  have Sbg_11 := Lib.hid (Sbg_10.out.chg hc (fun k h1 h2 h3 => by omega))
  clear HB10 Ss_10 Sbs_10 Sx0_10 HOx0 Sg_10 Sbg_10 ho hc
  have hkb0 : k0 ≤ 2000000 := by have := hy.out; omega
  clear hy
  go_wp2_with fail
  refine (V.eqV _ _ _ _ _ _ _ _ ((HOg.out.keep Sg_11.out).ints') ((HOs.out.keep Ss_11.out).ints')).mono ?_
  rintro e w_12 ⟨rfl, hb⟩
  have z12 : w_11.heap.size ≤ w_12.heap.size := hb.size
  have HB12 := Lib.hid (HB11.out.trans (hb.mono (by omega)))
  have Ss_12 := Lib.hid (Ss_11.out.below hb (by omega))
  have Sbs_12 := Lib.hid (Sbs_11.out.below hb (by omega))
  have Sg_12 := Lib.hid (Sg_11.out.below hb (by omega))
  have Sbg_12 := Lib.hid (Sbg_11.out.below hb (by omega))
  clear hb HB11 Ss_11 Sbs_11 Sg_11 Sbg_11
  have pbs0 := (World.cell?_of_block (a := ⟨w_2.heap.size, 0, none⟩) (Sbs_12.out w_2.heap.size (Nat.le_refl _) (by have := HXbs.out.size; omega))).trans HXbs.out.c0
  have pbs1 := (World.cell?_of_block (a := ⟨w_2.heap.size, 1, none⟩) (Sbs_12.out w_2.heap.size (Nat.le_refl _) (by have := HXbs.out.size; omega))).trans HXbs.out.c1
  have hltbs : w_2.heap.size < w_12.heap.size := by have := HXbs.out.size; omega
  have pbg0 := (World.cell?_of_block (a := ⟨w_5.heap.size, 0, none⟩) (Sbg_12.out w_5.heap.size (Nat.le_refl _) (by have := HXbg.out.size; omega))).trans HXbg.out.c0
  have pbg1 := (World.cell?_of_block (a := ⟨w_5.heap.size, 1, none⟩) (Sbg_12.out w_5.heap.size (Nat.le_refl _) (by have := HXbg.out.size; omega))).trans HXbg.out.c1
  have hltbg : w_5.heap.size < w_12.heap.size := by have := HXbg.out.size; omega
  go_wp2_with fail
  refine (V.eqRatio _ _ _).mono ?_
  rintro e w_13 ⟨rfl, hb⟩
  have z13 : w_12.heap.size ≤ w_13.heap.size := hb.size
  have HB13 := Lib.hid (HB12.out.trans (hb.mono (by omega)))
  have Ss_13 := Lib.hid (Ss_12.out.below hb (by omega))
  have Sbs_13 := Lib.hid (Sbs_12.out.below hb (by omega))
  have Sg_13 := Lib.hid (Sg_12.out.below hb (by omega))
  have Sbg_13 := Lib.hid (Sbg_12.out.below hb (by omega))
  clear hb HB12 Ss_12 Sbs_12 Sg_12 Sbg_12
  clear pbs0 pbs1 hltbs pbg0 pbg1 hltbg
  clear HXbg Sbg_13
  go_wp2_with fail
  refine (V.markV _ _ _ _ r.1 _ w_5 _ HOg.out Sg_13.out (by omega) (by omega) (by omega)).mono ?_
  rintro e w_14 ⟨m, rfl, hm, HM, ho, hc⟩
  have z14 : w_13.heap.size ≤ w_14.heap.size := Nat.le_of_eq hc.size.symm
  have HB14 := Lib.hid (HB13.out.trans (hc.below (fun k hk => Nat.le_trans (by omega) hk.1)))
  have Ss_14 := Lib.hid (Ss_13.out.chg hc (fun k h1 h2 h3 => by omega))
  have Sbs_14 := Lib.hid (Sbs_13.out.chg hc (fun k h1 h2 h3 => by omega))
  have HN := Lib.hid ho
  clear HB13 Ss_13 Sbs_13 Sg_13 HOg ho hc
  have HOg := HN
  clear HN
  have Sg_14 := Lib.hid (V.Same.refl w_4.heap.size w_14.heap.size w_14)
  go_wp2_with fail
  refine (V.heldV _ _ _ _ m _ ((HOg.out.keep Sg_14.out).ints') (by omega) (by omega) (by omega) HM.out).mono ?_
  rintro e w' ⟨rfl, rfl⟩
  go_wp2_with fail
  refine (V.copyIntss _ _ _ R0 _ (HA0.out.below HB14.out) hn0 hp0).mono ?_
  rintro e w_15 ⟨rfl, ho, hb⟩
  have z15 : w_14.heap.size ≤ w_15.heap.size := hb.size
  have HB15 := Lib.hid (HB14.out.trans (hb.mono (by omega)))
  have Ss_15 := Lib.hid (Ss_14.out.below hb (by omega))
  have Sbs_15 := Lib.hid (Sbs_14.out.below hb (by omega))
  have Sg_15 := Lib.hid (Sg_14.out.below hb (by omega))
  clear hb HB14 Ss_14 Sbs_14 Sg_14
  have HOc0 := Lib.hid ho
  clear ho
  have Sc0_15 := Lib.hid (V.Same.refl w_14.heap.size w_15.heap.size w_15)
  go_wp2_with fail
  refine (V.eigenVector _ _ _ R0 _ ((HOc0.out.keep Sc0_15.out).mat)).mono ?_
  rintro e w_16 ⟨ha, hn, hcap, rfl, ho, hb⟩
  have z16 : w_15.heap.size ≤ w_16.heap.size := hb.size
  have HB16 := Lib.hid (HB15.out.trans (hb.mono (by omega)))
  have Ss_16 := Lib.hid (Ss_15.out.below hb (by omega))
  have Sbs_16 := Lib.hid (Sbs_15.out.below hb (by omega))
  have Sg_16 := Lib.hid (Sg_15.out.below hb (by omega))
  have Sc0_16 := Lib.hid (Sc0_15.out.below hb (by omega))
  clear hb HB15 Ss_15 Sbs_15 Sg_15 Sc0_15
  rw [← HR.out] at ho ⊢
  have HOh := Lib.hid ho
  clear ho
  have Sh_16 := Lib.hid (V.Same.refl w_15.heap.size w_16.heap.size w_16)
  clear HOc0 Sc0_16
  obtain ⟨w_17, hbxbh⟩ : ∃ x, x = w_16.alloc (V.rbox r.2.1.1 r.2.1.2) := ⟨_, rfl⟩
  have HXbh : Hid (V.Boxed w_16 w_17 r.2.1.1 r.2.1.2) := by show V.Boxed _ _ _ _; rw [hbxbh]; exact V.boxed _ _ _
  have hb := HXbh.out.below
  have z17 : w_16.heap.size ≤ w_17.heap.size := hb.size
  have HB17 := Lib.hid (HB16.out.trans (hb.mono (by omega)))
  have Ss_17 := Lib.hid (Ss_16.out.below hb (by omega))
  have Sbs_17 := Lib.hid (Sbs_16.out.below hb (by omega))
  have Sg_17 := Lib.hid (Sg_16.out.below hb (by omega))
  have Sh_17 := Lib.hid (Sh_16.out.below hb (by omega))
  clear hb HB16 Ss_16 Sbs_16 Sg_16 Sh_16
  have Sbh_17 := Lib.hid (V.Same.refl w_16.heap.size w_17.heap.size w_17)
  go_wp2_with fail
  simp only [← hbxbh]
  clear hbxbh
  refine (V.eqV _ _ _ _ _ _ _ _ ((HOh.out.keep Sh_17.out).ints') ((HOs.out.keep Ss_17.out).ints')).mono ?_
  rintro e w_18 ⟨rfl, hb⟩
  have z18 : w_17.heap.size ≤ w_18.heap.size := hb.size
  have HB18 := Lib.hid (HB17.out.trans (hb.mono (by omega)))
  have Ss_18 := Lib.hid (Ss_17.out.below hb (by omega))
  have Sbs_18 := Lib.hid (Sbs_17.out.below hb (by omega))
  have Sg_18 := Lib.hid (Sg_17.out.below hb (by omega))
  have Sh_18 := Lib.hid (Sh_17.out.below hb (by omega))
  have Sbh_18 := Lib.hid (Sbh_17.out.below hb (by omega))
  clear hb HB17 Ss_17 Sbs_17 Sg_17 Sh_17 Sbh_17
  have pbs0 := (World.cell?_of_block (a := ⟨w_2.heap.size, 0, none⟩) (Sbs_18.out w_2.heap.size (Nat.le_refl _) (by have := HXbs.out.size; omega))).trans HXbs.out.c0
  have pbs1 := (World.cell?_of_block (a := ⟨w_2.heap.size, 1, none⟩) (Sbs_18.out w_2.heap.size (Nat.le_refl _) (by have := HXbs.out.size; omega))).trans HXbs.out.c1
  have hltbs : w_2.heap.size < w_18.heap.size := by have := HXbs.out.size; omega
  have pbh0 := (World.cell?_of_block (a := ⟨w_16.heap.size, 0, none⟩) (Sbh_18.out w_16.heap.size (Nat.le_refl _) (by have := HXbh.out.size; omega))).trans HXbh.out.c0
  have pbh1 := (World.cell?_of_block (a := ⟨w_16.heap.size, 1, none⟩) (Sbh_18.out w_16.heap.size (Nat.le_refl _) (by have := HXbh.out.size; omega))).trans HXbh.out.c1
  have hltbh : w_16.heap.size < w_18.heap.size := by have := HXbh.out.size; omega
  go_wp2_with fail
  refine (V.eqRatio _ _ _).mono ?_
  rintro e w_19 ⟨rfl, hb⟩
  have z19 : w_18.heap.size ≤ w_19.heap.size := hb.size
  have HB19 := Lib.hid (HB18.out.trans (hb.mono (by omega)))
  have Ss_19 := Lib.hid (Ss_18.out.below hb (by omega))
  have Sbs_19 := Lib.hid (Sbs_18.out.below hb (by omega))
  have Sg_19 := Lib.hid (Sg_18.out.below hb (by omega))
  have Sh_19 := Lib.hid (Sh_18.out.below hb (by omega))
  have Sbh_19 := Lib.hid (Sbh_18.out.below hb (by omega))
  clear hb HB18 Ss_18 Sbs_18 Sg_18 Sh_18 Sbh_18
  clear pbs0 pbs1 hltbs pbh0 pbh1 hltbh
  go_wp2_with fail
  refine (V.heldV _ _ _ _ m _ ((HOg.out.keep Sg_19.out).ints') (by omega) (by omega) (by omega) HM.out).mono ?_
  rintro e w' ⟨rfl, rfl⟩
  go_wp2
  go_ret
  exact ⟨rfl, HB19.out⟩
end Go.Proofs.Ytcofjjipjcekjaa.fnExactEigenVector
