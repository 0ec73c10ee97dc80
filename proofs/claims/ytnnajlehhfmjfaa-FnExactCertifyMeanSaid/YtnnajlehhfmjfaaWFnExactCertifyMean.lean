/- The walk through the law: it returns true and writes nothing that was there. The function CertifyMean answers as its model, for every list of lists of integers, leaves it as it was, and its answer owns its memory. -/
import Derived.Test.YtnnajlehhfmjfaaRows
import Derived.Test.YtnnajlehhfmjfaaQe1
import Derived.Test.YtnnajlehhfmjfaaQe2
import Derived.Test.YtnnajlehhfmjfaaQe17
import Derived.Test.YtnnajlehhfmjfaaQe22
import Derived.Test.YtnnajlehhfmjfaaQe18
import Derived.Test.YtnnajlehhfmjfaaQe19
import Derived.WalkKit
import Derived.ProofKit
import Derived.OpenShut
import Derived.ShutString
import Derived.ChangeOld
import Derived.Below
import Derived.Lib.SmallJoins
import Derived.Lib.Hide
import Derived.WalkSmall
import Derived.Deep.Draws
import Derived.Deep.QuietTactic
import Derived.BigQuiet
import Derived.Deep.OwnRows
import Derived.Deep.RegionWith
import Derived.Deep.RegionHeld3
set_option linter.unusedSimpArgs false
set_option linter.unusedVariables false
set_option linter.unusedSectionVars false
namespace Go.Proofs.Ytnnajlehhfmjfaa.fnExactCertifyMean
open Go.ChangeShapes Go.WideShapes Go.ChangeAt Go.RowKit
open Go.ChangeMaps (open_string shut_string)
set_option linter.unusedVariables false

set_option maxRecDepth 100000 in
set_option maxHeartbeats 4000000 in
theorem walk (a0 : Option Addr) (len0 cap0 : Nat) (R0 : List (List Int)) (w : World) (w0 : V.Mat w a0 len0 R0) :
    Calls Try.prog 11 #[.slice a0 len0 cap0] w fun e w' => e = .returned (.bool true) ∧ Below w.heap.size w w' := by
  have HA0 := Lib.hid w0
  clear w0
  have HB0 := Lib.hid (Below.refl w.heap.size w)
  go_enter Try.func11, Try.ntmps11
  go_wp2_with fail
  refine (V.szIntss _ _ _ R0 1048576 w HA0.out (by omega) (by omega)).mono ?_
  rintro e w' ⟨y0, rfl, hy0, rfl⟩
  rcases hy0 with hy0 | ⟨hy0, hx0, hn0_, hp0_⟩
  · go_wp2
    go_ret
    exact ⟨rfl, HB0.out⟩
  have hn0 : len0 ≤ 1048576 := by omega
  have hp0 : M.pre R0 R0.length ≤ 1048576 := by omega
  clear hn0_ hp0_
  go_wp2_with fail
  refine (V.copyIntss _ _ _ R0 _ (HA0.out.below HB0.out) hn0 hp0).mono ?_
  rintro e w_1 ⟨rfl, ho, hb⟩
  have z1 : w.heap.size ≤ w_1.heap.size := hb.size
  have HB1 := Lib.hid (HB0.out.trans (hb.mono (by omega)))
  clear hb HB0
  have HOc0 := Lib.hid ho
  clear ho
  have Sc0_1 := Lib.hid (V.Same.refl w.heap.size w_1.heap.size w_1)
  obtain ⟨r, hr⟩ : ∃ r, r = (M.certRes R0) := ⟨_, rfl⟩
  obtain ⟨hok1, hok2⟩ := V.M.certRes_len R0
  rw [← hr] at hok1 hok2
  have HR := Lib.hid hr
  clear hr
  go_wp2_with fail
  refine (V.sCertifyMean _ _ _ R0 _ ((HOc0.out.keep Sc0_1.out).mat)).mono ?_
  rintro e w_3 ⟨w_2, s1a, s1n, s1c, s2a, s2n, s2c, rfl, ho2, hbA, ho1, hbB⟩
  rw [← HR.out] at ho1 ho2 ⊢
  have z2 : w_1.heap.size ≤ w_2.heap.size := hbA.size
  have HB2 := Lib.hid (HB1.out.trans (hbA.mono (by omega)))
  have Sc0_2 := Lib.hid (Sc0_1.out.below hbA (by omega))
  clear hbA HB1 Sc0_1
  have ho := ho2
  clear ho2
  have HOs2 := Lib.hid ho
  clear ho
  have Ss2_2 := Lib.hid (V.Same.refl w_1.heap.size w_2.heap.size w_2)
  have z3 : w_2.heap.size ≤ w_3.heap.size := hbB.size
  have HB3 := Lib.hid (HB2.out.trans (hbB.mono (by omega)))
  have Sc0_3 := Lib.hid (Sc0_2.out.below hbB (by omega))
  have Ss2_3 := Lib.hid (Ss2_2.out.below hbB (by omega))
  clear hbB HB2 Sc0_2 Ss2_2
  have ho := ho1
  clear ho1
  have HOs1 := Lib.hid ho
  clear ho
  have Ss1_3 := Lib.hid (V.Same.refl w_2.heap.size w_3.heap.size w_3)
  clear HOc0 Sc0_3
  obtain ⟨w_4, hbxbs⟩ : ∃ x, x = w_3.alloc (V.rbox r.1.1 r.1.2) := ⟨_, rfl⟩
  have HXbs : Hid (V.Boxed w_3 w_4 r.1.1 r.1.2) := by show V.Boxed _ _ _ _; rw [hbxbs]; exact V.boxed _ _ _
  have hb := HXbs.out.below
  have z4 : w_3.heap.size ≤ w_4.heap.size := hb.size
  have HB4 := Lib.hid (HB3.out.trans (hb.mono (by omega)))
  have Ss2_4 := Lib.hid (Ss2_3.out.below hb (by omega))
  have Ss1_4 := Lib.hid (Ss1_3.out.below hb (by omega))
  clear hb HB3 Ss2_3 Ss1_3
  have Sbs_4 := Lib.hid (V.Same.refl w_3.heap.size w_4.heap.size w_4)
  go_wp2_with fail
  simp only [← hbxbs]
  clear hbxbs
  refine (V.copyIntss _ _ _ R0 _ (HA0.out.below HB4.out) hn0 hp0).mono ?_
  rintro e w_5 ⟨rfl, ho, hb⟩
  have z5 : w_4.heap.size ≤ w_5.heap.size := hb.size
  have HB5 := Lib.hid (HB4.out.trans (hb.mono (by omega)))
  have Ss2_5 := Lib.hid (Ss2_4.out.below hb (by omega))
  have Ss1_5 := Lib.hid (Ss1_4.out.below hb (by omega))
  have Sbs_5 := Lib.hid (Sbs_4.out.below hb (by omega))
  clear hb HB4 Ss2_4 Ss1_4 Sbs_4
  have HOx0 := Lib.hid ho
  clear ho
  have Sx0_5 := Lib.hid (V.Same.refl w_4.heap.size w_5.heap.size w_5)
  go_wp2_with fail
  refine (V.certifyMean _ _ _ R0 _ ((HOx0.out.keep Sx0_5.out).mat)).mono ?_
  rintro e w_7 ⟨w_6, g1a, g1n, g1c, g2a, g2n, g2c, rfl, ho2, hbA, ho1, hbB⟩
  rw [← HR.out] at ho1 ho2 ⊢
  have z6 : w_5.heap.size ≤ w_6.heap.size := hbA.size
  have HB6 := Lib.hid (HB5.out.trans (hbA.mono (by omega)))
  have Ss2_6 := Lib.hid (Ss2_5.out.below hbA (by omega))
  have Ss1_6 := Lib.hid (Ss1_5.out.below hbA (by omega))
  have Sbs_6 := Lib.hid (Sbs_5.out.below hbA (by omega))
  have Sx0_6 := Lib.hid (Sx0_5.out.below hbA (by omega))
  clear hbA HB5 Ss2_5 Ss1_5 Sbs_5 Sx0_5
  have ho := ho2
  clear ho2
  have HOg2 := Lib.hid ho
  clear ho
  have Sg2_6 := Lib.hid (V.Same.refl w_5.heap.size w_6.heap.size w_6)
  have z7 : w_6.heap.size ≤ w_7.heap.size := hbB.size
  have HB7 := Lib.hid (HB6.out.trans (hbB.mono (by omega)))
  have Ss2_7 := Lib.hid (Ss2_6.out.below hbB (by omega))
  have Ss1_7 := Lib.hid (Ss1_6.out.below hbB (by omega))
  have Sbs_7 := Lib.hid (Sbs_6.out.below hbB (by omega))
  have Sx0_7 := Lib.hid (Sx0_6.out.below hbB (by omega))
  have Sg2_7 := Lib.hid (Sg2_6.out.below hbB (by omega))
  clear hbB HB6 Ss2_6 Ss1_6 Sbs_6 Sx0_6 Sg2_6
  have ho := ho1
  clear ho1
  have HOg1 := Lib.hid ho
  clear ho
  have Sg1_7 := Lib.hid (V.Same.refl w_6.heap.size w_7.heap.size w_7)
  have hg1n : g1n ≤ 20 := by have := HOg1.out.len; omega
  have hg2n : g2n ≤ 20 := by have := HOg2.out.len; omega
  have pbs0 := (World.cell?_of_block (a := ⟨w_3.heap.size, 0, none⟩) (Sbs_7.out w_3.heap.size (Nat.le_refl _) (by have := HXbs.out.size; omega))).trans HXbs.out.c0
  have pbs1 := (World.cell?_of_block (a := ⟨w_3.heap.size, 1, none⟩) (Sbs_7.out w_3.heap.size (Nat.le_refl _) (by have := HXbs.out.size; omega))).trans HXbs.out.c1
  have hltbs : w_3.heap.size < w_7.heap.size := by have := HXbs.out.size; omega
  obtain ⟨w_8, hbxbg⟩ : ∃ x, x = w_7.alloc (V.rbox r.1.1 r.1.2) := ⟨_, rfl⟩
  have HXbg : Hid (V.Boxed w_7 w_8 r.1.1 r.1.2) := by show V.Boxed _ _ _ _; rw [hbxbg]; exact V.boxed _ _ _
  have hb := HXbg.out.below
  have z8 : w_7.heap.size ≤ w_8.heap.size := hb.size
  have HB8 := Lib.hid (HB7.out.trans (hb.mono (by omega)))
  have Ss2_8 := Lib.hid (Ss2_7.out.below hb (by omega))
  have Ss1_8 := Lib.hid (Ss1_7.out.below hb (by omega))
  have Sbs_8 := Lib.hid (Sbs_7.out.below hb (by omega))
  have Sx0_8 := Lib.hid (Sx0_7.out.below hb (by omega))
  have Sg2_8 := Lib.hid (Sg2_7.out.below hb (by omega))
  have Sg1_8 := Lib.hid (Sg1_7.out.below hb (by omega))
  clear hb HB7 Ss2_7 Ss1_7 Sbs_7 Sx0_7 Sg2_7 Sg1_7
  have Sbg_8 := Lib.hid (V.Same.refl w_7.heap.size w_8.heap.size w_8)
  go_wp2_with fail
  simp only [← hbxbg]
  clear hbxbg
  refine (V.eqRatio _ _ _).mono ?_
  rintro e w_9 ⟨rfl, hb⟩
  have z9 : w_8.heap.size ≤ w_9.heap.size := hb.size
  have HB9 := Lib.hid (HB8.out.trans (hb.mono (by omega)))
  have Ss2_9 := Lib.hid (Ss2_8.out.below hb (by omega))
  have Ss1_9 := Lib.hid (Ss1_8.out.below hb (by omega))
  have Sbs_9 := Lib.hid (Sbs_8.out.below hb (by omega))
  have Sx0_9 := Lib.hid (Sx0_8.out.below hb (by omega))
  have Sg2_9 := Lib.hid (Sg2_8.out.below hb (by omega))
  have Sg1_9 := Lib.hid (Sg1_8.out.below hb (by omega))
  have Sbg_9 := Lib.hid (Sbg_8.out.below hb (by omega))
  clear hb HB8 Ss2_8 Ss1_8 Sbs_8 Sx0_8 Sg2_8 Sg1_8 Sbg_8
  clear pbs0 pbs1 hltbs
  go_wp2_with fail
  refine (V.eqV _ _ _ _ _ _ _ _ ((HOg1.out.keep Sg1_9.out).ints') ((HOs1.out.keep Ss1_9.out).ints')).mono ?_
  rintro e w_10 ⟨rfl, hb⟩
  have z10 : w_9.heap.size ≤ w_10.heap.size := hb.size
  have HB10 := Lib.hid (HB9.out.trans (hb.mono (by omega)))
  have Ss2_10 := Lib.hid (Ss2_9.out.below hb (by omega))
  have Ss1_10 := Lib.hid (Ss1_9.out.below hb (by omega))
  have Sbs_10 := Lib.hid (Sbs_9.out.below hb (by omega))
  have Sx0_10 := Lib.hid (Sx0_9.out.below hb (by omega))
  have Sg2_10 := Lib.hid (Sg2_9.out.below hb (by omega))
  have Sg1_10 := Lib.hid (Sg1_9.out.below hb (by omega))
  have Sbg_10 := Lib.hid (Sbg_9.out.below hb (by omega))
  clear hb HB9 Ss2_9 Ss1_9 Sbs_9 Sx0_9 Sg2_9 Sg1_9 Sbg_9
  go_wp2_with fail
  refine (V.eqV _ _ _ _ _ _ _ _ ((HOg2.out.keep Sg2_10.out).ints') ((HOs2.out.keep Ss2_10.out).ints')).mono ?_
  rintro e w_11 ⟨rfl, hb⟩
  have z11 : w_10.heap.size ≤ w_11.heap.size := hb.size
  have HB11 := Lib.hid (HB10.out.trans (hb.mono (by omega)))
  have Ss2_11 := Lib.hid (Ss2_10.out.below hb (by omega))
  have Ss1_11 := Lib.hid (Ss1_10.out.below hb (by omega))
  have Sbs_11 := Lib.hid (Sbs_10.out.below hb (by omega))
  have Sx0_11 := Lib.hid (Sx0_10.out.below hb (by omega))
  have Sg2_11 := Lib.hid (Sg2_10.out.below hb (by omega))
  have Sg1_11 := Lib.hid (Sg1_10.out.below hb (by omega))
  have Sbg_11 := Lib.hid (Sbg_10.out.below hb (by omega))
  clear hb HB10 Ss2_10 Ss1_10 Sbs_10 Sx0_10 Sg2_10 Sg1_10 Sbg_10
  go_wp2_with fail
  refine (V.copyIntss _ _ _ R0 _ (HA0.out.below HB11.out) hn0 hp0).mono ?_
  rintro e w_12 ⟨rfl, ho, hb⟩
  have z12 : w_11.heap.size ≤ w_12.heap.size := hb.size
  have HB12 := Lib.hid (HB11.out.trans (hb.mono (by omega)))
  have Ss2_12 := Lib.hid (Ss2_11.out.below hb (by omega))
  have Ss1_12 := Lib.hid (Ss1_11.out.below hb (by omega))
  have Sbs_12 := Lib.hid (Sbs_11.out.below hb (by omega))
  have Sx0_12 := Lib.hid (Sx0_11.out.below hb (by omega))
  have Sg2_12 := Lib.hid (Sg2_11.out.below hb (by omega))
  have Sg1_12 := Lib.hid (Sg1_11.out.below hb (by omega))
  have Sbg_12 := Lib.hid (Sbg_11.out.below hb (by omega))
  clear hb HB11 Ss2_11 Ss1_11 Sbs_11 Sx0_11 Sg2_11 Sg1_11 Sbg_11
  have HOd0 := Lib.hid ho
  clear ho
  have Sd0_12 := Lib.hid (V.Same.refl w_11.heap.size w_12.heap.size w_12)
  go_wp2_with fail
  refine (V.eqM _ _ _ _ _ _ _ _ ((HOx0.out.keep Sx0_12.out).mat) ((HOd0.out.keep Sd0_12.out).mat)).mono ?_
  rintro e w_13 ⟨rfl, hb⟩
  have z13 : w_12.heap.size ≤ w_13.heap.size := hb.size
  have HB13 := Lib.hid (HB12.out.trans (hb.mono (by omega)))
  have Ss2_13 := Lib.hid (Ss2_12.out.below hb (by omega))
  have Ss1_13 := Lib.hid (Ss1_12.out.below hb (by omega))
  have Sbs_13 := Lib.hid (Sbs_12.out.below hb (by omega))
  have Sx0_13 := Lib.hid (Sx0_12.out.below hb (by omega))
  have Sg2_13 := Lib.hid (Sg2_12.out.below hb (by omega))
  have Sg1_13 := Lib.hid (Sg1_12.out.below hb (by omega))
  have Sbg_13 := Lib.hid (Sbg_12.out.below hb (by omega))
  have Sd0_13 := Lib.hid (Sd0_12.out.below hb (by omega))
  clear hb HB12 Ss2_12 Ss1_12 Sbs_12 Sx0_12 Sg2_12 Sg1_12 Sbg_12 Sd0_12
  clear HOd0 Sd0_13
  go_wp2_with fail
  refine (V.markM _ _ _ _ R0 _ w_5 _ HOx0.out Sx0_13.out (by have := HOx0.out.len; omega) hp0 (by omega) (by omega)).mono ?_
  rintro e w_14 ⟨k0, rfl, hk0, hy, ho, hc⟩
  have z14 : w_13.heap.size ≤ w_14.heap.size := Nat.le_of_eq hc.size.symm
  have HB14 := Lib.hid (HB13.out.trans (hc.below (fun k hk => Nat.le_trans (by omega) hk.1)))
  have Ss2_14 := Lib.hid (Ss2_13.out.chg hc (fun k h1 h2 h3 => by omega))
  have Ss1_14 := Lib.hid (Ss1_13.out.chg hc (fun k h1 h2 h3 => by omega))
  have Sbs_14 := Lib.hid (Sbs_13.out.chg hc (fun k h1 h2 h3 => by omega))
  have Sg2_14 := Lib.hid (Sg2_13.out.chg hc (fun k h1 h2 h3 => by omega))
  have Sg1_14 := Lib.hid (Sg1_13.out.chg hc (fun k h1 h2 h3 => by omega))
  have Sbg_14 := Lib.hid (Sbg_13.out.chg hc (fun k h1 h2 h3 => by omega))
  clear HB13 Ss2_13 Ss1_13 Sbs_13 Sx0_13 HOx0 Sg2_13 Sg1_13 Sbg_13 ho hc
  have hkb0 : k0 ≤ 2000000 := by have := hy.out; omega
  clear hy
  have pbs0 := (World.cell?_of_block (a := ⟨w_3.heap.size, 0, none⟩) (Sbs_14.out w_3.heap.size (Nat.le_refl _) (by have := HXbs.out.size; omega))).trans HXbs.out.c0
  have pbs1 := (World.cell?_of_block (a := ⟨w_3.heap.size, 1, none⟩) (Sbs_14.out w_3.heap.size (Nat.le_refl _) (by have := HXbs.out.size; omega))).trans HXbs.out.c1
  have hltbs : w_3.heap.size < w_14.heap.size := by have := HXbs.out.size; omega
  have pbg0 := (World.cell?_of_block (a := ⟨w_7.heap.size, 0, none⟩) (Sbg_14.out w_7.heap.size (Nat.le_refl _) (by have := HXbg.out.size; omega))).trans HXbg.out.c0
  have pbg1 := (World.cell?_of_block (a := ⟨w_7.heap.size, 1, none⟩) (Sbg_14.out w_7.heap.size (Nat.le_refl _) (by have := HXbg.out.size; omega))).trans HXbg.out.c1
  have hltbg : w_7.heap.size < w_14.heap.size := by have := HXbg.out.size; omega
  go_wp2_with fail
  refine (V.eqRatio _ _ _).mono ?_
  rintro e w_15 ⟨rfl, hb⟩
  have z15 : w_14.heap.size ≤ w_15.heap.size := hb.size
  have HB15 := Lib.hid (HB14.out.trans (hb.mono (by omega)))
  have Ss2_15 := Lib.hid (Ss2_14.out.below hb (by omega))
  have Ss1_15 := Lib.hid (Ss1_14.out.below hb (by omega))
  have Sbs_15 := Lib.hid (Sbs_14.out.below hb (by omega))
  have Sg2_15 := Lib.hid (Sg2_14.out.below hb (by omega))
  have Sg1_15 := Lib.hid (Sg1_14.out.below hb (by omega))
  have Sbg_15 := Lib.hid (Sbg_14.out.below hb (by omega))
  clear hb HB14 Ss2_14 Ss1_14 Sbs_14 Sg2_14 Sg1_14 Sbg_14
  clear pbs0 pbs1 hltbs pbg0 pbg1 hltbg
  go_wp2_with fail
  refine (V.eqV _ _ _ _ _ _ _ _ ((HOg1.out.keep Sg1_15.out).ints') ((HOs1.out.keep Ss1_15.out).ints')).mono ?_
  rintro e w_16 ⟨rfl, hb⟩
  have z16 : w_15.heap.size ≤ w_16.heap.size := hb.size
  have HB16 := Lib.hid (HB15.out.trans (hb.mono (by omega)))
  have Ss2_16 := Lib.hid (Ss2_15.out.below hb (by omega))
  have Ss1_16 := Lib.hid (Ss1_15.out.below hb (by omega))
  have Sbs_16 := Lib.hid (Sbs_15.out.below hb (by omega))
  have Sg2_16 := Lib.hid (Sg2_15.out.below hb (by omega))
  have Sg1_16 := Lib.hid (Sg1_15.out.below hb (by omega))
  have Sbg_16 := Lib.hid (Sbg_15.out.below hb (by omega))
  clear hb HB15 Ss2_15 Ss1_15 Sbs_15 Sg2_15 Sg1_15 Sbg_15
  go_wp2_with fail
  refine (V.eqV _ _ _ _ _ _ _ _ ((HOg2.out.keep Sg2_16.out).ints') ((HOs2.out.keep Ss2_16.out).ints')).mono ?_
  rintro e w_17 ⟨rfl, hb⟩
  have z17 : w_16.heap.size ≤ w_17.heap.size := hb.size
  have HB17 := Lib.hid (HB16.out.trans (hb.mono (by omega)))
  have Ss2_17 := Lib.hid (Ss2_16.out.below hb (by omega))
  have Ss1_17 := Lib.hid (Ss1_16.out.below hb (by omega))
  have Sbs_17 := Lib.hid (Sbs_16.out.below hb (by omega))
  have Sg2_17 := Lib.hid (Sg2_16.out.below hb (by omega))
  have Sg1_17 := Lib.hid (Sg1_16.out.below hb (by omega))
  have Sbg_17 := Lib.hid (Sbg_16.out.below hb (by omega))
  clear hb HB16 Ss2_16 Ss1_16 Sbs_16 Sg2_16 Sg1_16 Sbg_16
  clear HXbg Sbg_17
  go_wp2_with fail
  refine (V.markV _ _ _ _ r.2.1 _ w_7 _ HOg1.out Sg1_17.out (by omega) (by omega) (by omega)).mono ?_
  rintro e w_18 ⟨m1, rfl, hm1, HM1, ho, hc⟩
  have z18 : w_17.heap.size ≤ w_18.heap.size := Nat.le_of_eq hc.size.symm
  have HB18 := Lib.hid (HB17.out.trans (hc.below (fun k hk => Nat.le_trans (by omega) hk.1)))
  have Ss2_18 := Lib.hid (Ss2_17.out.chg hc (fun k h1 h2 h3 => by omega))
  have Ss1_18 := Lib.hid (Ss1_17.out.chg hc (fun k h1 h2 h3 => by omega))
  have Sbs_18 := Lib.hid (Sbs_17.out.chg hc (fun k h1 h2 h3 => by omega))
  have Sg2_18 := Lib.hid (Sg2_17.out.chg hc (fun k h1 h2 h3 => by omega))
  have HN := Lib.hid ho
  clear HB17 Ss2_17 Ss1_17 Sbs_17 Sg2_17 Sg1_17 HOg1 ho hc
  have HOg1 := HN
  clear HN
  have Sg1_18 := Lib.hid (V.Same.refl w_6.heap.size w_18.heap.size w_18)
  have hm1b : m1 ≤ 100 := by have := HM1.out; omega
  go_wp2_with fail
  refine (V.markV _ _ _ _ r.2.2.1 _ w_6 _ HOg2.out Sg2_18.out (by omega) (by omega) (by omega)).mono ?_
  rintro e w_19 ⟨m2, rfl, hm2, HM2, ho, hc⟩
  have z19 : w_18.heap.size ≤ w_19.heap.size := Nat.le_of_eq hc.size.symm
  have HB19 := Lib.hid (HB18.out.trans (hc.below (fun k hk => Nat.le_trans (by omega) hk.1)))
  have Ss2_19 := Lib.hid (Ss2_18.out.chg hc (fun k h1 h2 h3 => by omega))
  have Ss1_19 := Lib.hid (Ss1_18.out.chg hc (fun k h1 h2 h3 => by omega))
  have Sbs_19 := Lib.hid (Sbs_18.out.chg hc (fun k h1 h2 h3 => by omega))
  have Sg1_19 := Lib.hid (Sg1_18.out.chg hc (fun k h1 h2 h3 => by omega))
  have HN := Lib.hid ho
  clear HB18 Ss2_18 Ss1_18 Sbs_18 Sg2_18 HOg2 Sg1_18 ho hc
  have HOg2 := HN
  clear HN
  have Sg2_19 := Lib.hid (V.Same.refl w_5.heap.size w_19.heap.size w_19)
  have hm2b : m2 ≤ 200 := by have := HM2.out; omega
  go_wp2_with fail
  refine (V.heldV _ _ _ _ m1 _ ((HOg1.out.keep Sg1_19.out).ints') (by omega) (by omega) (by omega) HM1.out).mono ?_
  rintro e w' ⟨rfl, rfl⟩
  go_wp2_with fail
  refine (V.heldV _ _ _ _ m2 _ ((HOg2.out.keep Sg2_19.out).ints') (by omega) (by omega) (by omega) HM2.out).mono ?_
  rintro e w' ⟨rfl, rfl⟩
  go_wp2_with fail
  refine (V.copyIntss _ _ _ R0 _ (HA0.out.below HB19.out) hn0 hp0).mono ?_
  rintro e w_20 ⟨rfl, ho, hb⟩
  have z20 : w_19.heap.size ≤ w_20.heap.size := hb.size
  have HB20 := Lib.hid (HB19.out.trans (hb.mono (by omega)))
  have Ss2_20 := Lib.hid (Ss2_19.out.below hb (by omega))
  have Ss1_20 := Lib.hid (Ss1_19.out.below hb (by omega))
  have Sbs_20 := Lib.hid (Sbs_19.out.below hb (by omega))
  have Sg2_20 := Lib.hid (Sg2_19.out.below hb (by omega))
  have Sg1_20 := Lib.hid (Sg1_19.out.below hb (by omega))
  clear hb HB19 Ss2_19 Ss1_19 Sbs_19 Sg2_19 Sg1_19
  have HOc0 := Lib.hid ho
  clear ho
  have Sc0_20 := Lib.hid (V.Same.refl w_19.heap.size w_20.heap.size w_20)
  go_wp2_with fail
  refine (V.certifyMean _ _ _ R0 _ ((HOc0.out.keep Sc0_20.out).mat)).mono ?_
  rintro e w_22 ⟨w_21, h1a, h1n, h1c, h2a, h2n, h2c, rfl, ho2, hbA, ho1, hbB⟩
  rw [← HR.out] at ho1 ho2 ⊢
  have z21 : w_20.heap.size ≤ w_21.heap.size := hbA.size
  have HB21 := Lib.hid (HB20.out.trans (hbA.mono (by omega)))
  have Ss2_21 := Lib.hid (Ss2_20.out.below hbA (by omega))
  have Ss1_21 := Lib.hid (Ss1_20.out.below hbA (by omega))
  have Sbs_21 := Lib.hid (Sbs_20.out.below hbA (by omega))
  have Sg2_21 := Lib.hid (Sg2_20.out.below hbA (by omega))
  have Sg1_21 := Lib.hid (Sg1_20.out.below hbA (by omega))
  have Sc0_21 := Lib.hid (Sc0_20.out.below hbA (by omega))
  clear hbA HB20 Ss2_20 Ss1_20 Sbs_20 Sg2_20 Sg1_20 Sc0_20
  have ho := ho2
  clear ho2
  have HOh2 := Lib.hid ho
  clear ho
  have Sh2_21 := Lib.hid (V.Same.refl w_20.heap.size w_21.heap.size w_21)
  have z22 : w_21.heap.size ≤ w_22.heap.size := hbB.size
  have HB22 := Lib.hid (HB21.out.trans (hbB.mono (by omega)))
  have Ss2_22 := Lib.hid (Ss2_21.out.below hbB (by omega))
  have Ss1_22 := Lib.hid (Ss1_21.out.below hbB (by omega))
  have Sbs_22 := Lib.hid (Sbs_21.out.below hbB (by omega))
  have Sg2_22 := Lib.hid (Sg2_21.out.below hbB (by omega))
  have Sg1_22 := Lib.hid (Sg1_21.out.below hbB (by omega))
  have Sc0_22 := Lib.hid (Sc0_21.out.below hbB (by omega))
  have Sh2_22 := Lib.hid (Sh2_21.out.below hbB (by omega))
  clear hbB HB21 Ss2_21 Ss1_21 Sbs_21 Sg2_21 Sg1_21 Sc0_21 Sh2_21
  have ho := ho1
  clear ho1
  have HOh1 := Lib.hid ho
  clear ho
  have Sh1_22 := Lib.hid (V.Same.refl w_21.heap.size w_22.heap.size w_22)
  clear HOc0 Sc0_22
  have pbs0 := (World.cell?_of_block (a := ⟨w_3.heap.size, 0, none⟩) (Sbs_22.out w_3.heap.size (Nat.le_refl _) (by have := HXbs.out.size; omega))).trans HXbs.out.c0
  have pbs1 := (World.cell?_of_block (a := ⟨w_3.heap.size, 1, none⟩) (Sbs_22.out w_3.heap.size (Nat.le_refl _) (by have := HXbs.out.size; omega))).trans HXbs.out.c1
  have hltbs : w_3.heap.size < w_22.heap.size := by have := HXbs.out.size; omega
  obtain ⟨w_23, hbxbh⟩ : ∃ x, x = w_22.alloc (V.rbox r.1.1 r.1.2) := ⟨_, rfl⟩
  have HXbh : Hid (V.Boxed w_22 w_23 r.1.1 r.1.2) := by show V.Boxed _ _ _ _; rw [hbxbh]; exact V.boxed _ _ _
  have hb := HXbh.out.below
  have z23 : w_22.heap.size ≤ w_23.heap.size := hb.size
  have HB23 := Lib.hid (HB22.out.trans (hb.mono (by omega)))
  have Ss2_23 := Lib.hid (Ss2_22.out.below hb (by omega))
  have Ss1_23 := Lib.hid (Ss1_22.out.below hb (by omega))
  have Sbs_23 := Lib.hid (Sbs_22.out.below hb (by omega))
  have Sg2_23 := Lib.hid (Sg2_22.out.below hb (by omega))
  have Sg1_23 := Lib.hid (Sg1_22.out.below hb (by omega))
  have Sh2_23 := Lib.hid (Sh2_22.out.below hb (by omega))
  have Sh1_23 := Lib.hid (Sh1_22.out.below hb (by omega))
  clear hb HB22 Ss2_22 Ss1_22 Sbs_22 Sg2_22 Sg1_22 Sh2_22 Sh1_22
  have Sbh_23 := Lib.hid (V.Same.refl w_22.heap.size w_23.heap.size w_23)
  go_wp2_with fail
  simp only [← hbxbh]
  clear hbxbh
  refine (V.eqRatio _ _ _).mono ?_
  rintro e w_24 ⟨rfl, hb⟩
  have z24 : w_23.heap.size ≤ w_24.heap.size := hb.size
  have HB24 := Lib.hid (HB23.out.trans (hb.mono (by omega)))
  have Ss2_24 := Lib.hid (Ss2_23.out.below hb (by omega))
  have Ss1_24 := Lib.hid (Ss1_23.out.below hb (by omega))
  have Sbs_24 := Lib.hid (Sbs_23.out.below hb (by omega))
  have Sg2_24 := Lib.hid (Sg2_23.out.below hb (by omega))
  have Sg1_24 := Lib.hid (Sg1_23.out.below hb (by omega))
  have Sh2_24 := Lib.hid (Sh2_23.out.below hb (by omega))
  have Sh1_24 := Lib.hid (Sh1_23.out.below hb (by omega))
  have Sbh_24 := Lib.hid (Sbh_23.out.below hb (by omega))
  clear hb HB23 Ss2_23 Ss1_23 Sbs_23 Sg2_23 Sg1_23 Sh2_23 Sh1_23 Sbh_23
  clear pbs0 pbs1 hltbs
  go_wp2_with fail
  refine (V.eqV _ _ _ _ _ _ _ _ ((HOh1.out.keep Sh1_24.out).ints') ((HOs1.out.keep Ss1_24.out).ints')).mono ?_
  rintro e w_25 ⟨rfl, hb⟩
  have z25 : w_24.heap.size ≤ w_25.heap.size := hb.size
  have HB25 := Lib.hid (HB24.out.trans (hb.mono (by omega)))
  have Ss2_25 := Lib.hid (Ss2_24.out.below hb (by omega))
  have Ss1_25 := Lib.hid (Ss1_24.out.below hb (by omega))
  have Sbs_25 := Lib.hid (Sbs_24.out.below hb (by omega))
  have Sg2_25 := Lib.hid (Sg2_24.out.below hb (by omega))
  have Sg1_25 := Lib.hid (Sg1_24.out.below hb (by omega))
  have Sh2_25 := Lib.hid (Sh2_24.out.below hb (by omega))
  have Sh1_25 := Lib.hid (Sh1_24.out.below hb (by omega))
  have Sbh_25 := Lib.hid (Sbh_24.out.below hb (by omega))
  clear hb HB24 Ss2_24 Ss1_24 Sbs_24 Sg2_24 Sg1_24 Sh2_24 Sh1_24 Sbh_24
  go_wp2_with fail
  refine (V.eqV _ _ _ _ _ _ _ _ ((HOh2.out.keep Sh2_25.out).ints') ((HOs2.out.keep Ss2_25.out).ints')).mono ?_
  rintro e w_26 ⟨rfl, hb⟩
  have z26 : w_25.heap.size ≤ w_26.heap.size := hb.size
  have HB26 := Lib.hid (HB25.out.trans (hb.mono (by omega)))
  have Ss2_26 := Lib.hid (Ss2_25.out.below hb (by omega))
  have Ss1_26 := Lib.hid (Ss1_25.out.below hb (by omega))
  have Sbs_26 := Lib.hid (Sbs_25.out.below hb (by omega))
  have Sg2_26 := Lib.hid (Sg2_25.out.below hb (by omega))
  have Sg1_26 := Lib.hid (Sg1_25.out.below hb (by omega))
  have Sh2_26 := Lib.hid (Sh2_25.out.below hb (by omega))
  have Sh1_26 := Lib.hid (Sh1_25.out.below hb (by omega))
  have Sbh_26 := Lib.hid (Sbh_25.out.below hb (by omega))
  clear hb HB25 Ss2_25 Ss1_25 Sbs_25 Sg2_25 Sg1_25 Sh2_25 Sh1_25 Sbh_25
  go_wp2_with fail
  refine (V.heldV _ _ _ _ m1 _ ((HOg1.out.keep Sg1_26.out).ints') (by omega) (by omega) (by omega) HM1.out).mono ?_
  rintro e w' ⟨rfl, rfl⟩
  go_wp2_with fail
  refine (V.heldV _ _ _ _ m2 _ ((HOg2.out.keep Sg2_26.out).ints') (by omega) (by omega) (by omega) HM2.out).mono ?_
  rintro e w' ⟨rfl, rfl⟩
  go_wp2
  go_ret
  exact ⟨rfl, HB26.out⟩
end Go.Proofs.Ytnnajlehhfmjfaa.fnExactCertifyMean
