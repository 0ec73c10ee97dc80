/- The walk through the law: it returns true and writes nothing that was there. The function OrbitRate answers as its model, for all arguments, and leaves them as they were. -/
import Derived.Test.YtcofjjipjcekjabRows
import Derived.Test.YtcofjjipjcekjabQb1
import Derived.Test.YtcofjjipjcekjabQb2
import Derived.Test.YtcofjjipjcekjabQb13
import Derived.Test.YtcofjjipjcekjabQb16
import Derived.Test.YtcofjjipjcekjabQb14
import Derived.Test.YtcofjjipjcekjabQb17
import Derived.WalkKit
import Derived.ProofKit
import Derived.OpenShut
import Derived.ShutString
import Derived.ChangeOld
import Derived.Below
import Derived.Lib.SmallJoins
import Derived.Lib.Hide
import Derived.WalkSmall
import Derived.Deep.Draws
import Derived.Deep.QuietTactic
import Derived.BigQuiet
import Derived.Deep.OwnRows
import Derived.Deep.RegionWith
import Derived.Deep.RegionHeld3
set_option linter.unusedSimpArgs false
set_option linter.unusedVariables false
set_option linter.unusedSectionVars false
namespace Go.Proofs.Ytcofjjipjcekjab.fnExactOrbitRate
open Go.ChangeShapes Go.WideShapes Go.ChangeAt Go.RowKit
open Go.ChangeMaps (open_string shut_string)
set_option linter.unusedVariables false

set_option maxRecDepth 100000 in
set_option maxHeartbeats 4000000 in
theorem walk (a0 : Option Addr) (len0 cap0 : Nat) (R0 : List (List Int)) (a1 : Option Addr) (len1 cap1 : Nat) (z1 : List Int) (w : World) (w0 : V.Mat w a0 len0 R0) (w1 : V.IsRow .i64 w a1 len1 cap1 z1) :
    Calls Try.prog 9 #[.slice a0 len0 cap0, .slice a1 len1 cap1] w fun e w' => e = .returned (.bool true) ∧ Below w.heap.size w w' := by
  have HA0 := Lib.hid w0
  clear w0
  by_cases hbig1 : 1048576 < len1
  · go_enter Try.func9, Try.ntmps9
    go_wp2
    go_ret
    exact ⟨rfl, by first | exact Below.refl _ _ | exact V.b_alloc _ _⟩
  have hn1 : len1 ≤ 1048576 := by omega
  have hI1 := w1.ints
  generalize z1.take len1 = l1 at hI1
  have HA1 := Lib.hid hI1
  clear hI1 w1 hbig1
  have HB0 := Lib.hid (Below.refl w.heap.size w)
  go_enter Try.func9, Try.ntmps9
  go_wp2_with fail
  refine (V.szIntss _ _ _ R0 1048576 w HA0.out (by omega) (by omega)).mono ?_
  rintro e w' ⟨y0, rfl, hy0, rfl⟩
  rcases hy0 with hy0 | ⟨hy0, hx0, hn0_, hp0_⟩
  · go_wp2
    go_ret
    exact ⟨rfl, HB0.out⟩
  have hn0 : len0 ≤ 1048576 := by omega
  have hp0 : M.pre R0 R0.length ≤ 1048576 := by omega
  clear hn0_ hp0_
  go_wp2_with fail
  refine (V.copyIntss _ _ _ R0 _ (HA0.out.below HB0.out) hn0 hp0).mono ?_
  rintro e w_1 ⟨rfl, ho, hb⟩
  have z1 : w.heap.size ≤ w_1.heap.size := hb.size
  have HB1 := Lib.hid (HB0.out.trans (hb.mono (by omega)))
  clear hb HB0
  have HOc0 := Lib.hid ho
  clear ho
  have Sc0_1 := Lib.hid (V.Same.refl w.heap.size w_1.heap.size w_1)
  go_wp2_with fail
  refine (V.copyInts _ _ _ l1 _ (HA1.out.below HB1.out) hn1).mono ?_
  rintro e w_2 ⟨rfl, ho, hb⟩
  have z2 : w_1.heap.size ≤ w_2.heap.size := hb.size
  have HB2 := Lib.hid (HB1.out.trans (hb.mono (by omega)))
  have Sc0_2 := Lib.hid (Sc0_1.out.below hb (by omega))
  clear hb HB1 Sc0_1
  have HOc1 := Lib.hid ho
  clear ho
  have Sc1_2 := Lib.hid (V.Same.refl w_1.heap.size w_2.heap.size w_2)
  obtain ⟨r, hr⟩ : ∃ r, r = (M.rateRes R0 l1) := ⟨_, rfl⟩
  have HR := Lib.hid hr
  clear hr
  go_wp2_with fail
  refine (V.sOrbitRate _ _ _ R0 _ _ _ l1 _ ((HOc0.out.keep Sc0_2.out).mat) ((HOc1.out.keep Sc1_2.out).ints')).mono ?_
  rintro e w_3 ⟨rfl, hb⟩
  have z3 : w_2.heap.size ≤ w_3.heap.size := hb.size
  have HB3 := Lib.hid (HB2.out.trans (hb.mono (by omega)))
  have Sc0_3 := Lib.hid (Sc0_2.out.below hb (by omega))
  have Sc1_3 := Lib.hid (Sc1_2.out.below hb (by omega))
  clear hb HB2 Sc0_2 Sc1_2
  rw [← HR.out]
  clear HOc0 Sc0_3
  clear HOc1 Sc1_3
  obtain ⟨w_4, hbxbs⟩ : ∃ x, x = w_3.alloc (V.rbox r.1.1 r.1.2) := ⟨_, rfl⟩
  have HXbs : Hid (V.Boxed w_3 w_4 r.1.1 r.1.2) := by show V.Boxed _ _ _ _; rw [hbxbs]; exact V.boxed _ _ _
  have hb := HXbs.out.below
  have z4 : w_3.heap.size ≤ w_4.heap.size := hb.size
  have HB4 := Lib.hid (HB3.out.trans (hb.mono (by omega)))
  clear hb HB3
  have Sbs_4 := Lib.hid (V.Same.refl w_3.heap.size w_4.heap.size w_4)
  go_wp2_with fail
  simp only [← hbxbs]
  clear hbxbs
  refine (V.copyIntss _ _ _ R0 _ (HA0.out.below HB4.out) hn0 hp0).mono ?_
  rintro e w_5 ⟨rfl, ho, hb⟩
  have z5 : w_4.heap.size ≤ w_5.heap.size := hb.size
  have HB5 := Lib.hid (HB4.out.trans (hb.mono (by omega)))
  have Sbs_5 := Lib.hid (Sbs_4.out.below hb (by omega))
  clear hb HB4 Sbs_4
  have HOx0 := Lib.hid ho
  clear ho
  have Sx0_5 := Lib.hid (V.Same.refl w_4.heap.size w_5.heap.size w_5)
  go_wp2_with fail
  refine (V.copyInts _ _ _ l1 _ (HA1.out.below HB5.out) hn1).mono ?_
  rintro e w_6 ⟨rfl, ho, hb⟩
  have z6 : w_5.heap.size ≤ w_6.heap.size := hb.size
  have HB6 := Lib.hid (HB5.out.trans (hb.mono (by omega)))
  have Sbs_6 := Lib.hid (Sbs_5.out.below hb (by omega))
  have Sx0_6 := Lib.hid (Sx0_5.out.below hb (by omega))
  clear hb HB5 Sbs_5 Sx0_5
  have HOx1 := Lib.hid ho
  clear ho
  have Sx1_6 := Lib.hid (V.Same.refl w_5.heap.size w_6.heap.size w_6)
  go_wp2_with fail
  refine (V.orbitRate _ _ _ R0 _ _ _ l1 _ ((HOx0.out.keep Sx0_6.out).mat) ((HOx1.out.keep Sx1_6.out).ints')).mono ?_
  rintro e w_7 ⟨rfl, hb⟩
  have z7 : w_6.heap.size ≤ w_7.heap.size := hb.size
  have HB7 := Lib.hid (HB6.out.trans (hb.mono (by omega)))
  have Sbs_7 := Lib.hid (Sbs_6.out.below hb (by omega))
  have Sx0_7 := Lib.hid (Sx0_6.out.below hb (by omega))
  have Sx1_7 := Lib.hid (Sx1_6.out.below hb (by omega))
  clear hb HB6 Sbs_6 Sx0_6 Sx1_6
  rw [← HR.out]
  have pbs0 := (World.cell?_of_block (a := ⟨w_3.heap.size, 0, none⟩) (Sbs_7.out w_3.heap.size (Nat.le_refl _) (by have := HXbs.out.size; omega))).trans HXbs.out.c0
  have pbs1 := (World.cell?_of_block (a := ⟨w_3.heap.size, 1, none⟩) (Sbs_7.out w_3.heap.size (Nat.le_refl _) (by have := HXbs.out.size; omega))).trans HXbs.out.c1
  have hltbs : w_3.heap.size < w_7.heap.size := by have := HXbs.out.size; omega
  obtain ⟨w_8, hbxbg⟩ : ∃ x, x = w_7.alloc (V.rbox r.1.1 r.1.2) := ⟨_, rfl⟩
  have HXbg : Hid (V.Boxed w_7 w_8 r.1.1 r.1.2) := by show V.Boxed _ _ _ _; rw [hbxbg]; exact V.boxed _ _ _
  have hb := HXbg.out.below
  have z8 : w_7.heap.size ≤ w_8.heap.size := hb.size
  have HB8 := Lib.hid (HB7.out.trans (hb.mono (by omega)))
  have Sbs_8 := Lib.hid (Sbs_7.out.below hb (by omega))
  have Sx0_8 := Lib.hid (Sx0_7.out.below hb (by omega))
  have Sx1_8 := Lib.hid (Sx1_7.out.below hb (by omega))
  clear hb HB7 Sbs_7 Sx0_7 Sx1_7
  have Sbg_8 := Lib.hid (V.Same.refl w_7.heap.size w_8.heap.size w_8)
  go_wp2_with fail
  simp only [← hbxbg]
  clear hbxbg
  refine (V.eqRatio _ _ _).mono ?_
  rintro e w_9 ⟨rfl, hb⟩
  have z9 : w_8.heap.size ≤ w_9.heap.size := hb.size
  have HB9 := Lib.hid (HB8.out.trans (hb.mono (by omega)))
  have Sbs_9 := Lib.hid (Sbs_8.out.below hb (by omega))
  have Sx0_9 := Lib.hid (Sx0_8.out.below hb (by omega))
  have Sx1_9 := Lib.hid (Sx1_8.out.below hb (by omega))
  have Sbg_9 := Lib.hid (Sbg_8.out.below hb (by omega))
  clear hb HB8 Sbs_8 Sx0_8 Sx1_8 Sbg_8
  clear pbs0 pbs1 hltbs
  clear HXbs Sbs_9
  clear HXbg Sbg_9
  go_wp2_with fail
  refine (V.copyIntss _ _ _ R0 _ (HA0.out.below HB9.out) hn0 hp0).mono ?_
  rintro e w_10 ⟨rfl, ho, hb⟩
  have z10 : w_9.heap.size ≤ w_10.heap.size := hb.size
  have HB10 := Lib.hid (HB9.out.trans (hb.mono (by omega)))
  have Sx0_10 := Lib.hid (Sx0_9.out.below hb (by omega))
  have Sx1_10 := Lib.hid (Sx1_9.out.below hb (by omega))
  clear hb HB9 Sx0_9 Sx1_9
  have HOd0 := Lib.hid ho
  clear ho
  have Sd0_10 := Lib.hid (V.Same.refl w_9.heap.size w_10.heap.size w_10)
  go_wp2_with fail
  refine (V.eqM _ _ _ _ _ _ _ _ ((HOx0.out.keep Sx0_10.out).mat) ((HOd0.out.keep Sd0_10.out).mat)).mono ?_
  rintro e w_11 ⟨rfl, hb⟩
  have z11 : w_10.heap.size ≤ w_11.heap.size := hb.size
  have HB11 := Lib.hid (HB10.out.trans (hb.mono (by omega)))
  have Sx0_11 := Lib.hid (Sx0_10.out.below hb (by omega))
  have Sx1_11 := Lib.hid (Sx1_10.out.below hb (by omega))
  have Sd0_11 := Lib.hid (Sd0_10.out.below hb (by omega))
  clear hb HB10 Sx0_10 Sx1_10 Sd0_10
  clear HOd0 Sd0_11
  go_wp2_with fail
  refine (V.copyInts _ _ _ l1 _ (HA1.out.below HB11.out) hn1).mono ?_
  rintro e w_12 ⟨rfl, ho, hb⟩
  have z12 : w_11.heap.size ≤ w_12.heap.size := hb.size
  have HB12 := Lib.hid (HB11.out.trans (hb.mono (by omega)))
  have Sx0_12 := Lib.hid (Sx0_11.out.below hb (by omega))
  have Sx1_12 := Lib.hid (Sx1_11.out.below hb (by omega))
  clear hb HB11 Sx0_11 Sx1_11
  have HOd1 := Lib.hid ho
  clear ho
  have Sd1_12 := Lib.hid (V.Same.refl w_11.heap.size w_12.heap.size w_12)
  go_wp2_with fail
  refine (V.eqV _ _ _ _ _ _ _ _ ((HOx1.out.keep Sx1_12.out).ints') ((HOd1.out.keep Sd1_12.out).ints')).mono ?_
  rintro e w_13 ⟨rfl, hb⟩
  have z13 : w_12.heap.size ≤ w_13.heap.size := hb.size
  have HB13 := Lib.hid (HB12.out.trans (hb.mono (by omega)))
  have Sx0_13 := Lib.hid (Sx0_12.out.below hb (by omega))
  have Sx1_13 := Lib.hid (Sx1_12.out.below hb (by omega))
  have Sd1_13 := Lib.hid (Sd1_12.out.below hb (by omega))
  clear hb HB12 Sx0_12 Sx1_12 Sd1_12
  clear HOd1 Sd1_13
  go_wp2
  go_ret
  exact ⟨rfl, HB13.out⟩
end Go.Proofs.Ytcofjjipjcekjab.fnExactOrbitRate
