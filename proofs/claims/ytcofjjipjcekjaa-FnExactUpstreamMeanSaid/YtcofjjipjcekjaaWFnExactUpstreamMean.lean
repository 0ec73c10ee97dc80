/- The walk through the law: it returns true and writes nothing that was there. The function UpstreamMean answers as its model, for all arguments, and leaves the matrix as it was. -/
import Derived.Test.YtcofjjipjcekjaaRows
import Derived.Test.YtcofjjipjcekjaaQa1
import Derived.Test.YtcofjjipjcekjaaQa2
import Derived.Test.YtcofjjipjcekjaaQa10
import Derived.Test.YtcofjjipjcekjaaQa12
import Derived.Test.YtcofjjipjcekjaaQa16
import Derived.Test.YtcofjjipjcekjaaQa17
import Derived.WalkKit
import Derived.ProofKit
import Derived.OpenShut
import Derived.ShutString
import Derived.ChangeOld
import Derived.Below
import Derived.Lib.SmallJoins
import Derived.Lib.Hide
import Derived.WalkSmall
import Derived.Deep.Draws
import Derived.Deep.QuietTactic
import Derived.BigQuiet
import Derived.Deep.OwnRows
import Derived.Deep.RegionWith
import Derived.Deep.RegionHeld3
set_option linter.unusedSimpArgs false
set_option linter.unusedVariables false
set_option linter.unusedSectionVars false
namespace Go.Proofs.Ytcofjjipjcekjaa.fnExactUpstreamMean
open Go.ChangeShapes Go.WideShapes Go.ChangeAt Go.RowKit
open Go.ChangeMaps (open_string shut_string)
set_option linter.unusedVariables false

set_option maxRecDepth 100000 in
set_option maxHeartbeats 4000000 in
theorem walk (a0 : Option Addr) (len0 cap0 : Nat) (R0 : List (List Int)) (a1 : Int) (w : World) (w0 : V.Mat w a0 len0 R0) (w1 : (Lit.int .i64 a1).wf = true) :
    Calls Try.prog 8 #[.slice a0 len0 cap0, .int .i64 a1] w fun e w' => e = .returned (.bool true) ∧ Below w.heap.size w w' := by
  have HA0 := Lib.hid w0
  clear w0
  have HB0 := Lib.hid (Below.refl w.heap.size w)
  go_enter Try.func8, Try.ntmps8
  go_wp2_with fail
  refine (V.szIntss _ _ _ R0 1048576 w HA0.out (by omega) (by omega)).mono ?_
  rintro e w' ⟨y0, rfl, hy0, rfl⟩
  rcases hy0 with hy0 | ⟨hy0, hx0, hn0_, hp0_⟩
  · go_wp2
    go_ret
    exact ⟨rfl, HB0.out⟩
  have hn0 : len0 ≤ 1048576 := by omega
  have hp0 : M.pre R0 R0.length ≤ 1048576 := by omega
  clear hn0_ hp0_
  go_wp2_with fail
  refine (V.copyIntss _ _ _ R0 _ (HA0.out.below HB0.out) hn0 hp0).mono ?_
  rintro e w_1 ⟨rfl, ho, hb⟩
  have z1 : w.heap.size ≤ w_1.heap.size := hb.size
  have HB1 := Lib.hid (HB0.out.trans (hb.mono (by omega)))
  clear hb HB0
  have HOc0 := Lib.hid ho
  clear ho
  have Sc0_1 := Lib.hid (V.Same.refl w.heap.size w_1.heap.size w_1)
  obtain ⟨r, hr⟩ : ∃ r, r = (M.upRes R0 a1) := ⟨_, rfl⟩
  have HR := Lib.hid hr
  clear hr
  go_wp2_with fail
  refine (V.sUpstreamMean _ _ _ R0 _ _ ((HOc0.out.keep Sc0_1.out).mat)).mono ?_
  rintro e w_2 ⟨rfl, hb⟩
  have z2 : w_1.heap.size ≤ w_2.heap.size := hb.size
  have HB2 := Lib.hid (HB1.out.trans (hb.mono (by omega)))
  have Sc0_2 := Lib.hid (Sc0_1.out.below hb (by omega))
  clear hb HB1 Sc0_1
  rw [← HR.out]
  clear HOc0 Sc0_2
  obtain ⟨w_3, hbxbs⟩ : ∃ x, x = w_2.alloc (V.rbox r.1.1 r.1.2) := ⟨_, rfl⟩
  have HXbs : Hid (V.Boxed w_2 w_3 r.1.1 r.1.2) := by show V.Boxed _ _ _ _; rw [hbxbs]; exact V.boxed _ _ _
  have hb := HXbs.out.below
  have z3 : w_2.heap.size ≤ w_3.heap.size := hb.size
  have HB3 := Lib.hid (HB2.out.trans (hb.mono (by omega)))
  clear hb HB2
  have Sbs_3 := Lib.hid (V.Same.refl w_2.heap.size w_3.heap.size w_3)
  go_wp2_with fail
  simp only [← hbxbs]
  clear hbxbs
  refine (V.copyIntss _ _ _ R0 _ (HA0.out.below HB3.out) hn0 hp0).mono ?_
  rintro e w_4 ⟨rfl, ho, hb⟩
  have z4 : w_3.heap.size ≤ w_4.heap.size := hb.size
  have HB4 := Lib.hid (HB3.out.trans (hb.mono (by omega)))
  have Sbs_4 := Lib.hid (Sbs_3.out.below hb (by omega))
  clear hb HB3 Sbs_3
  have HOx0 := Lib.hid ho
  clear ho
  have Sx0_4 := Lib.hid (V.Same.refl w_3.heap.size w_4.heap.size w_4)
  go_wp2_with fail
  refine (V.upstreamMean _ _ _ R0 _ _ ((HOx0.out.keep Sx0_4.out).mat)).mono ?_
  rintro e w_5 ⟨rfl, hb⟩
  have z5 : w_4.heap.size ≤ w_5.heap.size := hb.size
  have HB5 := Lib.hid (HB4.out.trans (hb.mono (by omega)))
  have Sbs_5 := Lib.hid (Sbs_4.out.below hb (by omega))
  have Sx0_5 := Lib.hid (Sx0_4.out.below hb (by omega))
  clear hb HB4 Sbs_4 Sx0_4
  rw [← HR.out]
  have pbs0 := (World.cell?_of_block (a := ⟨w_2.heap.size, 0, none⟩) (Sbs_5.out w_2.heap.size (Nat.le_refl _) (by have := HXbs.out.size; omega))).trans HXbs.out.c0
  have pbs1 := (World.cell?_of_block (a := ⟨w_2.heap.size, 1, none⟩) (Sbs_5.out w_2.heap.size (Nat.le_refl _) (by have := HXbs.out.size; omega))).trans HXbs.out.c1
  have hltbs : w_2.heap.size < w_5.heap.size := by have := HXbs.out.size; omega
  obtain ⟨w_6, hbxbg⟩ : ∃ x, x = w_5.alloc (V.rbox r.1.1 r.1.2) := ⟨_, rfl⟩
  have HXbg : Hid (V.Boxed w_5 w_6 r.1.1 r.1.2) := by show V.Boxed _ _ _ _; rw [hbxbg]; exact V.boxed _ _ _
  have hb := HXbg.out.below
  have z6 : w_5.heap.size ≤ w_6.heap.size := hb.size
  have HB6 := Lib.hid (HB5.out.trans (hb.mono (by omega)))
  have Sbs_6 := Lib.hid (Sbs_5.out.below hb (by omega))
  have Sx0_6 := Lib.hid (Sx0_5.out.below hb (by omega))
  clear hb HB5 Sbs_5 Sx0_5
  have Sbg_6 := Lib.hid (V.Same.refl w_5.heap.size w_6.heap.size w_6)
  go_wp2_with fail
  simp only [← hbxbg]
  clear hbxbg
  refine (V.eqRatio _ _ _).mono ?_
  rintro e w_7 ⟨rfl, hb⟩
  have z7 : w_6.heap.size ≤ w_7.heap.size := hb.size
  have HB7 := Lib.hid (HB6.out.trans (hb.mono (by omega)))
  have Sbs_7 := Lib.hid (Sbs_6.out.below hb (by omega))
  have Sx0_7 := Lib.hid (Sx0_6.out.below hb (by omega))
  have Sbg_7 := Lib.hid (Sbg_6.out.below hb (by omega))
  clear hb HB6 Sbs_6 Sx0_6 Sbg_6
  clear pbs0 pbs1 hltbs
  clear HXbs Sbs_7
  clear HXbg Sbg_7
  go_wp2_with fail
  refine (V.copyIntss _ _ _ R0 _ (HA0.out.below HB7.out) hn0 hp0).mono ?_
  rintro e w_8 ⟨rfl, ho, hb⟩
  have z8 : w_7.heap.size ≤ w_8.heap.size := hb.size
  have HB8 := Lib.hid (HB7.out.trans (hb.mono (by omega)))
  have Sx0_8 := Lib.hid (Sx0_7.out.below hb (by omega))
  clear hb HB7 Sx0_7
  have HOd0 := Lib.hid ho
  clear ho
  have Sd0_8 := Lib.hid (V.Same.refl w_7.heap.size w_8.heap.size w_8)
  go_wp2_with fail
  refine (V.eqM _ _ _ _ _ _ _ _ ((HOx0.out.keep Sx0_8.out).mat) ((HOd0.out.keep Sd0_8.out).mat)).mono ?_
  rintro e w_9 ⟨rfl, hb⟩
  have z9 : w_8.heap.size ≤ w_9.heap.size := hb.size
  have HB9 := Lib.hid (HB8.out.trans (hb.mono (by omega)))
  have Sx0_9 := Lib.hid (Sx0_8.out.below hb (by omega))
  have Sd0_9 := Lib.hid (Sd0_8.out.below hb (by omega))
  clear hb HB8 Sx0_8 Sd0_8
  clear HOd0 Sd0_9
  go_wp2
  go_ret
  exact ⟨rfl, HB9.out⟩
end Go.Proofs.Ytcofjjipjcekjaa.fnExactUpstreamMean
