/- The walk through the law: it returns true and writes nothing that was there. The function IsSubEigen answers as its model, for all arguments, and leaves them as they were. -/
import Derived.Test.YtcofjjipjcekjaaRows
import Derived.Test.YtcofjjipjcekjaaQa1
import Derived.Test.YtcofjjipjcekjaaQa2
import Derived.Test.YtcofjjipjcekjaaQa10
import Derived.Test.YtcofjjipjcekjaaQa12
import Derived.Test.YtcofjjipjcekjaaQa16
import Derived.Test.YtcofjjipjcekjaaQa15
import Derived.Test.YtcofjjipjcekjaaQa6
import Derived.WalkKit
import Derived.ProofKit
import Derived.OpenShut
import Derived.ShutString
import Derived.ChangeOld
import Derived.Below
import Derived.Lib.SmallJoins
import Derived.Lib.Hide
import Derived.WalkSmall
import Derived.Deep.Draws
import Derived.Deep.QuietTactic
import Derived.BigQuiet
import Derived.Deep.OwnRows
import Derived.Deep.RegionWith
import Derived.Deep.RegionHeld3
set_option linter.unusedSimpArgs false
set_option linter.unusedVariables false
set_option linter.unusedSectionVars false
namespace Go.Proofs.Ytcofjjipjcekjaa.fnExactIsSubEigen
open Go.ChangeShapes Go.WideShapes Go.ChangeAt Go.RowKit
open Go.ChangeMaps (open_string shut_string)
set_option linter.unusedVariables false

set_option maxRecDepth 100000 in
set_option maxHeartbeats 4000000 in
theorem walk (a0 : Option Addr) (len0 cap0 : Nat) (R0 : List (List Int)) (a1_0 a1_1 : Int) (a2 : Option Addr) (len2 cap2 : Nat) (z2 : List Int) (w : World) (w0 : V.Mat w a0 len0 R0) (w1_0 : (Lit.int .i64 a1_0).wf = true) (w1_1 : (Lit.int .i64 a1_1).wf = true) (w2 : V.IsRow .i64 w a2 len2 cap2 z2) :
    Calls Try.prog 10 #[.slice a0 len0 cap0, .agg #[.int .i64 a1_0, .int .i64 a1_1], .slice a2 len2 cap2] w fun e w' => e = .returned (.bool true) ∧ Below w.heap.size w w' := by
  have HA0 := Lib.hid w0
  clear w0
  by_cases hbig2 : 1048576 < len2
  · go_enter Try.func10, Try.ntmps10
    go_wp2
    go_ret
    exact ⟨rfl, by first | exact Below.refl _ _ | exact V.b_alloc _ _⟩
  have hn2 : len2 ≤ 1048576 := by omega
  have hI2 := w2.ints
  generalize z2.take len2 = l2 at hI2
  have HA2 := Lib.hid hI2
  clear hI2 w2 hbig2
  obtain ⟨wb, hwb⟩ : ∃ wb, wb = w.alloc (V.lbox a1_0 a1_1) := ⟨_, rfl⟩
  have HX : Hid (V.Boxed w wb a1_0 a1_1) := by show V.Boxed _ _ _ _; rw [hwb]; exact V.lboxed _ _ _
  have HA0 := Lib.hid (HA0.out.below HX.out.below)
  have HA2 := Lib.hid (HA2.out.below HX.out.below)
  have HZB := Lib.hid HX.out.size
  have HB0 := Lib.hid (Below.refl wb.heap.size wb)
  have HBR : ∀ wr, Below wb.heap.size wb wr → wr.cell? ⟨w.heap.size, 0, none⟩ = some (.int .i64 a1_0) ∧ wr.cell? ⟨w.heap.size, 1, none⟩ = some (.int .i64 a1_1) := fun wr hb => HX.out.cells hb
  go_enter Try.func10, Try.ntmps10
  go_wp2_with fail
  simp only [← hwb] at *
  clear hwb
  refine (V.szIntss _ _ _ R0 1048576 wb HA0.out (by omega) (by omega)).mono ?_
  rintro e w' ⟨y0, rfl, hy0, rfl⟩
  rcases hy0 with hy0 | ⟨hy0, hx0, hn0_, hp0_⟩
  · go_wp2
    go_ret
    exact ⟨rfl, HX.out.trans HB0.out⟩
  have hn0 : len0 ≤ 1048576 := by omega
  have hp0 : M.pre R0 R0.length ≤ 1048576 := by omega
  clear hn0_ hp0_
  obtain ⟨p0, p1⟩ := HBR _ HB0.out
  have hzq : w.heap.size < wb.heap.size := by have := HB0.out.size; have := HZB.out; omega
  go_wp2
  go_region_held3 (fun w' => w'.cell? ⟨w.heap.size, 0, none⟩ = some (.int .i64 a1_0) ∧ w'.cell? ⟨w.heap.size, 1, none⟩ = some (.int .i64 a1_1) ∧ Below wb.heap.size wb w') (first | exact ⟨p0, p1, (Below.refl _ _).drew⟩ | exact V.keep3 hzq ‹_ ∧ _ ∧ Below _ _ _› hb) (first | (go_at_call 30; refine (V.copyIntss a0 len0 cap0 R0 _ ?hm hn0 hp0).mono ?_; (case hm => exact HA0.out.below (HB0.out.trans ((V.low3 ‹_ ∧ _ ∧ Below _ _ _›).mono HB0.out.size))); rintro e wxc0 ⟨rfl, ho, hb⟩; have HOc0 := Lib.hid ho; have HBc0 := Lib.hid hb; clear ho) | (go_at_call 37; refine (V.toRatio _ _ _).mono ?_; rintro e wxc1 ⟨rfl, hb⟩; have HBc1 := Lib.hid hb) | (go_at_call 38; refine (V.copyInts a2 len2 cap2 l2 _ ?hm hn2).mono ?_; (case hm => exact HA2.out.below (HB0.out.trans ((V.low3 ‹_ ∧ _ ∧ Below _ _ _›).mono HB0.out.size))); rintro e wxc2 ⟨rfl, ho, hb⟩; have HOc2 := Lib.hid ho; have HBc2 := Lib.hid hb; clear ho) | (go_at_call 41; refine (V.sIsSubEigen _ _ _ R0 _ _ _ _ _ l2 _ (((HOc0.out.below HBc1.out).below HBc2.out).mat) (HOc2.out.ints')).mono ?_; rintro e w_1 ⟨rfl, hb⟩))
  all_goals
    have hb3 : Below wb.heap.size wb w_1 := V.low3 (by assumption)
    have z1 : wb.heap.size ≤ w_1.heap.size := hb3.size
    have HB1 := Lib.hid (HB0.out.trans (hb3.mono (by omega)))
    clear hb HB0 hb3 p0 p1 hzq HBc0 HOc0 HBc1 HBc2 HOc2
    go_wp2_with fail
    refine (V.copyIntss _ _ _ R0 _ (HA0.out.below HB1.out) hn0 hp0).mono ?_
    rintro e w_2 ⟨rfl, ho, hb⟩
    have z2 : w_1.heap.size ≤ w_2.heap.size := hb.size
    have HB2 := Lib.hid (HB1.out.trans (hb.mono (by omega)))
    clear hb HB1
    have HOx0 := Lib.hid ho
    clear ho
    have Sx0_2 := Lib.hid (V.Same.refl w_1.heap.size w_2.heap.size w_2)
    go_wp2_with fail
    refine (V.copyInts _ _ _ l2 _ (HA2.out.below HB2.out) hn2).mono ?_
    rintro e w_3 ⟨rfl, ho, hb⟩
    have z3 : w_2.heap.size ≤ w_3.heap.size := hb.size
    have HB3 := Lib.hid (HB2.out.trans (hb.mono (by omega)))
    have Sx0_3 := Lib.hid (Sx0_2.out.below hb (by omega))
    clear hb HB2 Sx0_2
    have HOx2 := Lib.hid ho
    clear ho
    have Sx2_3 := Lib.hid (V.Same.refl w_2.heap.size w_3.heap.size w_3)
    obtain ⟨p0, p1⟩ := HBR _ HB3.out
    go_wp2_with fail
    refine (V.toRatio _ _ _).mono ?_
    rintro e w_4 ⟨rfl, hb⟩
    have z4 : w_3.heap.size ≤ w_4.heap.size := hb.size
    have HB4 := Lib.hid (HB3.out.trans (hb.mono (by omega)))
    have Sx0_4 := Lib.hid (Sx0_3.out.below hb (by omega))
    have Sx2_4 := Lib.hid (Sx2_3.out.below hb (by omega))
    clear hb HB3 Sx0_3 Sx2_3
    clear p0 p1
    go_wp2_with fail
    refine (V.isSubEigen _ _ _ R0 _ _ _ _ _ l2 _ ((HOx0.out.keep Sx0_4.out).mat) ((HOx2.out.keep Sx2_4.out).ints')).mono ?_
    rintro e w_5 ⟨rfl, hb⟩
    have z5 : w_4.heap.size ≤ w_5.heap.size := hb.size
    have HB5 := Lib.hid (HB4.out.trans (hb.mono (by omega)))
    have Sx0_5 := Lib.hid (Sx0_4.out.below hb (by omega))
    have Sx2_5 := Lib.hid (Sx2_4.out.below hb (by omega))
    clear hb HB4 Sx0_4 Sx2_4
    go_wp2_with fail
    refine (V.copyIntss _ _ _ R0 _ (HA0.out.below HB5.out) hn0 hp0).mono ?_
    rintro e w_6 ⟨rfl, ho, hb⟩
    have z6 : w_5.heap.size ≤ w_6.heap.size := hb.size
    have HB6 := Lib.hid (HB5.out.trans (hb.mono (by omega)))
    have Sx0_6 := Lib.hid (Sx0_5.out.below hb (by omega))
    have Sx2_6 := Lib.hid (Sx2_5.out.below hb (by omega))
    clear hb HB5 Sx0_5 Sx2_5
    have HOd0 := Lib.hid ho
    clear ho
    have Sd0_6 := Lib.hid (V.Same.refl w_5.heap.size w_6.heap.size w_6)
    go_wp2_with fail
    refine (V.eqM _ _ _ _ _ _ _ _ ((HOx0.out.keep Sx0_6.out).mat) ((HOd0.out.keep Sd0_6.out).mat)).mono ?_
    rintro e w_7 ⟨rfl, hb⟩
    have z7 : w_6.heap.size ≤ w_7.heap.size := hb.size
    have HB7 := Lib.hid (HB6.out.trans (hb.mono (by omega)))
    have Sx0_7 := Lib.hid (Sx0_6.out.below hb (by omega))
    have Sx2_7 := Lib.hid (Sx2_6.out.below hb (by omega))
    have Sd0_7 := Lib.hid (Sd0_6.out.below hb (by omega))
    clear hb HB6 Sx0_6 Sx2_6 Sd0_6
    clear HOd0 Sd0_7
    go_wp2_with fail
    refine (V.copyInts _ _ _ l2 _ (HA2.out.below HB7.out) hn2).mono ?_
    rintro e w_8 ⟨rfl, ho, hb⟩
    have z8 : w_7.heap.size ≤ w_8.heap.size := hb.size
    have HB8 := Lib.hid (HB7.out.trans (hb.mono (by omega)))
    have Sx0_8 := Lib.hid (Sx0_7.out.below hb (by omega))
    have Sx2_8 := Lib.hid (Sx2_7.out.below hb (by omega))
    clear hb HB7 Sx0_7 Sx2_7
    have HOd2 := Lib.hid ho
    clear ho
    have Sd2_8 := Lib.hid (V.Same.refl w_7.heap.size w_8.heap.size w_8)
    go_wp2_with fail
    refine (V.eqV _ _ _ _ _ _ _ _ ((HOx2.out.keep Sx2_8.out).ints') ((HOd2.out.keep Sd2_8.out).ints')).mono ?_
    rintro e w_9 ⟨rfl, hb⟩
    have z9 : w_8.heap.size ≤ w_9.heap.size := hb.size
    have HB9 := Lib.hid (HB8.out.trans (hb.mono (by omega)))
    have Sx0_9 := Lib.hid (Sx0_8.out.below hb (by omega))
    have Sx2_9 := Lib.hid (Sx2_8.out.below hb (by omega))
    have Sd2_9 := Lib.hid (Sd2_8.out.below hb (by omega))
    clear hb HB8 Sx0_8 Sx2_8 Sd2_8
    clear HOd2 Sd2_9
    go_wp2
    go_ret
    exact ⟨rfl, HX.out.trans HB9.out⟩
end Go.Proofs.Ytcofjjipjcekjaa.fnExactIsSubEigen
