/- The walk through the law: it returns true and writes nothing that was there. The function IsMeanCertificate answers as its model, for all arguments, and leaves them as they were. -/
import Derived.Test.YtmhpgnndjagogaaRows
import Derived.Test.YtmhpgnndjagogaaQc1
import Derived.Test.YtmhpgnndjagogaaQc3
import Derived.Test.YtmhpgnndjagogaaQc4
import Derived.Test.YtmhpgnndjagogaaQc15
import Derived.Test.YtmhpgnndjagogaaQc17
import Derived.Test.YtmhpgnndjagogaaQc16
import Derived.Test.YtmhpgnndjagogaaQc18
import Derived.Test.YtmhpgnndjagogaaQc10
import Derived.Test.YtmhpgnndjagogaaQc11
import Derived.Test.YtmhpgnndjagogaaQc8
import Derived.WalkKit
import Derived.ProofKit
import Derived.OpenShut
import Derived.ShutString
import Derived.ChangeOld
import Derived.Below
import Derived.Lib.SmallJoins
import Derived.Lib.Hide
import Derived.WalkSmall
import Derived.Deep.Draws
import Derived.Deep.QuietTactic
import Derived.BigQuiet
import Derived.Deep.OwnRows
import Derived.Deep.RegionWith
import Derived.Deep.RegionHeld3
set_option linter.unusedSimpArgs false
set_option linter.unusedVariables false
set_option linter.unusedSectionVars false
namespace Go.Proofs.Ytmhpgnndjagogaa.fnExactIsMeanCertificate
open Go.ChangeShapes Go.WideShapes Go.ChangeAt Go.RowKit
open Go.ChangeMaps (open_string shut_string)
set_option linter.unusedVariables false

set_option maxRecDepth 100000 in
set_option maxHeartbeats 4000000 in
theorem walk (a0 : Option Addr) (len0 cap0 : Nat) (R0 : List (List Int)) (a1_0 a1_1 : Int) (a2 : Option Addr) (len2 cap2 : Nat) (z2 : List Int) (a3 : Option Addr) (len3 cap3 : Nat) (z3 : List Int) (w : World) (w0 : V.Mat w a0 len0 R0) (w1_0 : (Lit.int .i64 a1_0).wf = true) (w1_1 : (Lit.int .i64 a1_1).wf = true) (w2 : V.IsRow .i64 w a2 len2 cap2 z2) (w3 : V.IsRow .i64 w a3 len3 cap3 z3) :
    Calls Try.prog 3 #[.slice a0 len0 cap0, .agg #[.int .i64 a1_0, .int .i64 a1_1], .slice a2 len2 cap2, .slice a3 len3 cap3] w fun e w' => e = .returned (.bool true) ∧ Below w.heap.size w w' := by
  have HA0 := Lib.hid w0
  clear w0
  by_cases hbig2 : 1048576 < len2
  · go_enter Try.func3, Try.ntmps3
    go_wp2
    go_ret
    exact ⟨rfl, by first | exact Below.refl _ _ | exact V.b_alloc _ _⟩
  have hn2 : len2 ≤ 1048576 := by omega
  have hI2 := w2.ints
  generalize z2.take len2 = l2 at hI2
  have HA2 := Lib.hid hI2
  clear hI2 w2 hbig2
  by_cases hbig3 : 1048576 < len3
  · go_enter Try.func3, Try.ntmps3
    go_wp2
    go_ret
    exact ⟨rfl, by first | exact Below.refl _ _ | exact V.b_alloc _ _⟩
  have hn3 : len3 ≤ 1048576 := by omega
  have hI3 := w3.ints
  generalize z3.take len3 = l3 at hI3
  have HA3 := Lib.hid hI3
  clear hI3 w3 hbig3
  obtain ⟨wb, hwb⟩ : ∃ wb, wb = w.alloc (V.lbox a1_0 a1_1) := ⟨_, rfl⟩
  have HX : Hid (V.Boxed w wb a1_0 a1_1) := by show V.Boxed _ _ _ _; rw [hwb]; exact V.lboxed _ _ _
  have HA0 := Lib.hid (HA0.out.below HX.out.below)
  have HA2 := Lib.hid (HA2.out.below HX.out.below)
  have HA3 := Lib.hid (HA3.out.below HX.out.below)
  have HZB := Lib.hid HX.out.size
  have HB0 := Lib.hid (Below.refl wb.heap.size wb)
  have HBR : ∀ wr, Below wb.heap.size wb wr → wr.cell? ⟨w.heap.size, 0, none⟩ = some (.int .i64 a1_0) ∧ wr.cell? ⟨w.heap.size, 1, none⟩ = some (.int .i64 a1_1) := fun wr hb => HX.out.cells hb
  go_enter Try.func3, Try.ntmps3
  go_wp2_with fail
  simp only [← hwb] at *
  clear hwb
  refine (V.szIntss _ _ _ R0 1048576 wb HA0.out (by omega) (by omega)).mono ?_
  rintro e w' ⟨y0, rfl, hy0, rfl⟩
  rcases hy0 with hy0 | ⟨hy0, hx0, hn0_, hp0_⟩
  · go_wp2
    go_ret
    exact ⟨rfl, HX.out.trans HB0.out⟩
  have hn0 : len0 ≤ 1048576 := by omega
  have hp0 : M.pre R0 R0.length ≤ 1048576 := by omega
  clear hn0_ hp0_
  obtain ⟨p0, p1⟩ := HBR _ HB0.out
  have hzq : w.heap.size < wb.heap.size := by have := HB0.out.size; have := HZB.out; omega
  go_wp2
  go_region_held3 (fun w' => w'.cell? ⟨w.heap.size, 0, none⟩ = some (.int .i64 a1_0) ∧ w'.cell? ⟨w.heap.size, 1, none⟩ = some (.int .i64 a1_1) ∧ Below wb.heap.size wb w') (first | exact ⟨p0, p1, (Below.refl _ _).drew⟩ | exact V.keep3 hzq ‹_ ∧ _ ∧ Below _ _ _› hb) (first | (go_at_call 9; refine (V.copyIntss a0 len0 cap0 R0 _ ?hm hn0 hp0).mono ?_; (case hm => exact HA0.out.below (HB0.out.trans ((V.low3 ‹_ ∧ _ ∧ Below _ _ _›).mono HB0.out.size))); rintro e wxc0 ⟨rfl, ho, hb⟩; have HOc0 := Lib.hid ho; have HBc0 := Lib.hid hb; clear ho) | (go_at_call 10; refine (V.toRatio _ _ _).mono ?_; rintro e wxc1 ⟨rfl, hb⟩; have HBc1 := Lib.hid hb) | (go_at_call 11; have _g := HOc2.out; clear _g; refine (V.copyInts a3 len3 cap3 l3 _ ?hm hn3).mono ?_; (case hm => exact HA3.out.below (HB0.out.trans ((V.low3 ‹_ ∧ _ ∧ Below _ _ _›).mono HB0.out.size))); rintro e wxc3 ⟨rfl, ho, hb⟩; have HOc3 := Lib.hid ho; have HBc3 := Lib.hid hb; clear ho) | (go_at_call 11; refine (V.copyInts a2 len2 cap2 l2 _ ?hm hn2).mono ?_; (case hm => exact HA2.out.below (HB0.out.trans ((V.low3 ‹_ ∧ _ ∧ Below _ _ _›).mono HB0.out.size))); rintro e wxc2 ⟨rfl, ho, hb⟩; have HOc2 := Lib.hid ho; have HBc2 := Lib.hid hb; clear ho) | (go_at_call 8; refine (V.sIsMeanCertificate _ _ _ R0 _ _ _ _ _ l2 _ _ _ l3 _ ((((HOc0.out.below HBc1.out).below HBc2.out).below HBc3.out).mat) ((HOc2.out.below HBc3.out).ints') (HOc3.out.ints') (V.caps_own ((HOc2.out.below HBc3.out))).1 (V.caps_own ((HOc2.out.below HBc3.out))).2).mono ?_; rintro e w_1 ⟨rfl, hb⟩))
  all_goals
    have hb3 : Below wb.heap.size wb w_1 := V.low3 (by assumption)
    have z1 : wb.heap.size ≤ w_1.heap.size := hb3.size
    have HB1 := Lib.hid (HB0.out.trans (hb3.mono (by omega)))
    clear hb HB0 hb3 p0 p1 hzq HBc0 HOc0 HBc1 HBc2 HOc2 HBc3 HOc3
    go_wp2_with fail
    refine (V.copyIntss _ _ _ R0 _ (HA0.out.below HB1.out) hn0 hp0).mono ?_
    rintro e w_2 ⟨rfl, ho, hb⟩
    have z2 : w_1.heap.size ≤ w_2.heap.size := hb.size
    have HB2 := Lib.hid (HB1.out.trans (hb.mono (by omega)))
    clear hb HB1
    have HOx0 := Lib.hid ho
    clear ho
    have Sx0_2 := Lib.hid (V.Same.refl w_1.heap.size w_2.heap.size w_2)
    go_wp2_with fail
    refine (V.copyInts _ _ _ l2 _ (HA2.out.below HB2.out) hn2).mono ?_
    rintro e w_3 ⟨rfl, ho, hb⟩
    have z3 : w_2.heap.size ≤ w_3.heap.size := hb.size
    have HB3 := Lib.hid (HB2.out.trans (hb.mono (by omega)))
    have Sx0_3 := Lib.hid (Sx0_2.out.below hb (by omega))
    clear hb HB2 Sx0_2
    have HOx2 := Lib.hid ho
    clear ho
    have Sx2_3 := Lib.hid (V.Same.refl w_2.heap.size w_3.heap.size w_3)
    go_wp2_with fail
    refine (V.copyInts _ _ _ l3 _ (HA3.out.below HB3.out) hn3).mono ?_
    rintro e w_4 ⟨rfl, ho, hb⟩
    have z4 : w_3.heap.size ≤ w_4.heap.size := hb.size
    have HB4 := Lib.hid (HB3.out.trans (hb.mono (by omega)))
    have Sx0_4 := Lib.hid (Sx0_3.out.below hb (by omega))
    have Sx2_4 := Lib.hid (Sx2_3.out.below hb (by omega))
    clear hb HB3 Sx0_3 Sx2_3
    have HOx3 := Lib.hid ho
    clear ho
    have Sx3_4 := Lib.hid (V.Same.refl w_3.heap.size w_4.heap.size w_4)
    obtain ⟨p0, p1⟩ := HBR _ HB4.out
    go_wp2_with fail
    refine (V.toRatio _ _ _).mono ?_
    rintro e w_5 ⟨rfl, hb⟩
    have z5 : w_4.heap.size ≤ w_5.heap.size := hb.size
    have HB5 := Lib.hid (HB4.out.trans (hb.mono (by omega)))
    have Sx0_5 := Lib.hid (Sx0_4.out.below hb (by omega))
    have Sx2_5 := Lib.hid (Sx2_4.out.below hb (by omega))
    have Sx3_5 := Lib.hid (Sx3_4.out.below hb (by omega))
    clear hb HB4 Sx0_4 Sx2_4 Sx3_4
    clear p0 p1
    go_wp2_with fail
    refine (V.isMeanCertificate _ _ _ R0 _ _ _ _ _ l2 _ _ _ l3 _ ((HOx0.out.keep Sx0_5.out).mat) ((HOx2.out.keep Sx2_5.out).ints') ((HOx3.out.keep Sx3_5.out).ints') (V.caps_own (HOx2.out.keep Sx2_5.out)).1 (V.caps_own (HOx2.out.keep Sx2_5.out)).2).mono ?_
    rintro e w_6 ⟨rfl, hb⟩
    have z6 : w_5.heap.size ≤ w_6.heap.size := hb.size
    have HB6 := Lib.hid (HB5.out.trans (hb.mono (by omega)))
    have Sx0_6 := Lib.hid (Sx0_5.out.below hb (by omega))
    have Sx2_6 := Lib.hid (Sx2_5.out.below hb (by omega))
    have Sx3_6 := Lib.hid (Sx3_5.out.below hb (by omega))
    clear hb HB5 Sx0_5 Sx2_5 Sx3_5
    go_wp2_with fail
    refine (V.copyIntss _ _ _ R0 _ (HA0.out.below HB6.out) hn0 hp0).mono ?_
    rintro e w_7 ⟨rfl, ho, hb⟩
    have z7 : w_6.heap.size ≤ w_7.heap.size := hb.size
    have HB7 := Lib.hid (HB6.out.trans (hb.mono (by omega)))
    have Sx0_7 := Lib.hid (Sx0_6.out.below hb (by omega))
    have Sx2_7 := Lib.hid (Sx2_6.out.below hb (by omega))
    have Sx3_7 := Lib.hid (Sx3_6.out.below hb (by omega))
    clear hb HB6 Sx0_6 Sx2_6 Sx3_6
    have HOd0 := Lib.hid ho
    clear ho
    have Sd0_7 := Lib.hid (V.Same.refl w_6.heap.size w_7.heap.size w_7)
    go_wp2_with fail
    refine (V.eqM _ _ _ _ _ _ _ _ ((HOx0.out.keep Sx0_7.out).mat) ((HOd0.out.keep Sd0_7.out).mat)).mono ?_
    rintro e w_8 ⟨rfl, hb⟩
    have z8 : w_7.heap.size ≤ w_8.heap.size := hb.size
    have HB8 := Lib.hid (HB7.out.trans (hb.mono (by omega)))
    have Sx0_8 := Lib.hid (Sx0_7.out.below hb (by omega))
    have Sx2_8 := Lib.hid (Sx2_7.out.below hb (by omega))
    have Sx3_8 := Lib.hid (Sx3_7.out.below hb (by omega))
    have Sd0_8 := Lib.hid (Sd0_7.out.below hb (by omega))
    clear hb HB7 Sx0_7 Sx2_7 Sx3_7 Sd0_7
    clear HOd0 Sd0_8
    go_wp2_with fail
    refine (V.copyInts _ _ _ l2 _ (HA2.out.below HB8.out) hn2).mono ?_
    rintro e w_9 ⟨rfl, ho, hb⟩
    have z9 : w_8.heap.size ≤ w_9.heap.size := hb.size
    have HB9 := Lib.hid (HB8.out.trans (hb.mono (by omega)))
    have Sx0_9 := Lib.hid (Sx0_8.out.below hb (by omega))
    have Sx2_9 := Lib.hid (Sx2_8.out.below hb (by omega))
    have Sx3_9 := Lib.hid (Sx3_8.out.below hb (by omega))
    clear hb HB8 Sx0_8 Sx2_8 Sx3_8
    have HOd2 := Lib.hid ho
    clear ho
    have Sd2_9 := Lib.hid (V.Same.refl w_8.heap.size w_9.heap.size w_9)
    go_wp2_with fail
    refine (V.eqV _ _ _ _ _ _ _ _ ((HOx2.out.keep Sx2_9.out).ints') ((HOd2.out.keep Sd2_9.out).ints')).mono ?_
    rintro e w_10 ⟨rfl, hb⟩
    have z10 : w_9.heap.size ≤ w_10.heap.size := hb.size
    have HB10 := Lib.hid (HB9.out.trans (hb.mono (by omega)))
    have Sx0_10 := Lib.hid (Sx0_9.out.below hb (by omega))
    have Sx2_10 := Lib.hid (Sx2_9.out.below hb (by omega))
    have Sx3_10 := Lib.hid (Sx3_9.out.below hb (by omega))
    have Sd2_10 := Lib.hid (Sd2_9.out.below hb (by omega))
    clear hb HB9 Sx0_9 Sx2_9 Sx3_9 Sd2_9
    clear HOd2 Sd2_10
    go_wp2_with fail
    refine (V.copyInts _ _ _ l3 _ (HA3.out.below HB10.out) hn3).mono ?_
    rintro e w_11 ⟨rfl, ho, hb⟩
    have z11 : w_10.heap.size ≤ w_11.heap.size := hb.size
    have HB11 := Lib.hid (HB10.out.trans (hb.mono (by omega)))
    have Sx0_11 := Lib.hid (Sx0_10.out.below hb (by omega))
    have Sx2_11 := Lib.hid (Sx2_10.out.below hb (by omega))
    have Sx3_11 := Lib.hid (Sx3_10.out.below hb (by omega))
    clear hb HB10 Sx0_10 Sx2_10 Sx3_10
    have HOd3 := Lib.hid ho
    clear ho
    have Sd3_11 := Lib.hid (V.Same.refl w_10.heap.size w_11.heap.size w_11)
    go_wp2_with fail
    refine (V.eqV _ _ _ _ _ _ _ _ ((HOx3.out.keep Sx3_11.out).ints') ((HOd3.out.keep Sd3_11.out).ints')).mono ?_
    rintro e w_12 ⟨rfl, hb⟩
    have z12 : w_11.heap.size ≤ w_12.heap.size := hb.size
    have HB12 := Lib.hid (HB11.out.trans (hb.mono (by omega)))
    have Sx0_12 := Lib.hid (Sx0_11.out.below hb (by omega))
    have Sx2_12 := Lib.hid (Sx2_11.out.below hb (by omega))
    have Sx3_12 := Lib.hid (Sx3_11.out.below hb (by omega))
    have Sd3_12 := Lib.hid (Sd3_11.out.below hb (by omega))
    clear hb HB11 Sx0_11 Sx2_11 Sx3_11 Sd3_11
    clear HOd3 Sd3_12
    go_wp2
    go_ret
    exact ⟨rfl, HX.out.trans HB12.out⟩
end Go.Proofs.Ytmhpgnndjagogaa.fnExactIsMeanCertificate
