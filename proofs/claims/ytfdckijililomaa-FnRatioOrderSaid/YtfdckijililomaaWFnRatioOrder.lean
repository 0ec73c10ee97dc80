/- The walk through the law: it returns true and writes nothing that was there. For every code: ratios are made in lowest terms, comparing is antisymmetric, and MakeRatio, CompareRatios and IsRatio answer as their models. -/
import Derived.Test.YtfdckijililomaaRows
import Derived.Test.YtfdckijililomaaMath1
import Derived.Test.YtfdckijililomaaMath2
import Derived.Test.YtfdckijililomaaVals
import Derived.Test.YtfdckijililomaaGcd
import Derived.Test.YtfdckijililomaaHelp
import Derived.Test.YtfdckijililomaaRat
import Derived.Test.YtfdckijililomaaRat2
import Derived.Test.YtfdckijililomaaRat3
import Derived.Test.YtfdckijililomaaRows1
import Derived.Test.YtfdckijililomaaDraw1
import Derived.Test.YtfdckijililomaaDraw2
import Derived.Test.YtfdckijililomaaDrawP
import Derived.Test.YtfdckijililomaaDrawR
import Derived.Test.YtfdckijililomaaDrawR2
import Derived.WalkKit
import Derived.ProofKit
import Derived.OpenShut
import Derived.ShutString
import Derived.ChangeOld
import Derived.Below
import Derived.Lib.SmallJoins
import Derived.Lib.Hide
import Derived.WalkSmall
import Derived.Deep.Draws
import Derived.Deep.QuietTactic
import Derived.BigQuiet
import Derived.Deep.OwnRows
import Derived.Deep.RegionWith
import Derived.Deep.RegionHeld3
namespace Go.Proofs.Ytfdckijililomaa.fnRatioOrder
open Go.ChangeShapes Go.WideShapes Go.ChangeAt Go.RowKit
open Go.ChangeMaps (open_string shut_string)
set_option linter.unusedVariables false

set_option maxRecDepth 100000 in
set_option maxHeartbeats 4000000 in
theorem walk (a0 : Option Addr) (len0 cap0 : Nat) (z0 : List Int) (w : World) (w0 : V.IsRow .u8 w a0 len0 cap0 z0) :
    Calls Try.prog 15 #[.slice a0 len0 cap0] w fun e w' => e = .returned (.bool true) ∧ Below w.heap.size w w' := by
  have hB := w0.bytes
  have hm := hB.1
  by_cases hbig : 4096 < len0
  · have hd : decide (4096 < len0) = true := by simpa using hbig
    clear hB w0
    go_enter Try.func15, Try.ntmps15
    go_wp2_with (first | (go_at_call 21; refine (V.big _ _ _ _ hm).mono ?_; rintro e w' ⟨rfl, rfl⟩))
    go_ret
    exact ⟨rfl, Below.refl _ _⟩
  · have hd : decide (4096 < len0) = false := by simpa using hbig
    clear w0
    have HB := Lib.hid hB
    clear hB
    go_enter Try.func15, Try.ntmps15
    go_wp2_with (go_at_call 21; refine (V.big _ _ _ _ hm).mono ?_; rintro e w' ⟨rfl, rfl⟩)
    refine (V.drawMakeRatio _ _ _ _ HB.out).mono ?_
    rintro e w1 ⟨x, y, rfl, hx, hy, hb1⟩
    have HB1 := Lib.hid hb1
    have HY1 := Lib.hid (HB.out.below hb1)
    clear hb1 HB
    go_wp2_with fail
    refine (V.makeRatio _ _ _).mono ?_
    rintro e w2 ⟨rfl, hb2⟩
    have HB2 := Lib.hid ((V.bnext HB1.out hb2).alloc (V.bnext HB1.out hb2).size (.cells #[.int .i64 (M.mkRat x y).1, .int .i64 (M.mkRat x y).2.1] 27))
    have HY2 := Lib.hid ((HY1.out.below hb2).below (V.b_alloc w2 (.cells #[.int .i64 (M.mkRat x y).1, .int .i64 (M.mkRat x y).2.1] 27)))
    have HR2 := Lib.hid (V.pair_row w2 27 (M.mkRat x y).1 (M.mkRat x y).2.1)
    clear hb2 HB1 HY1
    go_wp2_with fail
    refine (V.sMakeRatio _ _ _).mono ?_
    rintro e w3 ⟨rfl, hb3⟩
    have l3 : w2.heap.size < w3.heap.size := by have := hb3.size; simp at this; omega
    have HB3 := Lib.hid ((V.bnext HB2.out hb3).alloc (V.bnext HB2.out hb3).size (.cells #[.int .i64 (M.mkRat x y).1, .int .i64 (M.mkRat x y).2.1] 27))
    have HY3 := Lib.hid ((HY2.out.below hb3).below (V.b_alloc w3 (.cells #[.int .i64 (M.mkRat x y).1, .int .i64 (M.mkRat x y).2.1] 27)))
    have HR3 := Lib.hid ((HR2.out.of_block (hb3.block _ (by simp))).alloc (.cells #[.int .i64 (M.mkRat x y).1, .int .i64 (M.mkRat x y).2.1] 27))
    have HM3 := Lib.hid (V.pair_row w3 27 (M.mkRat x y).1 (M.mkRat x y).2.1)
    clear hb3 HB2 HY2 HR2
    go_wp2_with fail
    refine (V.drawCompareRatios _ _ _ _ HY3.out).mono ?_
    rintro e w4 ⟨p, q, s, t, rfl, hp, hq, hs, ht, hb4⟩
    have l4 : w3.heap.size < w4.heap.size := by have := hb4.size; simp at this; omega
    have HB4 := Lib.hid (((V.bnext HB3.out hb4).alloc (V.bnext HB3.out hb4).size (.cells #[.int .i64 p, .int .i64 q] 27)).alloc (by have := (V.bnext HB3.out hb4).size; simp; omega) (.cells #[.int .i64 s, .int .i64 t] 27))
    have HR4 := Lib.hid (((HR3.out.of_block (hb4.block _ (by simp; omega))).alloc (.cells #[.int .i64 p, .int .i64 q] 27)).alloc (.cells #[.int .i64 s, .int .i64 t] 27))
    have HM4 := Lib.hid (((HM3.out.of_block (hb4.block _ (by simp))).alloc (.cells #[.int .i64 p, .int .i64 q] 27)).alloc (.cells #[.int .i64 s, .int .i64 t] 27))
    have HA4 := Lib.hid ((V.pair_row w4 27 p q).alloc (.cells #[.int .i64 s, .int .i64 t] 27))
    have hC := V.pair_row (w4.alloc (.cells #[.int .i64 p, .int .i64 q] 27)) 27 s t
    simp only [World.size_alloc] at hC
    have HC4 := Lib.hid hC
    clear hb4 HB3 HY3 HR3 HM3 hC
    have kb := M.cmpOf_bd p q s t
    obtain ⟨kb1, kb2⟩ := kb
    have hback := M.cmpOf_back p q s t
    go_wp2_with fail
    refine (V.compareRatios _ _ _ _ _).mono ?_
    rintro e w5 ⟨rfl, hb5⟩
    have l5 : w4.heap.size + 1 < w5.heap.size := by have := hb5.size; simp at this; omega
    have HB5 := Lib.hid (V.bnext HB4.out hb5)
    have HR5 := Lib.hid (HR4.out.of_block (hb5.block _ (by simp; omega)))
    have HM5 := Lib.hid (HM4.out.of_block (hb5.block _ (by simp; omega)))
    have hA := HA4.out.of_block (hb5.block _ (by simp; omega))
    have hC := HC4.out.of_block (hb5.block _ (by simp))
    have a0' : w5.cell? ⟨w4.heap.size, 0, none⟩ = some (.int .i64 p) := hA.cell (i := 0) (by omega)
    have a1' : w5.cell? ⟨w4.heap.size, 1, none⟩ = some (.int .i64 q) := hA.cell (i := 1) (by omega)
    have b0' : w5.cell? ⟨w4.heap.size + 1, 0, none⟩ = some (.int .i64 s) := hC.cell (i := 0) (by omega)
    have b1' : w5.cell? ⟨w4.heap.size + 1, 1, none⟩ = some (.int .i64 t) := hC.cell (i := 1) (by omega)
    have HA5 := Lib.hid hA
    have HC5 := Lib.hid hC
    clear hb5 HB4 HR4 HM4 HA4 HC4 hA hC
    go_wp2_with fail
    refine (V.sCompareRatios _ _ _ _ _).mono ?_
    rintro e w6 ⟨rfl, hb6⟩
    have l6 : w4.heap.size + 1 < w6.heap.size := by have := hb6.size; omega
    have HB6 := Lib.hid (V.bnext HB5.out hb6)
    have HR6 := Lib.hid (HR5.out.of_block (hb6.block _ (by omega)))
    have HM6 := Lib.hid (HM5.out.of_block (hb6.block _ (by omega)))
    have hA := HA5.out.of_block (hb6.block _ (by omega))
    have hC := HC5.out.of_block (hb6.block _ (by omega))
    have a0' : w6.cell? ⟨w4.heap.size, 0, none⟩ = some (.int .i64 p) := hA.cell (i := 0) (by omega)
    have a1' : w6.cell? ⟨w4.heap.size, 1, none⟩ = some (.int .i64 q) := hA.cell (i := 1) (by omega)
    have b0' : w6.cell? ⟨w4.heap.size + 1, 0, none⟩ = some (.int .i64 s) := hC.cell (i := 0) (by omega)
    have b1' : w6.cell? ⟨w4.heap.size + 1, 1, none⟩ = some (.int .i64 t) := hC.cell (i := 1) (by omega)
    have HA6 := Lib.hid hA
    clear hb6 HB5 HR5 HM5 HA5 HC5 hA hC
    go_wp2_with fail
    refine (V.compareRatios _ _ _ _ _).mono ?_
    rintro e w7 ⟨rfl, hb7⟩
    have HB7 := Lib.hid (V.bnext HB6.out hb7)
    have hR := HR6.out.of_block (hb7.block _ (by omega))
    have hM := HM6.out.of_block (hb7.block _ (by omega))
    have hA := HA6.out.of_block (hb7.block _ (by omega))
    have c0 : w7.cell? ⟨w4.heap.size, 0, none⟩ = some (.int .i64 p) := hA.cell (i := 0) (by omega)
    have c1 : w7.cell? ⟨w4.heap.size, 1, none⟩ = some (.int .i64 q) := hA.cell (i := 1) (by omega)
    have d0 : w7.cell? ⟨w2.heap.size, 0, none⟩ = some (.int .i64 (M.mkRat x y).1) := hR.cell (i := 0) (by omega)
    have d1 : w7.cell? ⟨w2.heap.size, 1, none⟩ = some (.int .i64 (M.mkRat x y).2.1) := hR.cell (i := 1) (by omega)
    have f0 : w7.cell? ⟨w3.heap.size, 0, none⟩ = some (.int .i64 (M.mkRat x y).1) := hM.cell (i := 0) (by omega)
    have f1 : w7.cell? ⟨w3.heap.size, 1, none⟩ = some (.int .i64 (M.mkRat x y).2.1) := hM.cell (i := 1) (by omega)
    clear hb7 HB6 HR6 HM6 HA6 hR hM hA a0' a1' b0' b1'
    go_wp2_with fail
    have hwr : IntKind.i64.wrap (-(M.cmpOf p q s t).1) = -(M.cmpOf p q s t).1 := IntWalk.i64_in _ (by omega)
    go_region_held3 (fun w' => w'.cell? ⟨w2.heap.size, 0, none⟩ = some (.int .i64 (M.mkRat x y).1) ∧ w'.cell? ⟨w2.heap.size, 1, none⟩ = some (.int .i64 (M.mkRat x y).2.1) ∧ w'.cell? ⟨w3.heap.size, 0, none⟩ = some (.int .i64 (M.mkRat x y).1) ∧ w'.cell? ⟨w3.heap.size, 1, none⟩ = some (.int .i64 (M.mkRat x y).2.1) ∧ w'.cell? ⟨w4.heap.size, 0, none⟩ = some (.int .i64 p) ∧ w'.cell? ⟨w4.heap.size, 1, none⟩ = some (.int .i64 q) ∧ Below w.heap.size w w') (first | (refine ⟨?_, ?_, ?_, ?_, ?_, ?_, HB7.out.drew⟩ <;> assumption) | (have hh := ‹_ ∧ _ ∧ _ ∧ _ ∧ _ ∧ _ ∧ Below _ _ _›; exact ⟨V.ck hh.1 hb, V.ck hh.2.1 hb, V.ck hh.2.2.1 hb, V.ck hh.2.2.2.1 hb, V.ck hh.2.2.2.2.1 hb, V.ck hh.2.2.2.2.2.1 hb, V.bnext hh.2.2.2.2.2.2 hb⟩)) (first | (go_at_call 59; refine (V.isRatio _ _ _).mono ?_; rintro e wx ⟨rfl, hb⟩) | (go_at_call 60; refine (V.sIsRatio _ _ _).mono ?_; rintro e wx ⟨rfl, hb⟩))
    clear hwr
    go_wp2_with fail
    · have hz : (M.mkRat x y).2.2 = 0 := by assumption
      obtain ⟨hr, hmul, q1, q2⟩ := M.mk_back hz
      have p1 : -1000000000000 ≤ (M.mkRat x y).1 * y := by rw [hmul]; exact q1
      have p2 : (M.mkRat x y).1 * y ≤ 1000000000000 := by rw [hmul]; exact q2
      have heq : ((M.mkRat x y).1 * y == x * (M.mkRat x y).2.1) = true := by rw [hmul]; simp
      have hh := ‹_ ∧ _ ∧ _ ∧ _ ∧ _ ∧ _ ∧ Below _ _ _›
      obtain ⟨g0, g1, -, -, -, -, hbx⟩ := hh
      have HBX := Lib.hid hbx
      clear hmul hbx c0 c1 d0 d1 f0 f1
      refine (V.isRatio _ _ _).mono ?_
      rintro e wy ⟨rfl, hb8⟩
      have g0' := V.ck g0 hb8
      have g1' := V.ck g1 hb8
      have HBY := Lib.hid (V.bnext HBX.out hb8)
      clear hb8 g0 g1
      go_wp2
      go_ret
      exact ⟨rfl, HBY.out⟩
    · have hh := ‹_ ∧ _ ∧ _ ∧ _ ∧ _ ∧ _ ∧ Below _ _ _›
      go_ret
      exact ⟨rfl, hh.2.2.2.2.2.2⟩
end Go.Proofs.Ytfdckijililomaa.fnRatioOrder
