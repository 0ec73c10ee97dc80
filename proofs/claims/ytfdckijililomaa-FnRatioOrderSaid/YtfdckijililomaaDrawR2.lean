/- Two drawn ratios. -/
import Derived.Test.YtfdckijililomaaRows
import Derived.Test.YtfdckijililomaaMath1
import Derived.Test.YtfdckijililomaaHelp
import Derived.Test.YtfdckijililomaaRows1
import Derived.Test.YtfdckijililomaaDraw1
import Derived.Test.YtfdckijililomaaDraw2
import Derived.Test.YtfdckijililomaaDrawP
import Derived.Test.YtfdckijililomaaRat
import Derived.Test.YtfdckijililomaaRat2
import Derived.Test.YtfdckijililomaaDrawR
import Derived.WalkKit
import Derived.ProofKit
import Derived.WalkSmall
import Derived.Deep.QuietTactic
import Derived.BigQuiet
import Derived.Deep.RegionWith
import Derived.BigRegion
import Derived.Deep.Draws
import Derived.Lib.Hide
namespace Go.Proofs.Ytfdckijililomaa.V
open Go.RowKit

/-- Two drawn ratios. -/
def RatsPost (w : World) (e : Ending) (w' : World) : Prop :=
  ∃ x y z u : Int, e = .returned (.tuple #[.agg #[.int .i64 x, .int .i64 y], .agg #[.int .i64 z, .int .i64 u]]) ∧ (Lit.int .i64 x).wf = true ∧ (Lit.int .i64 y).wf = true ∧ (Lit.int .i64 z).wf = true ∧ (Lit.int .i64 u).wf = true ∧ Below w.heap.size w w'

theorem zero_row (w : World) (T : Nat) : (w.alloc (.cells #[.int .i64 0, .int .i64 0] T)).rowIs w.heap.size T 2 (fun _ => .int .i64 0) :=
  World.rowIs_alloc w _ _ _ (fun i hi => by
    match i, hi with
    | 0, _ => rfl
    | 1, _ => rfl)
theorem pair_row (w : World) (T : Nat) (x y : Int) : (w.alloc (.cells #[.int .i64 x, .int .i64 y] T)).rowIs w.heap.size T 2 (fun i => if i = 0 then .int .i64 x else .int .i64 y) :=
  World.rowIs_alloc w _ _ _ (fun i hi => by
    match i, hi with
    | 0, _ => rfl
    | 1, _ => rfl)

set_option maxRecDepth 100000 in
set_option maxHeartbeats 1000000 in
theorem drawCompareRatios (a : Option Addr) (n cap : Nat) (w : World) (h : Bytes w a n) :
    Calls Try.prog 58 #[.slice a n cap] w (RatsPost w) := by
  have HB := Lib.hid h
  clear h
  have hA := (zero_row w 27).alloc (.cells #[.int .i64 0, .int .i64 0] 27)
  have hC := zero_row (w.alloc (.cells #[.int .i64 0, .int .i64 0] 27)) 27
  have HA := Lib.hid hA
  have HC := Lib.hid hC
  clear hA hC
  have hz := b_alloc2 w (.cells #[.int .i64 0, .int .i64 0] 27) (.cells #[.int .i64 0, .int .i64 0] 27)
  have HZ := Lib.hid hz
  clear hz
  go_enter Try.func58, Try.ntmps58
  go_wp2_with fail
  refine (from_ _ _ _ _ (by exact HB.out.below HZ.out)).mono ?_
  rintro e w1 ⟨rfl, hs1, hb1⟩
  simp only [World.size_alloc] at hs1
  have hA1 := HA.out.of_block (hb1.block _ (by simp; omega))
  have hC1 := HC.out.of_block (hb1.block _ (by simp))
  simp only [World.size_alloc] at hC1
  have HS1 := Lib.hid hs1
  have HB1 := Lib.hid (bnext HZ.out hb1)
  have HA1 := Lib.hid hA1
  have HC1 := Lib.hid hC1
  have l1 : w.heap.size + 1 + 1 < w1.heap.size := hs1.lt
  clear hs1 hb1 HA HC HZ hA1 hC1
  go_wp2_with fail
  refine (drawRatio _ _ HS1.out).mono ?_
  rintro e w2 ⟨x, y, rfl, hx, hy, hs2, ht2⟩
  have l2 : w.heap.size + 1 + 1 < w2.heap.size := by have := ht2.below.size; omega
  have HS2 := Lib.hid (hs2.alloc (.cells #[.int .i64 x, .int .i64 y] 27))
  have HB2 := Lib.hid (((HB1.out.trans (ht2.below.mono (by omega)))).alloc (by omega) (.cells #[.int .i64 x, .int .i64 y] 27))
  have HA2 := Lib.hid ((HA1.out.of_block (ht2.below.block _ (by omega))).alloc (.cells #[.int .i64 x, .int .i64 y] 27))
  have HC2 := Lib.hid ((HC1.out.of_block (ht2.below.block _ (by omega))).alloc (.cells #[.int .i64 x, .int .i64 y] 27))
  have HR2 := Lib.hid (pair_row w2 27 x y)
  clear hs2 ht2 HS1 HB1 HA1 HC1
  go_wp2_with fail
  refine (next _ _ _ (by decide) HS2.out).mono ?_
  rintro e w3 ⟨k, rfl, hk1, hk2, hs3, ht3⟩
  have l3 : w2.heap.size < w3.heap.size := by have := ht3.below.size; simp at this; omega
  have hR3 := HR2.out.of_block (ht3.other _ l2 (by simp))
  have hA3 := HA2.out.of_block (ht3.below.block _ (by omega))
  have hC3 := HC2.out.of_block (ht3.below.block _ (by omega))
  have HS3 := Lib.hid hs3
  have HB3 := Lib.hid (HB2.out.trans (ht3.below.mono (by omega)))
  have c0 : w3.cell? ⟨w2.heap.size, 0, none⟩ = some (.int .i64 x) := hR3.cell (i := 0) (by omega)
  have c1 : w3.cell? ⟨w2.heap.size, 1, none⟩ = some (.int .i64 y) := hR3.cell (i := 1) (by omega)
  have r0 : w3.cell? ⟨w.heap.size, 0, none⟩ = some (.int .i64 0) := hA3.cell (i := 0) (by omega)
  have r1 : w3.cell? ⟨w.heap.size, 1, none⟩ = some (.int .i64 0) := hA3.cell (i := 1) (by omega)
  have z0 := hA3.frozen 0
  have z1 := hA3.frozen 1
  have s0 : w3.cell? ⟨w.heap.size + 1, 0, none⟩ = some (.int .i64 0) := hC3.cell (i := 0) (by omega)
  have s1 : w3.cell? ⟨w.heap.size + 1, 1, none⟩ = some (.int .i64 0) := hC3.cell (i := 1) (by omega)
  have y0 := hC3.frozen 0
  have y1 := hC3.frozen 1
  clear hs3 hk2 hR3 hA3 hC3 HS2 HB2 HA2 HC2 HR2
  by_cases h0 : k = 0
  · subst h0
    clear ht3
    go_wp2
    go_region
    go_wp2
    exact bodyPost_ret (v := .tuple #[.agg #[.int .i64 x, .int .i64 y], .agg #[.int .i64 x, .int .i64 y]]) (by simp [results, Try.results58, go_sem, r0, r1, s0, s1]) rfl
      ⟨_, _, _, _, rfl, hx, hy, hx, hy, ((((HB3.out.setCell (by simp) _).setCell (by simp) _).setCell (by simp) _).setCell (by simp) _).drew⟩
  · have e0 : (k == 0) = false := by simpa using h0
    clear h0
    have HT3 := Lib.hid ht3
    clear ht3
    go_wp2
    go_region_with (first | (go_at_call 118; refine (drawRatio _ _ (by exact HS3.out)).mono ?_; rintro e w4 ⟨z, u, rfl, hz, hu, hs4, ht4⟩; have d0 : w4.cell? ⟨w2.heap.size, 0, none⟩ = some (.int .i64 x) := (by rw [ht4.cell (p := ⟨w2.heap.size, 0, none⟩) (by simpa using l3) (by show w2.heap.size ≠ _; omega)]; exact c0); have d1 : w4.cell? ⟨w2.heap.size, 1, none⟩ = some (.int .i64 y) := (by rw [ht4.cell (p := ⟨w2.heap.size, 1, none⟩) (by simpa using l3) (by show w2.heap.size ≠ _; omega)]; exact c1); have p0 : w4.cell? ⟨w.heap.size, 0, none⟩ = some (.int .i64 0) := (by rw [ht4.below.cell (p := ⟨w.heap.size, 0, none⟩) (by show w.heap.size < w.heap.size + 1 + 1; omega)]; exact r0); have p1 : w4.cell? ⟨w.heap.size, 1, none⟩ = some (.int .i64 0) := (by rw [ht4.below.cell (p := ⟨w.heap.size, 1, none⟩) (by show w.heap.size < w.heap.size + 1 + 1; omega)]; exact r1); have q0 : w4.cell? ⟨w.heap.size + 1, 0, none⟩ = some (.int .i64 0) := (by rw [ht4.below.cell (p := ⟨w.heap.size + 1, 0, none⟩) (by show w.heap.size + 1 < w.heap.size + 1 + 1; omega)]; exact s0); have q1 : w4.cell? ⟨w.heap.size + 1, 1, none⟩ = some (.int .i64 0) := (by rw [ht4.below.cell (p := ⟨w.heap.size + 1, 1, none⟩) (by show w.heap.size + 1 < w.heap.size + 1 + 1; omega)]; exact s1); have v0 : w4.frozen? ⟨w.heap.size, 0, none⟩ = false := (by rw [ht4.below.frozen (p := ⟨w.heap.size, 0, none⟩) (by show w.heap.size < w.heap.size + 1 + 1; omega)]; exact z0); have v1 : w4.frozen? ⟨w.heap.size, 1, none⟩ = false := (by rw [ht4.below.frozen (p := ⟨w.heap.size, 1, none⟩) (by show w.heap.size < w.heap.size + 1 + 1; omega)]; exact z1); have u0 : w4.frozen? ⟨w.heap.size + 1, 0, none⟩ = false := (by rw [ht4.below.frozen (p := ⟨w.heap.size + 1, 0, none⟩) (by show w.heap.size + 1 < w.heap.size + 1 + 1; omega)]; exact y0); have u1 : w4.frozen? ⟨w.heap.size + 1, 1, none⟩ = false := (by rw [ht4.below.frozen (p := ⟨w.heap.size + 1, 1, none⟩) (by show w.heap.size + 1 < w.heap.size + 1 + 1; omega)]; exact y1); have HB4 := Lib.hid (HB3.out.drew.trans (ht4.below.mono (by omega))); clear hs4 ht4))
    all_goals
      go_wp2
      exact bodyPost_ret (v := .tuple #[.agg #[.int .i64 x, .int .i64 y], .agg #[.int .i64 z, .int .i64 u]]) (by simp [results, Try.results58, go_sem, p0, p1, q0, q1]) rfl
        ⟨_, _, _, _, rfl, hx, hy, hz, hu, ((((HB4.out.setCell (by simp) _).setCell (by simp) _).setCell (by simp) _).setCell (by simp) _)⟩
end Go.Proofs.Ytfdckijililomaa.V
