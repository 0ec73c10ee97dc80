/- Drawn ratios and fractions. -/
import Derived.Test.YtfdckijililomaaRows
import Derived.Test.YtfdckijililomaaMath1
import Derived.Test.YtfdckijililomaaHelp
import Derived.Test.YtfdckijililomaaRows1
import Derived.Test.YtfdckijililomaaDraw1
import Derived.Test.YtfdckijililomaaDraw2
import Derived.Test.YtfdckijililomaaDrawP
import Derived.Test.YtfdckijililomaaRat
import Derived.Test.YtfdckijililomaaRat2
import Derived.WalkKit
import Derived.ProofKit
import Derived.WalkSmall
import Derived.Deep.QuietTactic
import Derived.BigQuiet
import Derived.BigRegion
import Derived.Deep.Draws
import Derived.Lib.Hide
namespace Go.Proofs.Ytfdckijililomaa.V
open Go.RowKit

set_option maxRecDepth 100000 in
set_option maxHeartbeats 1000000 in
theorem drawMakeRatio (a : Option Addr) (n cap : Nat) (w : World) (h : Bytes w a n) :
    Calls Try.prog 57 #[.slice a n cap] w (PairPost w) := by
  have HB := Lib.hid h
  clear h
  go_enter Try.func57, Try.ntmps57
  go_wp2_with fail
  refine (from_ _ _ _ _ HB.out).mono ?_
  rintro e w1 ⟨rfl, hs1, hb1⟩
  have HS1 := Lib.hid hs1
  have HB1 := Lib.hid hb1
  clear hs1 hb1
  go_wp2_with fail
  refine (next _ _ _ (by decide) HS1.out).mono ?_
  rintro e w2 ⟨p, rfl, hp1, hp2, hs2, ht2⟩
  have HS2 := Lib.hid hs2
  have HB2 := Lib.hid (HB1.out.trans ht2.below)
  clear hs2 ht2 hp2
  by_cases h0 : p = 0
  · subst h0
    go_wp2_with fail
    refine (drawValue _ _ HS2.out).mono ?_
    rintro e w3 ⟨x, rfl, hx, hs3, ht3⟩
    have HS3 := Lib.hid hs3
    have HB3 := Lib.hid (HB2.out.trans ht3.below)
    clear hs3 ht3
    go_wp2_with fail
    refine (drawValue _ _ HS3.out).mono ?_
    rintro e w4 ⟨y, rfl, hy, hs4, ht4⟩
    have HB4 := Lib.hid (HB3.out.trans ht4.below)
    clear hs4 ht4
    go_wp2
    go_ret2
    exact ⟨x, y, rfl, hx, hy, HB4.out⟩
  · have h0' : (p == 0) = false := by simpa using h0
    clear h0
    go_wp2_with fail
    refine (next _ _ _ (by decide) HS2.out).mono ?_
    rintro e w3 ⟨k, rfl, hk1, hk2, hs3, ht3⟩
    have HS3 := Lib.hid hs3
    have HB3 := Lib.hid (HB2.out.trans ht3.below)
    have hk3 : k < 6 := by omega
    clear hs3 ht3 hk2
    go_wp2_with fail
    refine (next _ _ _ (by decide) HS3.out).mono ?_
    rintro e w4 ⟨x, rfl, hx1, hx2, hs4, ht4⟩
    have HS4 := Lib.hid hs4
    have HB4 := Lib.hid (HB3.out.trans ht4.below)
    have hx3 : x < 60 := by omega
    clear hs4 ht4 hx2
    obtain ⟨q1, q2⟩ := M.mul_bd (1 + k) (x - 30) (by omega) (by omega) (by omega) (by omega)
    go_wp2_with fail
    refine (next _ _ _ (by decide) HS4.out).mono ?_
    rintro e w5 ⟨y, rfl, hy1, hy2, hs5, ht5⟩
    have HB5 := Lib.hid (HB4.out.trans ht5.below)
    have hy3 : y < 21 := by omega
    clear hs5 ht5 hy2
    obtain ⟨r1, r2⟩ := M.mul_bd (1 + k) (y - 10) (by omega) (by omega) (by omega) (by omega)
    go_wp2
    go_ret2
    exact ⟨_, _, rfl, wf_small _ (by omega) (by omega), wf_small _ (by omega) (by omega), HB5.out⟩

theorem Thr.setNew {g : Nat} {a b : World} (h : Thr g a b) {p : Addr} (hp : a.heap.size ≤ p.block) (hg : g ≤ p.block) (v : Value) : Thr g a (b.setCell p v) :=
  ⟨h.below.setCell hg v, fun k h1 h2 => (Below.heap_setCell _ _ _ _ (by omega)).trans (h.other k h1 h2)⟩
theorem Src.setNew {w : World} {g : Nat} (h : Src w g) {p : Addr} (hg : g < p.block) (v : Value) : Src (w.setCell p v) g := h.below ((Below.refl _ _).setCell hg v)

/-- A drawn ratio: two integers. -/
def RatPost (g : Nat) (w : World) (e : Ending) (w' : World) : Prop :=
  ∃ x y : Int, e = .returned (.agg #[.int .i64 x, .int .i64 y]) ∧ (Lit.int .i64 x).wf = true ∧ (Lit.int .i64 y).wf = true ∧ Src w' g ∧ Thr g w w'

set_option maxRecDepth 100000 in
set_option maxHeartbeats 1000000 in
theorem drawRatio (g : Nat) (w : World) (h : Src w g) :
    Calls Try.prog 118 #[.pointer (some ⟨g, 0, none⟩)] w (RatPost g w) := by
  have HS := Lib.hid h
  have hg := h.lt
  clear h
  go_enter Try.func118, Try.ntmps118
  go_wp2_with fail
  refine (next _ _ _ (by decide) (HS.out.alloc _)).mono ?_
  rintro e w1 ⟨p, rfl, hp1, hp2, hs1, ht1⟩
  have hb1 : w.heap.size < w1.heap.size := by have := ht1.below.size; simp at this; omega
  have f1 : w1.rowIs w.heap.size 27 2 (fun _ => .int .i64 0) := by
    refine (World.rowIs_alloc w #[.int .i64 0, .int .i64 0] 27 (fun _ => .int .i64 0) ?_).of_block (ht1.other _ hg (by simp))
    intro i hi
    match i, hi with
    | 0, _ => rfl
    | 1, _ => rfl
  have HS1 := Lib.hid hs1
  have HT1 := Lib.hid (((Thr.refl g w).alloc (Nat.le_of_lt hg) _).trans ht1)
  have HF1 := Lib.hid f1
  have hp3 : p < 80 := by omega
  clear ht1 hs1 f1 hp2
  go_wp2_with fail
  refine (next _ _ _ (by decide) HS1.out).mono ?_
  rintro e w2 ⟨q, rfl, hq1, hq2, hs2, ht2⟩
  have hb2 : w.heap.size < w2.heap.size := by have := ht2.below.size; omega
  have HS2 := Lib.hid hs2
  have HT2 := Lib.hid (HT1.out.trans ht2)
  have HF2 := Lib.hid (HF1.out.of_block (ht2.other _ hg hb1))
  have hq3 : q < 9 := by omega
  clear ht2 hs2 hq2
  go_wp2_with fail
  refine (sRatio _ _ _ (by omega) (by omega) (by omega) (by omega) (by omega)).mono ?_
  rintro e w3 ⟨rfl, hb3⟩
  obtain ⟨rn, hrn⟩ : ∃ x, x = M.ratN (p - 40) (1 + q) := ⟨_, rfl⟩
  obtain ⟨rd, hrd⟩ : ∃ x, x = M.ratD (p - 40) (1 + q) := ⟨_, rfl⟩
  have en := M.tdiv_bd (if 1 + q < 0 then -(p - 40) else p - 40) (Int.gcd (p - 40) (1 + q)) (by split <;> omega) (by split <;> omega)
  have ed := M.tdiv_bd (if 1 + q < 0 then -(1 + q) else 1 + q) (Int.gcd (p - 40) (1 + q)) (by split <;> omega) (by split <;> omega)
  have hn' : -1000000 ≤ rn ∧ rn ≤ 1000000 := by rw [hrn]; exact en
  have hd' : -1000000 ≤ rd ∧ rd ≤ 1000000 := by rw [hrd]; exact ed
  clear en ed
  obtain ⟨n1, n2⟩ := hn'
  obtain ⟨d1, d2⟩ := hd'
  rw [← hrn, ← hrd]
  clear hrn hrd
  have hb3' : w.heap.size < w3.heap.size := by have := hb3.size; omega
  have hg3 : g < w3.heap.size := by omega
  have HS3 := Lib.hid ((HS2.out.below (hb3.mono (by omega))).alloc (.cells #[.int .i64 rn, .int .i64 rd] 27))
  have HT3 := Lib.hid ((HT2.out.trans ⟨hb3.mono (by omega), fun k _ h2 => hb3.block k h2⟩).alloc (Nat.le_of_lt hg3) (.cells #[.int .i64 rn, .int .i64 rd] 27))
  have HF3 := Lib.hid ((HF2.out.of_block (hb3.block _ hb2)).alloc (.cells #[.int .i64 rn, .int .i64 rd] 27))
  have HR3 := Lib.hid (World.rowIs_alloc w3 #[.int .i64 rn, .int .i64 rd] 27 (fun i => if i = 0 then .int .i64 rn else .int .i64 rd) (by
    intro i hi
    match i, hi with
    | 0, _ => rfl
    | 1, _ => rfl))
  clear hb3 HT1 HT2 HF1 HF2 HS1 HS2
  go_wp2_with fail
  refine (next _ _ _ (by decide) HS3.out).mono ?_
  rintro e w4 ⟨k, rfl, hk1, hk2, hs4, ht4⟩
  have hb4 : w3.heap.size < w4.heap.size := by have := ht4.below.size; simp at this; omega
  have HS4 := Lib.hid hs4
  have HT4 := Lib.hid (HT3.out.trans ht4)
  have hF4 := HF3.out.of_block (ht4.other _ hg (by simp; omega))
  have hR4 := HR3.out.of_block (ht4.other _ hg3 (by simp))
  have c0 : w4.cell? ⟨w3.heap.size, 0, none⟩ = some (.int .i64 rn) := hR4.cell (i := 0) (by simp)
  have c1 : w4.cell? ⟨w3.heap.size, 1, none⟩ = some (.int .i64 rd) := hR4.cell (i := 1) (by simp)
  have r0 : w4.cell? ⟨w.heap.size, 0, none⟩ = some (.int .i64 0) := hF4.cell (i := 0) (by omega)
  have r1 : w4.cell? ⟨w.heap.size, 1, none⟩ = some (.int .i64 0) := hF4.cell (i := 1) (by omega)
  have z0 := hF4.frozen 0
  have z1 := hF4.frozen 1
  have HF4 := Lib.hid hF4
  clear ht4 hs4 hk2 hF4 hR4 HS3 HT3 HF3 HR3
  by_cases h0 : k = 0
  · subst h0
    go_wp2
    exact bodyPost_ret (v := .agg #[.int .i64 (2 * rn), .int .i64 (2 * rd)]) (by simp [results, Try.results118, go_sem, r0, r1]) rfl
      ⟨_, _, rfl, wf_small _ (by omega) (by omega), wf_small _ (by omega) (by omega), (HS4.out.setNew hg _).setNew hg _, (HT4.out.setNew (Nat.le_refl _) (Nat.le_of_lt hg) _).setNew (Nat.le_refl _) (Nat.le_of_lt hg) _⟩
  · have e0 : (k == 0) = false := by simpa using h0
    clear h0
    by_cases h1 : k = 1
    · subst h1
      go_wp2_with fail
      refine (pick _ _ 0 3 3 _ (HS4.out.alloc _) (by omega) (by omega) HS4.out.lt (litCells _ [1000000, 1000001, -1000000] _ _ rfl (by decide))).mono ?_
      rintro e w5 ⟨x, rfl, hx, hs5, ht5⟩
      have hb5 : w4.heap.size < w5.heap.size := by have := ht5.below.size; simp at this; omega
      have HS5 := Lib.hid hs5
      have HT5 := Lib.hid ((HT4.out.alloc (by omega) _).trans ht5)
      have HF5 := Lib.hid ((HF4.out.alloc _).of_block (ht5.other _ hg (by simp; omega)))
      clear hs5 ht5
      go_wp2_with fail
      refine (pick _ _ 0 4 4 _ (HS5.out.alloc _) (by omega) (by omega) HS5.out.lt (litCells _ [1, 1000000, 0, -1] _ _ rfl (by decide))).mono ?_
      rintro e w6 ⟨y, rfl, hy, hs6, ht6⟩
      have HS6 := Lib.hid hs6
      have HT6 := Lib.hid ((HT5.out.alloc (by omega) _).trans ht6)
      have hF6 := (HF5.out.alloc _).of_block (ht6.other _ hg (by simp; omega))
      have s0 : w6.cell? ⟨w.heap.size, 0, none⟩ = some (.int .i64 0) := hF6.cell (i := 0) (by omega)
      have s1 : w6.cell? ⟨w.heap.size, 1, none⟩ = some (.int .i64 0) := hF6.cell (i := 1) (by omega)
      have y0 := hF6.frozen 0
      have y1 := hF6.frozen 1
      clear hs6 ht6 hF6
      go_wp2
      exact bodyPost_ret (v := .agg #[.int .i64 x, .int .i64 y]) (by simp [results, Try.results118, go_sem, s0, s1]) rfl
        ⟨_, _, rfl, hx, hy, (HS6.out.setNew hg _).setNew hg _, (HT6.out.setNew (Nat.le_refl _) (Nat.le_of_lt hg) _).setNew (Nat.le_refl _) (Nat.le_of_lt hg) _⟩
    · have e1 : (k == 1) = false := by simpa using h1
      clear h1
      go_wp2
      exact bodyPost_ret (v := .agg #[.int .i64 rn, .int .i64 rd]) (by simp [results, Try.results118, go_sem, r0, r1]) rfl
        ⟨_, _, rfl, wf_small _ (by omega) (by omega), wf_small _ (by omega) (by omega), (HS4.out.setNew hg _).setNew hg _, (HT4.out.setNew (Nat.le_refl _) (Nat.le_of_lt hg) _).setNew (Nat.le_refl _) (Nat.le_of_lt hg) _⟩

end Go.Proofs.Ytfdckijililomaa.V
