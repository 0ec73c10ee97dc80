/- Texts laid together: Dr4, DrawR, Drp, Drq, Drs, Dr5, Thn, Like. -/
import Derived.Test.YtcofjjipjcekjaaGreatQy13
import Derived.Test.YtcofjjipjcekjaaGreatRows
import Derived.Test.YtcofjjipjcekjaaGreatQy1
import Derived.Test.YtcofjjipjcekjaaGreatQy2
import Derived.Test.YtcofjjipjcekjaaGreatQy12
import Derived.Test.YtcofjjipjcekjaaGreatQy5
import Derived.WalkKit
import Derived.ProofKit
import Derived.WalkSmall
import Derived.Deep.QuietTactic
import Derived.BigQuiet
import Derived.BigRegion
import Derived.Deep.Draws
import Derived.Lib.Hide
import Derived.Test.YtcofjjipjcekjaaGreatQy10
import Derived.Test.YtcofjjipjcekjaaGreatQy6
import Derived.Deep.WholeRow
import Derived.Test.YtcofjjipjcekjaaGreatQy11
import Derived.OpenShut
import Derived.Deep.OwnRows
set_option linter.unusedSimpArgs false
set_option linter.unusedVariables false
set_option linter.unusedSectionVars false
namespace Go.Proofs.YtcofjjipjcekjaaGreat.V
set_option maxRecDepth 100000
open Go.RowKit
theorem ownM_two (w : World) (B : Nat) (hB : B ≤ w.heap.size) {v1 v2 : Value} {l1 l2 : List Int} (h1 : Own w B v1 l1) (h2 : Own w B v2 l2) (hne : ∀ k, v1.ownBlock = some k → v2.ownBlock ≠ some k) :
    OwnM (w.alloc (.cells #[v1, v2] 26)) B (.slice (some ⟨w.heap.size, 0, none⟩) 2 2) [l1, l2] := by
  have lt1 : ∀ k, v1.ownBlock = some k → k < w.heap.size := fun k hk => (own_lt h1 hk).2
  have lt2 : ∀ k, v2.ownBlock = some k → k < w.heap.size := fun k hk => (own_lt h2 hk).2
  refine ⟨[v1, v2], rfl, World.ownsRow_lit w #[v1, v2] 2 hB (by decide) rfl, fun i hi => ?_, fun i hi k hk => ?_, fun i j hi hj hij k hk => ?_⟩
  · have : i = 0 ∨ i = 1 := by simp at hi; omega
    rcases this with rfl | rfl
    · exact h1.below (b_alloc w _)
    · exact h2.below (b_alloc w _)
  · have hk2 : k < w.heap.size := by
      have : i = 0 ∨ i = 1 := by simp at hi; omega
      rcases this with rfl | rfl
      · exact lt1 k hk
      · exact lt2 k hk
    intro e
    simp only [Value.ownBlock, Option.some.injEq] at e
    omega
  · have hi' : i = 0 ∨ i = 1 := by simp at hi; omega
    have hj' : j = 0 ∨ j = 1 := by simp at hj; omega
    rcases hi' with rfl | rfl <;> rcases hj' with rfl | rfl
    · omega
    · exact hne k hk
    · intro e; exact hne k e hk
    · omega
theorem ownLit2D (w : World) (B : Nat) (hB : B ≤ w.heap.size) (x y : Int) : Own (w.alloc (.cells #[.int .i64 x, .int .i64 y] 2)) B (.slice (some ⟨w.heap.size, 0, none⟩) 2 2) [x, y] := World.ownsRow_lit w #[.int .i64 x, .int .i64 y] 2 hB (by decide) rfl
set_option maxRecDepth 100000 in
set_option maxHeartbeats 2000000 in
theorem draw4 (g : Nat) (w : World) (h : Src w g) : Calls Tryz.prog 21 #[.pointer (some ⟨g, 0, none⟩)] w (DrawMB g w) := by
  have HS := Lib.hid h
  have hgl := h.lt
  clear h
  go_enter Tryz.func21, Tryz.ntmps21
  go_wp2_with fail
  refine (drawSquareB g _ HS.out).mono ?_
  rintro e w2 ⟨a2, n2, c2, R, rfl, hn2, ho, hs2, ht2⟩
  have HO2 := Lib.hid ho
  have HS2 := Lib.hid hs2
  have HT2 := Lib.hid ht2
  clear ho hs2 ht2
  go_wp2_with fail
  refine (next g 30 _ (by decide) HS2.out).mono ?_
  rintro e w3 ⟨x, rfl, -, -, hs3, ht3⟩
  have HO3 := Lib.hid (HO2.out.thr ht3 hgl)
  have HS3 := Lib.hid hs3
  have HT3 := Lib.hid (HT2.out.trans ht3)
  clear hs3 ht3 HO2 HS2 HT2
  by_cases hx0 : x = 0
  · subst hx0
    have hg3 := HS3.out.lt
    go_wp2_with fail
    refine (pick g _ 0 2 2 _ (HS3.out.alloc _) (by omega) (by omega) hg3 (litCells _ [1000000, 999983] _ _ rfl (by decide))).mono ?_
    rintro e w4 ⟨p1, rfl, -, hs4, ht4⟩
    have HS4 := Lib.hid hs4
    have HT4 := Lib.hid ((HT3.out.alloc (by omega) _).trans ht4)
    have hg4 := hs4.lt
    clear hs4 ht4
    have hg0 : g < w.heap.size := hgl
    have hz4 : w.heap.size ≤ w4.heap.size := HT4.out.below.size
    obtain ⟨wr, hwr⟩ : ∃ x, x = w4.alloc (.cells #[.int .i64 (-1000000000000000), .int .i64 p1] 2) := ⟨_, rfl⟩
    have HR1 : Hid (Own wr w.heap.size (.slice (some ⟨w4.heap.size, 0, none⟩) 2 2) [-1000000000000000, p1]) := by show Own _ _ _ _; rw [hwr]; exact ownLit2D _ _ hz4 _ _
    have HSr : Hid (Src wr g) := by show Src _ _; rw [hwr]; exact HS4.out.alloc _
    have HTr : Hid (Thr g w wr) := by show Thr _ _ _; rw [hwr]; exact HT4.out.alloc (by omega) _
    have hzr : wr.heap.size = w4.heap.size + 1 := by rw [hwr]; simp
    have hlit := litCells wr [1000000, -7] #[.int .i64 1000000, .int .i64 (-7)] 2 rfl (by decide)
    rw [hzr] at hlit
    have HLit := Lib.hid hlit
    have HZr := Lib.hid hzr
    clear hlit hzr
    go_wp2_with fail
    simp only [← hwr]
    clear hwr
    refine (pick g (w4.heap.size + 1) 0 2 2 _ (HSr.out.alloc _) (by omega) (by omega) (by omega) HLit.out).mono ?_
    rintro e w5 ⟨p2, rfl, -, hs5, ht5⟩
    have hzr := HZr.out
    have HS5 := Lib.hid hs5
    have ht5' : Thr g wr w5 := ((Thr.refl g wr).alloc (by omega) _).trans ht5
    have HT5 := Lib.hid (HTr.out.trans ht5')
    have HR5 := Lib.hid (HR1.out.thr ht5' hgl)
    have hz5 : w4.heap.size < w5.heap.size := by have := ht5'.below; have h2 := ht5.below.size; simp at h2; omega
    clear hs5 ht5 ht5' HR1 hzr
    have hz5b : w.heap.size ≤ w5.heap.size := by omega
    have hO := ownM_two (w5.alloc (.cells #[.int .i64 p2, .int .i64 (-1000000000000000)] 2)) w.heap.size (by simp; omega) (HR5.out.below (b_alloc _ _)) (ownLit2D w5 w.heap.size hz5b p2 (-1000000000000000)) (fun k hk e => by
      simp only [Value.ownBlock, Option.some.injEq] at hk e
      omega)
    have hzz : (w5.alloc (.cells #[.int .i64 p2, .int .i64 (-1000000000000000)] 2)).heap.size = w5.heap.size + 1 := by simp
    rw [hzz] at hO
    have HO := Lib.hid hO
    have HSf := Lib.hid ((HS5.out.alloc (.cells #[.int .i64 p2, .int .i64 (-1000000000000000)] 2)).alloc (.cells #[.slice (some ⟨w4.heap.size, 0, none⟩) 2 2, .slice (some ⟨w5.heap.size, 0, none⟩) 2 2] 26))
    have HTf := Lib.hid ((HT5.out.alloc (by omega) (.cells #[.int .i64 p2, .int .i64 (-1000000000000000)] 2)).alloc (by simp; omega) (.cells #[.slice (some ⟨w4.heap.size, 0, none⟩) 2 2, .slice (some ⟨w5.heap.size, 0, none⟩) 2 2] 26))
    clear hO hzz HR5
    go_wp2
    go_ret
    exact ⟨_, _, _, _, rfl, by omega, HO.out, HSf.out, HTf.out⟩
  · have ex : (x == 0) = false := by simpa using hx0
    go_wp2
    go_ret
    exact ⟨_, _, _, R, rfl, hn2, HO3.out, HS3.out, HT3.out⟩
/-- A drawn matrix, of few rows, and a drawn number. -/
def DrawNB (g : Nat) (w : World) (e : Ending) (w' : World) : Prop :=
  ∃ (a : Option Addr) (n cap : Nat) (R : List (List Int)) (x : Int), e = .returned (.tuple #[.slice a n cap, .int .i64 x]) ∧ n ≤ 200 ∧ OwnM w' w.heap.size (.slice a n cap) R ∧ Src w' g ∧ Thr g w w'
set_option maxRecDepth 100000 in
set_option maxHeartbeats 1000000 in
theorem drawEigenVector (a : Option Addr) (n cap : Nat) (w : World) (h : Bytes w a n) :
    Calls Tryz.prog 5 #[.slice a n cap] w (DrawnM w) := by
  have HB := Lib.hid h
  clear h
  go_enter Tryz.func5, Tryz.ntmps5
  go_wp2_with fail
  refine (from_ _ _ _ _ HB.out).mono ?_
  rintro e w1 ⟨rfl, hs1, hb1⟩
  have HS1 := Lib.hid hs1
  have HB1 := Lib.hid hb1
  clear hs1 hb1
  go_wp2_with fail
  refine (draw4 _ _ HS1.out).mono ?_
  rintro e w2 ⟨a2, n2, c2, R, rfl, -, ho, hs2, ht2⟩
  have HO := Lib.hid ho.mat
  have HB2 := Lib.hid (HB1.out.trans ht2.below)
  clear ho hs2 ht2
  go_wp2
  go_ret
  exact ⟨a2, n2, c2, R, rfl, HO.out, HB2.out⟩
end Go.Proofs.YtcofjjipjcekjaaGreat.V

namespace Go.Proofs.YtcofjjipjcekjaaGreat.V
open Go.RowKit

theorem Thr.setNew {g : Nat} {a b : World} (h : Thr g a b) {p : Addr} (hp : a.heap.size ≤ p.block) (hg : g ≤ p.block) (v : Value) : Thr g a (b.setCell p v) :=
  ⟨h.below.setCell hg v, fun k h1 h2 => (Below.heap_setCell _ _ _ _ (by omega)).trans (h.other k h1 h2)⟩
theorem Src.setNew {w : World} {g : Nat} (h : Src w g) {p : Addr} (hg : g < p.block) (v : Value) : Src (w.setCell p v) g := h.below ((Below.refl _ _).setCell hg v)

/-- A drawn ratio: two integers. -/
def RatPost (g : Nat) (w : World) (e : Ending) (w' : World) : Prop :=
  ∃ x y : Int, e = .returned (.agg #[.int .i64 x, .int .i64 y]) ∧ (Lit.int .i64 x).wf = true ∧ (Lit.int .i64 y).wf = true ∧ Src w' g ∧ Thr g w w'

set_option maxRecDepth 100000 in
set_option maxHeartbeats 1000000 in
theorem drawRatio (g : Nat) (w : World) (h : Src w g) :
    Calls Tryz.prog 70 #[.pointer (some ⟨g, 0, none⟩)] w (RatPost g w) := by
  have HS := Lib.hid h
  have hg := h.lt
  clear h
  go_enter Tryz.func70, Tryz.ntmps70
  go_wp2_with fail
  refine (next _ _ _ (by decide) (HS.out.alloc _)).mono ?_
  rintro e w1 ⟨p, rfl, hp1, hp2, hs1, ht1⟩
  have hb1 : w.heap.size < w1.heap.size := by have := ht1.below.size; simp at this; omega
  have f1 : w1.rowIs w.heap.size 28 2 (fun _ => .int .i64 0) := by
    refine (World.rowIs_alloc w #[.int .i64 0, .int .i64 0] 28 (fun _ => .int .i64 0) ?_).of_block (ht1.other _ hg (by simp))
    intro i hi
    match i, hi with
    | 0, _ => rfl
    | 1, _ => rfl
  have HS1 := Lib.hid hs1
  have HT1 := Lib.hid (((Thr.refl g w).alloc (Nat.le_of_lt hg) _).trans ht1)
  have HF1 := Lib.hid f1
  have hp3 : p < 80 := by omega
  clear ht1 hs1 f1 hp2
  go_wp2_with fail
  refine (next _ _ _ (by decide) HS1.out).mono ?_
  rintro e w2 ⟨q, rfl, hq1, hq2, hs2, ht2⟩
  have hb2 : w.heap.size < w2.heap.size := by have := ht2.below.size; omega
  have HS2 := Lib.hid hs2
  have HT2 := Lib.hid (HT1.out.trans ht2)
  have HF2 := Lib.hid (HF1.out.of_block (ht2.other _ hg hb1))
  have hq3 : q < 9 := by omega
  clear ht2 hs2 hq2
  go_wp2_with fail
  refine (sRatio _ _ _ (by omega) (by omega) (by omega) (by omega) (by omega)).mono ?_
  rintro e w3 ⟨rfl, hb3⟩
  obtain ⟨rn, hrn⟩ : ∃ x, x = M.ratN (p - 40) (1 + q) := ⟨_, rfl⟩
  obtain ⟨rd, hrd⟩ : ∃ x, x = M.ratD (p - 40) (1 + q) := ⟨_, rfl⟩
  have en := M.tdiv_bd (if 1 + q < 0 then -(p - 40) else p - 40) (Int.gcd (p - 40) (1 + q)) (by split <;> omega) (by split <;> omega)
  have ed := M.tdiv_bd (if 1 + q < 0 then -(1 + q) else 1 + q) (Int.gcd (p - 40) (1 + q)) (by split <;> omega) (by split <;> omega)
  have hn' : -1000000 ≤ rn ∧ rn ≤ 1000000 := by rw [hrn]; exact en
  have hd' : -1000000 ≤ rd ∧ rd ≤ 1000000 := by rw [hrd]; exact ed
  clear en ed
  obtain ⟨n1, n2⟩ := hn'
  obtain ⟨d1, d2⟩ := hd'
  rw [← hrn, ← hrd]
  clear hrn hrd
  have hb3' : w.heap.size < w3.heap.size := by have := hb3.size; omega
  have hg3 : g < w3.heap.size := by omega
  have HS3 := Lib.hid ((HS2.out.below (hb3.mono (by omega))).alloc (.cells #[.int .i64 rn, .int .i64 rd] 28))
  have HT3 := Lib.hid ((HT2.out.trans ⟨hb3.mono (by omega), fun k _ h2 => hb3.block k h2⟩).alloc (Nat.le_of_lt hg3) (.cells #[.int .i64 rn, .int .i64 rd] 28))
  have HF3 := Lib.hid ((HF2.out.of_block (hb3.block _ hb2)).alloc (.cells #[.int .i64 rn, .int .i64 rd] 28))
  have HR3 := Lib.hid (World.rowIs_alloc w3 #[.int .i64 rn, .int .i64 rd] 28 (fun i => if i = 0 then .int .i64 rn else .int .i64 rd) (by
    intro i hi
    match i, hi with
    | 0, _ => rfl
    | 1, _ => rfl))
  clear hb3 HT1 HT2 HF1 HF2 HS1 HS2
  go_wp2_with fail
  refine (next _ _ _ (by decide) HS3.out).mono ?_
  rintro e w4 ⟨k, rfl, hk1, hk2, hs4, ht4⟩
  have hb4 : w3.heap.size < w4.heap.size := by have := ht4.below.size; simp at this; omega
  have HS4 := Lib.hid hs4
  have HT4 := Lib.hid (HT3.out.trans ht4)
  have hF4 := HF3.out.of_block (ht4.other _ hg (by simp; omega))
  have hR4 := HR3.out.of_block (ht4.other _ hg3 (by simp))
  have c0 : w4.cell? ⟨w3.heap.size, 0, none⟩ = some (.int .i64 rn) := hR4.cell (i := 0) (by simp)
  have c1 : w4.cell? ⟨w3.heap.size, 1, none⟩ = some (.int .i64 rd) := hR4.cell (i := 1) (by simp)
  have r0 : w4.cell? ⟨w.heap.size, 0, none⟩ = some (.int .i64 0) := hF4.cell (i := 0) (by omega)
  have r1 : w4.cell? ⟨w.heap.size, 1, none⟩ = some (.int .i64 0) := hF4.cell (i := 1) (by omega)
  have z0 := hF4.frozen 0
  have z1 := hF4.frozen 1
  have HF4 := Lib.hid hF4
  clear ht4 hs4 hk2 hF4 hR4 HS3 HT3 HF3 HR3
  by_cases h0 : k = 0
  · subst h0
    go_wp2
    exact bodyPost_ret (v := .agg #[.int .i64 (2 * rn), .int .i64 (2 * rd)]) (by simp [results, Tryz.results70, go_sem, r0, r1]) rfl
      ⟨_, _, rfl, wf_small _ (by omega) (by omega), wf_small _ (by omega) (by omega), (HS4.out.setNew hg _).setNew hg _, (HT4.out.setNew (Nat.le_refl _) (Nat.le_of_lt hg) _).setNew (Nat.le_refl _) (Nat.le_of_lt hg) _⟩
  · have e0 : (k == 0) = false := by simpa using h0
    clear h0
    by_cases h1 : k = 1
    · subst h1
      go_wp2_with fail
      refine (pick _ _ 0 3 3 _ (HS4.out.alloc _) (by omega) (by omega) HS4.out.lt (litCells _ [1000000, 1000001, -1000000] _ _ rfl (by decide))).mono ?_
      rintro e w5 ⟨x, rfl, hx, hs5, ht5⟩
      have hb5 : w4.heap.size < w5.heap.size := by have := ht5.below.size; simp at this; omega
      have HS5 := Lib.hid hs5
      have HT5 := Lib.hid ((HT4.out.alloc (by omega) _).trans ht5)
      have HF5 := Lib.hid ((HF4.out.alloc _).of_block (ht5.other _ hg (by simp; omega)))
      clear hs5 ht5
      go_wp2_with fail
      refine (pick _ _ 0 4 4 _ (HS5.out.alloc _) (by omega) (by omega) HS5.out.lt (litCells _ [1, 1000000, 0, -1] _ _ rfl (by decide))).mono ?_
      rintro e w6 ⟨y, rfl, hy, hs6, ht6⟩
      have HS6 := Lib.hid hs6
      have HT6 := Lib.hid ((HT5.out.alloc (by omega) _).trans ht6)
      have hF6 := (HF5.out.alloc _).of_block (ht6.other _ hg (by simp; omega))
      have s0 : w6.cell? ⟨w.heap.size, 0, none⟩ = some (.int .i64 0) := hF6.cell (i := 0) (by omega)
      have s1 : w6.cell? ⟨w.heap.size, 1, none⟩ = some (.int .i64 0) := hF6.cell (i := 1) (by omega)
      have y0 := hF6.frozen 0
      have y1 := hF6.frozen 1
      clear hs6 ht6 hF6
      go_wp2
      exact bodyPost_ret (v := .agg #[.int .i64 x, .int .i64 y]) (by simp [results, Tryz.results70, go_sem, s0, s1]) rfl
        ⟨_, _, rfl, hx, hy, (HS6.out.setNew hg _).setNew hg _, (HT6.out.setNew (Nat.le_refl _) (Nat.le_of_lt hg) _).setNew (Nat.le_refl _) (Nat.le_of_lt hg) _⟩
    · have e1 : (k == 1) = false := by simpa using h1
      clear h1
      go_wp2
      exact bodyPost_ret (v := .agg #[.int .i64 rn, .int .i64 rd]) (by simp [results, Tryz.results70, go_sem, r0, r1]) rfl
        ⟨_, _, rfl, wf_small _ (by omega) (by omega), wf_small _ (by omega) (by omega), (HS4.out.setNew hg _).setNew hg _, (HT4.out.setNew (Nat.le_refl _) (Nat.le_of_lt hg) _).setNew (Nat.le_refl _) (Nat.le_of_lt hg) _⟩

end Go.Proofs.YtcofjjipjcekjaaGreat.V

namespace Go.Proofs.YtcofjjipjcekjaaGreat.V
set_option maxRecDepth 100000
open Go.RowKit
/-- A drawn matrix and a drawn ratio. -/
def DrawRB (g : Nat) (w : World) (e : Ending) (w' : World) : Prop :=
  ∃ (a : Option Addr) (n cap : Nat) (R : List (List Int)) (x y : Int), e = .returned (.tuple #[.slice a n cap, .agg #[.int .i64 x, .int .i64 y]]) ∧ n ≤ 200 ∧ OwnM w' w.heap.size (.slice a n cap) R ∧ Src w' g ∧ Thr g w w'
theorem mean_bd {R : List (List Int)} (h : (M.cycMeanRes R).2 = 0) : -1000000 ≤ (M.cycMeanRes R).1.1 ∧ (M.cycMeanRes R).1.1 ≤ 1000000 ∧ 1 ≤ (M.cycMeanRes R).1.2 ∧ (M.cycMeanRes R).1.2 ≤ 10 := by
  obtain ⟨h1, h2, h3, h4⟩ := M.cyc_t h
  obtain ⟨n1, n2, hA⟩ := M.sq_sm h1
  obtain ⟨⟨b1, -⟩, -, -, -, b2⟩ := M.bestR_best n2 hA h2
  rw [h4]
  have := M.isRat_t h3
  show -1000000 ≤ (M.bestR (M.ent R) R.length).1 ∧ (M.bestR (M.ent R) R.length).1 ≤ 1000000 ∧ 1 ≤ (M.bestR (M.ent R) R.length).2 ∧ (M.bestR (M.ent R) R.length).2 ≤ 10
  exact ⟨by omega, by omega, b1, b2⟩
theorem frz_box (w : World) (x y : Int) (i : Nat) : (w.alloc (rbox x y)).frozen? ⟨w.heap.size, i, none⟩ = false := by
  have hg : (w.alloc (rbox x y)).heap[w.heap.size]? = some (.cells #[.int .i64 x, .int .i64 y] 28 (0, 0)) := heap_alloc_last _ _
  unfold World.frozen?
  simp only [hg]
  simp
theorem box_thr {g : Nat} {w0 w w' : World} {x y : Int} (h : w = w0.alloc (rbox x y)) (hg : g < w0.heap.size) (ht : Thr g w w') :
    (w'.cell? ⟨w0.heap.size, 0, none⟩ = some (.int .i64 x) ∧ w'.cell? ⟨w0.heap.size, 1, none⟩ = some (.int .i64 y)) ∧ w'.frozen? ⟨w0.heap.size, 0, none⟩ = false ∧ w'.frozen? ⟨w0.heap.size, 1, none⟩ = false ∧ w0.heap.size < w'.heap.size := by
  subst h
  have hz := ht.below.size
  simp at hz
  refine ⟨⟨?_, ?_⟩, ?_, ?_, by omega⟩
  · rw [ht.cell (p := ⟨w0.heap.size, 0, none⟩) (by simp) (by show w0.heap.size ≠ g; omega)]; simp
  · rw [ht.cell (p := ⟨w0.heap.size, 1, none⟩) (by simp) (by show w0.heap.size ≠ g; omega)]; simp
  · rw [ht.frozen (p := ⟨w0.heap.size, 0, none⟩) (by simp) (by show g < w0.heap.size; omega)]; exact frz_box _ _ _ _
  · rw [ht.frozen (p := ⟨w0.heap.size, 1, none⟩) (by simp) (by show g < w0.heap.size; omega)]; exact frz_box _ _ _ _
end Go.Proofs.YtcofjjipjcekjaaGreat.V

namespace Go.Proofs.YtcofjjipjcekjaaGreat.V
set_option maxRecDepth 100000
open Go.RowKit
/-- A drawn matrix, a drawn ratio and a drawn list. -/
def DrawPR (g : Nat) (w : World) (e : Ending) (w' : World) : Prop :=
  ∃ (a : Option Addr) (n cap : Nat) (R : List (List Int)) (x y : Int) (b : Option Addr) (N c : Nat) (l : List Int), e = .returned (.tuple #[.slice a n cap, .agg #[.int .i64 x, .int .i64 y], .slice b N c]) ∧ n ≤ 200 ∧ OwnM w' w.heap.size (.slice a n cap) R ∧ Own w' w.heap.size (.slice b N c) l ∧ Src w' g ∧ Thr g w w'
theorem potRes_pos7 {R : List (List Int)} {a b : Int} (h : (M.potRes R a b).2 = 0) : 1 ≤ (M.potRes R a b).1.length ∧ (M.potRes R a b).1.length ≤ 10 := by
  unfold M.potRes at h ⊢
  by_cases h1 : (M.sqB R && M.isRat a b) = true
  · rw [if_pos h1] at h ⊢
    by_cases h2 : M.noPos (M.shf (M.ent R) a b) R.length = true
    · rw [if_pos h2] at h ⊢
      by_cases h3 : M.isVec (M.potL R a b) = true
      · rw [if_pos h3]
        exact ⟨(M.isVec_t h3).1, (M.isVec_t h3).2.1⟩
      · rw [if_neg h3] at h; simp at h
    · rw [if_neg h2] at h; simp at h
  · rw [if_neg h1] at h; simp at h
end Go.Proofs.YtcofjjipjcekjaaGreat.V

namespace Go.Proofs.YtcofjjipjcekjaaGreat.V
set_option maxRecDepth 100000
open Go.RowKit
/-- A drawn matrix and a drawn ratio. -/
def DrawnMR (w : World) (e : Ending) (w' : World) : Prop :=
  ∃ (a : Option Addr) (n cap : Nat) (R : List (List Int)) (x y : Int), e = .returned (.tuple #[.slice a n cap, .agg #[.int .i64 x, .int .i64 y]]) ∧ Mat w' a n R ∧ Below w.heap.size w w'
/-- A drawn matrix, a drawn ratio and a drawn list. -/
def DrawnMRV (w : World) (e : Ending) (w' : World) : Prop :=
  ∃ (a : Option Addr) (n cap : Nat) (R : List (List Int)) (x y : Int) (b : Option Addr) (N c : Nat) (l : List Int), e = .returned (.tuple #[.slice a n cap, .agg #[.int .i64 x, .int .i64 y], .slice b N c]) ∧ Mat w' a n R ∧ Ints .i64 w' b N l ∧ Below w.heap.size w w'
theorem box_bel {w0 w w' : World} {x y : Int} (h : w = w0.alloc (rbox x y)) (hb : Below w.heap.size w w') :
    (w'.cell? ⟨w0.heap.size, 0, none⟩ = some (.int .i64 x) ∧ w'.cell? ⟨w0.heap.size, 1, none⟩ = some (.int .i64 y)) ∧ w'.frozen? ⟨w0.heap.size, 0, none⟩ = false ∧ w'.frozen? ⟨w0.heap.size, 1, none⟩ = false ∧ w0.heap.size < w'.heap.size := by
  subst h
  have hz := hb.size
  simp at hz
  refine ⟨⟨?_, ?_⟩, ?_, ?_, by omega⟩
  · rw [hb.cell (p := ⟨w0.heap.size, 0, none⟩) (by simp)]; simp
  · rw [hb.cell (p := ⟨w0.heap.size, 1, none⟩) (by simp)]; simp
  · rw [hb.frozen (p := ⟨w0.heap.size, 0, none⟩) (by simp)]; exact frz_box _ _ _ _
  · rw [hb.frozen (p := ⟨w0.heap.size, 1, none⟩) (by simp)]; exact frz_box _ _ _ _
end Go.Proofs.YtcofjjipjcekjaaGreat.V

namespace Go.Proofs.YtcofjjipjcekjaaGreat.V
set_option maxRecDepth 100000
open Go.RowKit
theorem eig_pos5 {R : List (List Int)} (h : (M.eigRes R).2.2 = 0) : 1 ≤ (M.eigRes R).1.length ∧ (M.eigRes R).1.length ≤ 10 ∧ (∀ i, i < (M.eigRes R).1.length → M.isVal ((M.eigRes R).1.getD i 0) = true) ∧ -1000000 ≤ (M.eigRes R).2.1.1 ∧ (M.eigRes R).2.1.1 ≤ 1000000 := by
  unfold M.eigRes at h ⊢
  by_cases h1 : (M.cycMeanRes R).2 = 0
  · rw [if_pos h1] at h ⊢
    unfold M.eigOk at h ⊢
    by_cases h2 : M.isVec (M.eigL R) = true
    · rw [if_pos h2]
      have hb := mean_bd h1
      obtain ⟨-, -, -, h4⟩ := M.cyc_t h1
      rw [h4] at hb
      exact ⟨(M.isVec_t h2).1, (M.isVec_t h2).2.1, (M.isVec_t h2).2.2, hb.1, hb.2.1⟩
    · rw [if_neg h2] at h; simp at h
  · rw [if_neg h1] at h; exact absurd h h1
set_option maxRecDepth 100000 in
set_option maxHeartbeats 4000000 in
theorem drawStretchMatrix (a : Option Addr) (n cap : Nat) (w : World) (h : Bytes w a n) :
    Calls Tryz.prog 9 #[.slice a n cap] w (DrawnMI w) := by
  have HB := Lib.hid h
  clear h
  go_enter Tryz.func9, Tryz.ntmps9
  go_wp2_with fail
  refine (from_ _ _ _ _ HB.out).mono ?_
  rintro e w1 ⟨rfl, hs1, hb1⟩
  have HS1 := Lib.hid hs1
  have HB1 := Lib.hid hb1
  have hg1 := hs1.lt
  clear hs1 hb1
  go_wp2_with fail
  refine (draw4 _ _ HS1.out).mono ?_
  rintro e w2 ⟨a2, n2, c2, R, rfl, -, ho, hs2, ht2⟩
  have HO2 := Lib.hid ho
  have HS2 := Lib.hid hs2
  have HB2 := Lib.hid (HB1.out.trans ht2.below)
  clear ho hs2 ht2
  go_wp2_with fail
  refine (next _ 12 _ (by decide) HS2.out).mono ?_
  rintro e w3 ⟨x, rfl, hx1, hx2, hs3, ht3⟩
  have HO3 := Lib.hid (HO2.out.thr ht3 hg1)
  have HS3 := Lib.hid hs3
  have HB3 := Lib.hid (HB2.out.trans ht3.below)
  have hg3 := hs3.lt
  clear hs3 ht3 hx2 HO2 HS2 HB2
  by_cases hx0 : x = 0
  · subst hx0
    go_wp2_with fail
    refine (pick _ _ 0 4 4 _ (HS3.out.alloc _) (by omega) (by omega) hg3 (litCells _ [0, 1, 1000000, 1000001] _ _ rfl (by decide))).mono ?_
    rintro e w4 ⟨y, rfl, hy, hs4, ht4⟩
    have HO4 := Lib.hid ((HO3.out.keep (w' := w3.alloc _) (fun k _ h2 => Below.heap_alloc _ _ _ h2)).thr ht4 hg1).mat
    have HB4 := Lib.hid ((HB3.out.alloc HB3.out.size _).trans ht4.below)
    clear hs4 ht4 hy
    go_wp2
    go_ret2
    exact ⟨_, _, _, R, _, rfl, HO4.out, HB4.out⟩
  · have e0 : (x == 0) = false := by simpa using hx0
    go_wp2_with fail
    refine (next _ 9 _ (by decide) HS3.out).mono ?_
    rintro e w4 ⟨y, rfl, hy1, hy2, hs4, ht4⟩
    have HO4 := Lib.hid (HO3.out.thr ht4 hg1).mat
    have HB4 := Lib.hid (HB3.out.trans ht4.below)
    clear hs4 ht4
    go_wp2
    go_ret2
    exact ⟨_, _, _, R, _, rfl, HO4.out, HB4.out⟩
theorem own_stay5 {w w' : World} {B : Nat} {v : Value} {l : List Int} (h : Own w B v l) (hk : ∀ k, v.ownBlock = some k → w'.heap[k]? = w.heap[k]?) : Own w' B v l := by
  obtain ⟨h1, h2⟩ := h
  refine ⟨h1, ?_⟩
  rcases h2 with h2 | ⟨g, cap, cur, hv, hg, hh, r⟩
  · exact .inl h2
  · exact .inr ⟨g, cap, cur, hv, hg, (hk g (by rw [hv]; rfl)).trans hh, r⟩
set_option maxRecDepth 100000 in
set_option maxHeartbeats 4000000 in
theorem drawVector5 (g : Nat) (w0 : World) (h : Src w0 g) : Calls Tryz.prog 34 #[.pointer (some ⟨g, 0, none⟩)] w0 (DrawPR g w0) := by
  obtain ⟨w, hwd⟩ : ∃ w, w = w0.alloc (rbox 0 0) := ⟨_, rfl⟩
  have hgl := h.lt
  have hsz : w.heap.size = w0.heap.size + 1 := by rw [hwd]; simp
  have HS := Lib.hid (show Src w g by rw [hwd]; exact h.alloc _)
  have HT := Lib.hid (show Thr g w0 w by rw [hwd]; exact (Thr.refl g w0).alloc (by omega) _)
  have HSz := Lib.hid hsz
  have hgw : g < w.heap.size := by omega
  clear h hsz
  go_enter Tryz.func34, Tryz.ntmps34
  go_wp2_with fail
  change Calls _ _ _ (w0.alloc (rbox 0 0)) _
  rw [← hwd]
  have HWD := Lib.hid hwd
  clear hwd
  refine (draw4 g _ HS.out).mono ?_
  rintro e w1 ⟨a2, n2, c2, R, rfl, hn2, ho, hs2, ht2⟩
  have HO1 := Lib.hid ho
  have HS1 := Lib.hid hs2
  have HT1 := Lib.hid ht2
  have hz1 := ht2.below.size
  clear ho hs2 ht2
  obtain ⟨ev, hev⟩ : ∃ ev, ev = M.eigRes R := ⟨_, rfl⟩
  have hpp := eig_pos5 (R := R)
  rw [← hev] at hpp
  have HEV := Lib.hid hev
  clear hev
  obtain ⟨l, ⟨e1, e2⟩, d⟩ := ev
  go_wp2_with fail
  refine (sEigenVector _ _ _ R _ HO1.out.mat).mono ?_
  rintro e w2 ⟨xa, xn, xc, rfl, ho, hb⟩
  rw [← HEV.out] at ho ⊢
  have ho : Own w2 w1.heap.size (.slice xa xn xc) l := ho
  have hxl : xn = l.length := ho.len
  have hz2 := hb.size
  have hg1 := HS1.out.lt
  have ht2 : Thr g w1 w2 := Thr.of_below hb (by omega)
  have HO2 := Lib.hid (HO1.out.below hb)
  have HS2 := Lib.hid (HS1.out.below (hb.mono hg1))
  have HT2 := Lib.hid (HT1.out.trans ht2)
  have hw2z : w1.heap.size ≤ w2.heap.size := hb.size
  obtain ⟨w4, hw4⟩ : ∃ x, x = w2.alloc (rbox e1 e2) := ⟨_, rfl⟩
  have HW4 := Lib.hid hw4
  have HX2 := Lib.hid ho
  have HX4 : Hid (Own w4 w1.heap.size (.slice xa xn xc) l) := by show Own _ _ _ _; rw [hw4]; exact ho.below (b_alloc _ _)
  have HO4 : Hid (OwnM w4 w.heap.size (.slice a2 n2 c2) R) := by show OwnM _ _ _ _; rw [hw4]; exact HO2.out.below (b_alloc _ _)
  have HOC : Hid (OwnMC w1 w.heap.size w1.heap.size (.slice a2 n2 c2) R) := Lib.hid HO1.out.upto
  have HU4 : Hid (Thr g w1 w4) := by show Thr _ _ _; rw [hw4]; exact ht2.alloc (by omega) _
  have HS4 : Hid (Src w4 g) := by show Src _ _; rw [hw4]; exact HS2.out.alloc _
  have HV4 : Hid (Thr g w w4) := by show Thr _ _ _; rw [hw4]; exact HT2.out.alloc (by omega) _
  have hz4 : w4.heap.size = w2.heap.size + 1 := by rw [hw4]; simp
  clear ho hb ht2 HO2 HS2 HT2 HT1
  have hn2w : (Lit.int .i64 (n2 : Int)).wf = true := wf_small _ (by omega) (by omega)
  by_cases hd : d = 0
  · subst hd
    obtain ⟨q1, q2, q5, qe1, qe2⟩ := hpp rfl
    have qe1 : -1000000 ≤ e1 := qe1
    have qe2 : e1 ≤ 1000000 := qe2
    have q1 : 1 ≤ l.length := q1
    have q2 : l.length ≤ 10 := q2
    have q3 : 1 ≤ xn := by omega
    have q4 : xn ≤ 10 := by omega
    have hxw : (Lit.int .i64 (xn : Int)).wf = true := wf_small _ (by omega) (by omega)
    have HQ : Hid (∀ i, i < xn → Wid (l.getD i 0)) := Lib.hid (fun i hi => wid_val (q5 i (by omega)))
    have HXl := Lib.hid hxl
    have hfx : ∃ xg, xa = some ⟨xg, 0, none⟩ ∧ w1.heap.size ≤ xg ∧ xg < w2.heap.size := by
      obtain ⟨a', c', hv, -, -, hg⟩ := own_form HX2.out
      injection hv with e1 e2 e3
      obtain ⟨xg, hx1, hx2, hx3⟩ := hg (by first | (simp; omega) | omega)
      exact ⟨xg, e1.trans hx1, hx2, hx3⟩
    obtain ⟨xg, rfl, hxg1, hxg2⟩ := hfx
    clear hpp hxl q1 q2 q5
    go_wp2_with fail
    change Calls _ _ _ (w2.alloc (rbox e1 e2)) _
    rw [← hw4]
    clear hw4
    refine (next g 6 _ (by decide) HS4.out).mono ?_
    rintro e w5 ⟨x, rfl, -, -, hs5, ht5⟩
    have HO5 := Lib.hid (HO4.out.thr ht5 hgw)
    have HX5 := Lib.hid (HX4.out.thr ht5 (by omega))
    have HS5 := Lib.hid hs5
    have HV5 := Lib.hid (HV4.out.trans ht5)
    have HU5 := Lib.hid (HU4.out.trans ht5)
    have HZ5 := Lib.hid ht5
    clear hs5 ht5
    by_cases hx : x = 0
    · subst hx
      go_wp2_with fail
      refine (drawRatio g _ HS5.out).mono ?_
      rintro e wa ⟨x1, y1, rfl, hx1, hy1, hsa, hta⟩
      have HOa := Lib.hid (HO5.out.thr hta hgw)
      have HSa := Lib.hid hsa
      have HVa := Lib.hid (HV5.out.trans hta)
      clear hsa hta
      go_wp2_with fail
      refine (drawVector g n2 _ HSa.out (by omega)).mono ?_
      rintro e wb ⟨b, N, c, lv, rfl, hov, hsb, htb⟩
      have HOb := Lib.hid (HOa.out.thr htb hgw)
      have HXb : Hid (Own wb w.heap.size (.slice b N c) lv) := Lib.hid (hov.mono (by have := HVa.out.below.size; omega))
      have HSb := Lib.hid hsb
      have HVb := Lib.hid (HVa.out.trans htb)
      clear hov hsb htb
      obtain ⟨⟨r0, s1⟩, z0, z1, hlt⟩ := box_thr HWD.out hgl HVb.out
      have hTf : Thr g w0 wb := HT.out.trans HVb.out
      go_wp2
      exact bodyPost_ret (v := .tuple #[.slice a2 n2 c2, .agg #[.int .i64 x1, .int .i64 y1], .slice b N c]) (by simp [results, Tryz.results34, go_sem, r0, s1]) rfl
        ⟨_, _, _, R, _, _, _, _, _, lv, rfl, hn2, (HOb.out.keep (fun k h1 _ => (Below.heap_setCell _ _ _ _ (by have := HSz.out; show k ≠ w0.heap.size; omega)).trans (Below.heap_setCell _ _ _ _ (by have := HSz.out; show k ≠ w0.heap.size; omega)))).mono (by have := HSz.out; omega), (HXb.out.keep (fun k h1 _ => (Below.heap_setCell _ _ _ _ (by have := HSz.out; show k ≠ w0.heap.size; omega)).trans (Below.heap_setCell _ _ _ _ (by have := HSz.out; show k ≠ w0.heap.size; omega)))).mono (by have := HSz.out; omega), (HSb.out.setNew hgl _).setNew hgl _, ((hTf).setNew (Nat.le_refl _) (Nat.le_of_lt hgl) _).setNew (Nat.le_refl _) (Nat.le_of_lt hgl) _⟩
    · have ex : (x == 0) = false := by simpa using hx
      go_wp2_with fail
      refine (next g (xn : Int) _ hxw HS5.out).mono ?_
      rintro e w6 ⟨p, rfl, hp1, hp2, hs6, ht6⟩
      obtain ⟨p, rfl⟩ := Int.eq_ofNat_of_zero_le hp1
      have hp3 : p < xn := by omega
      have hpi : (p : Int) < (xn : Int) := by omega
      have HX6 := Lib.hid (HX5.out.thr ht6 (by omega))
      have HS6 := Lib.hid hs6
      have HV6 := Lib.hid (HV5.out.trans ht6)
      have HU6 := Lib.hid (HU5.out.trans ht6)
      have HZ6 := Lib.hid (HZ5.out.trans ht6)
      clear hs6 ht6 hp1 hp2
      go_wp2_with fail
      refine (next g 5 _ (by decide) HS6.out).mono ?_
      rintro e w7 ⟨y, rfl, hy1, hy2, hs7, ht7⟩
      have HX7 := Lib.hid (HX6.out.thr ht7 (by omega))
      have HS7 := Lib.hid hs7
      have HV7 := Lib.hid (HV6.out.trans ht7)
      have HU7 := Lib.hid (HU6.out.trans ht7)
      have HZ7 := Lib.hid (HZ6.out.trans ht7)
      have HO7 : Hid (OwnM w7 w.heap.size (.slice a2 n2 c2) R) := Lib.hid (HOC.out.keep (fun k h1 h2 => HU7.out.other k (by omega) h2)).own
      clear hs7 ht7 hy1 hy2
      obtain ⟨⟨u0, u1⟩, v0, v1, hlt2⟩ := box_thr HW4.out (by omega) HZ7.out
      by_cases y0 : y = 0
      · subst y0
        have cx := HX7.out.cellAt p hp3
        have fx := HX7.out.frozenAt p
        obtain ⟨v, hv⟩ : ∃ v, v = l.getD p 0 := ⟨_, rfl⟩
        have hvw := HQ.out p hp3
        rw [← hv] at cx hvw
        obtain ⟨hvw1, hvw2⟩ := hvw
        have hlit : ([v + 1, v - 1, -1000000000000000].all fun x => (Lit.int .i64 x).wf) = true := by
          show ((Lit.int .i64 (v + 1)).wf && ((Lit.int .i64 (v - 1)).wf && ((Lit.int .i64 (-1000000000000000)).wf && true))) = true
          rw [wf_small _ (by omega) (by omega), wf_small _ (by omega) (by omega)]; rfl
        clear hv
        go_wp2
        go_region_with (go_at_call 36; rw [IntWalk.i64_in (v + 1) (by omega), IntWalk.i64_in (v - 1) (by omega)]; refine (pick g _ 0 3 3 _ (HS7.out.alloc _).drew (by omega) (by omega) (by exact HS7.out.lt) (fun i hi => by have h := litCells w7 [v + 1, v - 1, -1000000000000000] #[.int .i64 (v + 1), .int .i64 (v - 1), .int .i64 (-1000000000000000)] 2 rfl hlit i hi; exact h)).mono ?_; rintro e w8 ⟨z, rfl, -, hs8, ht8⟩; have ht7 : Thr g w7 w8 := (((Thr.refl g w7).alloc (by omega) _).drew).trans ht8; have HX8 := Lib.hid (HX7.out.thr ht7 (by omega)); have HT7 := Lib.hid ht7; have HS8 := Lib.hid hs8; have cx8 := HX8.out.cellAt p hp3; have fx8 := HX8.out.frozenAt p; clear hs8 ht8 ht7)
        all_goals
          have ht7 := HT7.out
          have hs8 := HS8.out
          have hX8 := HX8.out
          obtain ⟨w9, hw9⟩ : ∃ x, x = w8.setCell ⟨xg, p, none⟩ (.int .i64 z) := ⟨_, rfl⟩
          have HX9 : Hid (Own w9 w1.heap.size (.slice (some ⟨xg, 0, none⟩) xn xc) (l.set p z)) := by show Own _ _ _ _; rw [hw9]; exact Own.set hX8 p z
          have HU9 : Hid (Thr g w1 w9) := by show Thr _ _ _; rw [hw9]; exact (HU7.out.trans ht7).setNew (by show w1.heap.size ≤ xg; omega) (by show g ≤ xg; omega) _
          have HV9 : Hid (Thr g w w9) := by show Thr _ _ _; rw [hw9]; exact (HV7.out.trans ht7).setNew (by show w.heap.size ≤ xg; omega) (by show g ≤ xg; omega) _
          have HS9 : Hid (Src w9 g) := by show Src _ _; rw [hw9]; exact hs8.setNew (by show g < xg; omega) _
          have hz9 : w9.cell? ⟨w2.heap.size, 0, none⟩ = w8.cell? ⟨w2.heap.size, 0, none⟩ ∧ w9.cell? ⟨w2.heap.size, 1, none⟩ = w8.cell? ⟨w2.heap.size, 1, none⟩ := by
            rw [hw9]
            exact ⟨World.cell?_of_block (Below.heap_setCell _ _ _ _ (by show w2.heap.size ≠ xg; omega)), World.cell?_of_block (Below.heap_setCell _ _ _ _ (by show w2.heap.size ≠ xg; omega))⟩
          obtain ⟨⟨u0', u1'⟩, -, -, hlt3⟩ := box_thr HW4.out (by omega) (HZ7.out.trans ht7)
          have u0 := hz9.1.trans u0'
          have u1 := hz9.2.trans u1'
          have HO9 : Hid (OwnM w9 w.heap.size (.slice a2 n2 c2) R) := Lib.hid (HOC.out.keep (fun k h1 h2 => HU9.out.other k (by omega) h2)).own
          clear hz9 u0' u1' hX8 cx fx
          go_wp2
          rw [← hw9]
          clear hw9 hs8 ht7
          obtain ⟨⟨r0, s1⟩, z0, z1, hlt⟩ := box_thr HWD.out hgl HV9.out
          have hTf : Thr g w0 w9 := HT.out.trans HV9.out
          go_region
          all_goals
            go_wp2
            exact bodyPost_ret (v := .tuple #[.slice a2 n2 c2, .agg #[.int .i64 e1, .int .i64 e2], .slice (some ⟨xg, 0, none⟩) xn xc]) (by simp [results, Tryz.results34, go_sem, r0, s1]) rfl
              ⟨_, _, _, R, _, _, _, _, _, l.set p z, rfl, hn2, (HO9.out.keep (fun k h1 _ => (Below.heap_setCell _ _ _ _ (by have := HSz.out; show k ≠ w0.heap.size; omega)).trans (Below.heap_setCell _ _ _ _ (by have := HSz.out; show k ≠ w0.heap.size; omega)))).mono (by have := HSz.out; omega), (HX9.out.keep (fun k h1 _ => (Below.heap_setCell _ _ _ _ (by have := HSz.out; show k ≠ w0.heap.size; omega)).trans (Below.heap_setCell _ _ _ _ (by have := HSz.out; show k ≠ w0.heap.size; omega)))).mono (by have := HSz.out; omega), (HS9.out.setNew hgl _).setNew hgl _, (((hTf).setNew (Nat.le_refl _) (Nat.le_of_lt hgl) _).setNew (Nat.le_refl _) (Nat.le_of_lt hgl) _).drew⟩
      · have ey0 : (y == 0) = false := by simpa using y0
        by_cases y1 : y = 1
        · subst y1
          have hg7 : w7.heap[w2.heap.size]? = some (.cells #[.int .i64 e1, .int .i64 e2] 28 (0, 0)) := by
            have h4 : w4.heap[w2.heap.size]? = some (.cells #[.int .i64 e1, .int .i64 e2] 28 (0, 0)) := by rw [HW4.out]; exact heap_alloc_last _ _
            exact (HZ7.out.other _ (by omega) (by omega)).trans h4
          have HG7 := Lib.hid hg7
          clear u0 u1 v0 v1 hg7
          go_wp2_with fail
          refine (next g 9 _ (by decide) HS7.out).mono ?_
          rintro e w8 ⟨z, rfl, hz1, hz2, hs8, ht8⟩
          have HX8 := Lib.hid (HX7.out.thr ht8 (by omega))
          have HS8 := Lib.hid hs8
          have HV8 := Lib.hid (HV7.out.trans ht8)
          have HU8 := Lib.hid (HU7.out.trans ht8)
          have HG8 : Hid (w8.heap[w2.heap.size]? = some (.cells #[.int .i64 e1, .int .i64 e2] 28 (0, 0))) := Lib.hid ((ht8.other _ (by omega) (by omega)).trans HG7.out)
          have hlt8 : w2.heap.size < w8.heap.size := by have := ht8.below.size; omega
          have hzw : Wid (z - 4) := ⟨by omega, by omega⟩
          have hzl : 0 ≤ z := hz1
          have hzu : z ≤ 9 := by omega
          have HZw := Lib.hid hzw
          clear hs8 ht8 hz1 hz2 hzw HX7 HS7 HV7 HU7 HZ7 HO7 HG7
          go_wp2
          go_loopw [11] (fun iv wr => ∃ (q : Nat) (l' : List Int), q ≤ xn ∧ iv = .int .i64 q ∧ Hid (Own wr w1.heap.size (.slice (some ⟨xg, 0, none⟩) xn xc) l') ∧ Hid (∀ j, q ≤ j → l'.getD j 0 = l.getD j 0) ∧ Hid (Thr g w1 wr) ∧ Hid (Thr g w wr) ∧ Hid (Src wr g) ∧ Hid (wr.heap[w2.heap.size]? = some (.cells #[.int .i64 e1, .int .i64 e2] 28 (0, 0)))) (fun iv _ => xn - (intOf iv).toNat)
          case atStart => exact ⟨0, l, Nat.zero_le _, rfl, HX8, Lib.hid (fun _ _ => rfl), HU8, HV8, HS8, HG8⟩
          case round =>
            obtain ⟨q, l', hq, rfl, HX, HL, HU, HV, HSr, HG⟩ := hrel
            clear HX8 HU8 HV8 HS8 HG8
            by_cases hlt : q < xn
            · have hqi : (q : Int) < (xn : Int) := by omega
              have cx := HX.out.cellAt q hlt
              have fx := HX.out.frozenAt q
              have hvw := HQ.out q hlt
              rw [← HL.out q (Nat.le_refl _)] at hvw
              obtain ⟨v, hv⟩ : ∃ v, v = l'.getD q 0 := ⟨_, rfl⟩
              rw [← hv] at cx hvw
              have HVw := Lib.hid hvw
              have HXn : Hid (∀ y, Own (wr.setCell ⟨xg, q, none⟩ (.int .i64 y)) w1.heap.size (.slice (some ⟨xg, 0, none⟩) xn xc) (l'.set q y)) := Lib.hid (fun y => Own.set HX.out q y)
              have HLn : Hid (∀ y j, q + 1 ≤ j → (l'.set q y).getD j 0 = l.getD j 0) := Lib.hid (fun y j hj => by
                rw [← HL.out j (by omega)]
                simp only [List.getD_eq_getElem?_getD]
                rw [List.getElem?_set_ne (by omega)])
              clear hv hvw
              go_wp2_with (go_at_call 72; refine (sTimesW _ _ _ HVw.out HZw.out).mono ?_; rintro e w' ⟨rfl, rfl⟩)
              go_roundw
              case rel => exact ⟨q + 1, _, by omega, by go_num, Lib.hid (HXn.out _), Lib.hid (HLn.out _), Lib.hid (HU.out.setNew (by show w1.heap.size ≤ xg; omega) (by show g ≤ xg; omega) _), Lib.hid (HV.out.setNew (by show w.heap.size ≤ xg; omega) (by show g ≤ xg; omega) _), Lib.hid (HSr.out.setNew (by show g < xg; omega) _), Lib.hid ((Below.heap_setCell _ _ _ _ (by show w2.heap.size ≠ xg; omega)).trans HG.out)⟩
              case measure => simp [intOf]; omega
            · have HOf : Hid (OwnM wr w.heap.size (.slice a2 n2 c2) R) := Lib.hid (HOC.out.keep (fun k h1 h2 => HU.out.other k (by omega) h2)).own
              have u0 : wr.cell? ⟨w2.heap.size, 0, none⟩ = some (.int .i64 e1) := by rw [cell_of_row _ _ _ _ _ _ HG.out]; rfl
              have u1 : wr.cell? ⟨w2.heap.size, 1, none⟩ = some (.int .i64 e2) := by rw [cell_of_row _ _ _ _ _ _ HG.out]; rfl
              obtain ⟨⟨r0, s1⟩, z0, z1, hlt⟩ := box_thr HWD.out hgl HV.out
              have hTf : Thr g w0 wr := HT.out.trans HV.out
              have hqn : ¬ ((q : Int) < (xn : Int)) := by omega
              go_wp2
              go_region
              all_goals
                go_wp2
                exact bodyPost_ret (v := .tuple #[.slice a2 n2 c2, .agg #[.int .i64 e1, .int .i64 e2], .slice (some ⟨xg, 0, none⟩) xn xc]) (by simp [results, Tryz.results34, go_sem, r0, s1]) rfl
                  ⟨_, _, _, R, _, _, _, _, _, l', rfl, hn2, (HOf.out.keep (fun k h1 _ => (Below.heap_setCell _ _ _ _ (by have := HSz.out; show k ≠ w0.heap.size; omega)).trans (Below.heap_setCell _ _ _ _ (by have := HSz.out; show k ≠ w0.heap.size; omega)))).mono (by have := HSz.out; omega), (HX.out.keep (fun k h1 _ => (Below.heap_setCell _ _ _ _ (by have := HSz.out; show k ≠ w0.heap.size; omega)).trans (Below.heap_setCell _ _ _ _ (by have := HSz.out; show k ≠ w0.heap.size; omega)))).mono (by have := HSz.out; omega), (HSr.out.setNew hgl _).setNew hgl _, (((hTf).setNew (Nat.le_refl _) (Nat.le_of_lt hgl) _).setNew (Nat.le_refl _) (Nat.le_of_lt hgl) _).drew⟩
        · have ey1 : (y == 1) = false := by simpa using y1
          by_cases y2 : y = 2
          · subst y2
            have hu0 : w2.heap.size < w7.heap.size := hlt2
            obtain ⟨w8, hw8⟩ : ∃ x, x = (w7.setCell ⟨w2.heap.size, 0, none⟩ (.int .i64 (e1 + 1))).setCell ⟨w2.heap.size, 1, none⟩ (.int .i64 e2) := ⟨_, rfl⟩
            have HX8 : Hid (Own w8 w1.heap.size (.slice (some ⟨xg, 0, none⟩) xn xc) l) := by
              show Own _ _ _ _
              rw [hw8]
              exact own_stay5 HX7.out (fun k hk => by
                have hk : xg = k := Option.some.inj hk
                subst hk
                exact (Below.heap_setCell _ _ _ _ (by show xg ≠ w2.heap.size; omega)).trans (Below.heap_setCell _ _ _ _ (by show xg ≠ w2.heap.size; omega)))
            have HU8 : Hid (Thr g w1 w8) := by show Thr _ _ _; rw [hw8]; exact (HU7.out.setNew (by show w1.heap.size ≤ w2.heap.size; omega) (by show g ≤ w2.heap.size; omega) _).setNew (by show w1.heap.size ≤ w2.heap.size; omega) (by show g ≤ w2.heap.size; omega) _
            have HV8 : Hid (Thr g w w8) := by show Thr _ _ _; rw [hw8]; exact (HV7.out.setNew (by show w.heap.size ≤ w2.heap.size; omega) (by show g ≤ w2.heap.size; omega) _).setNew (by show w.heap.size ≤ w2.heap.size; omega) (by show g ≤ w2.heap.size; omega) _
            have HS8 : Hid (Src w8 g) := by show Src _ _; rw [hw8]; exact (HS7.out.setNew (by show g < w2.heap.size; omega) _).setNew (by show g < w2.heap.size; omega) _
            have HO8 : Hid (OwnM w8 w.heap.size (.slice a2 n2 c2) R) := Lib.hid (HOC.out.keep (fun k h1 h2 => HU8.out.other k (by omega) h2)).own
            have hg7 : w7.heap[w2.heap.size]? = some (.cells #[.int .i64 e1, .int .i64 e2] 28 (0, 0)) := by
              have h4 : w4.heap[w2.heap.size]? = some (.cells #[.int .i64 e1, .int .i64 e2] 28 (0, 0)) := by rw [HW4.out]; exact heap_alloc_last _ _
              exact (HZ7.out.other _ (by omega) (by omega)).trans h4
            have hg8 : w8.heap[w2.heap.size]? = some (.cells #[.int .i64 (e1 + 1), .int .i64 e2] 28 (0, 0)) := by
              rw [hw8, setCell_eq_setRow w7 _ 0 _ _ _ _ hg7]
              have h1 := setRow_heap w7 w2.heap.size _ (#[.int .i64 e1, .int .i64 e2].setIfInBounds 0 (.int .i64 (e1 + 1))) _ _ hg7
              rw [setCell_eq_setRow _ _ 1 _ _ _ _ h1]
              exact setRow_heap _ _ _ _ _ _ h1
            have u0n : w8.cell? ⟨w2.heap.size, 0, none⟩ = some (.int .i64 (e1 + 1)) := by rw [cell_of_row _ _ _ _ _ _ hg8]; rfl
            have u1n : w8.cell? ⟨w2.heap.size, 1, none⟩ = some (.int .i64 e2) := by rw [cell_of_row _ _ _ _ _ _ hg8]; rfl
            clear hg7 hg8
            go_wp2
            rw [← hw8]
            clear hw8 u0 u1 v0 v1
            obtain ⟨⟨r0, s1⟩, z0, z1, hlt⟩ := box_thr HWD.out hgl HV8.out
            have hTf : Thr g w0 w8 := HT.out.trans HV8.out
            go_region
            all_goals
              go_wp2
              exact bodyPost_ret (v := .tuple #[.slice a2 n2 c2, .agg #[.int .i64 (e1 + 1), .int .i64 e2], .slice (some ⟨xg, 0, none⟩) xn xc]) (by simp [results, Tryz.results34, go_sem, r0, s1]) rfl
                ⟨_, _, _, R, _, _, _, _, _, l, rfl, hn2, (HO8.out.keep (fun k h1 _ => (Below.heap_setCell _ _ _ _ (by have := HSz.out; show k ≠ w0.heap.size; omega)).trans (Below.heap_setCell _ _ _ _ (by have := HSz.out; show k ≠ w0.heap.size; omega)))).mono (by have := HSz.out; omega), (HX8.out.keep (fun k h1 _ => (Below.heap_setCell _ _ _ _ (by have := HSz.out; show k ≠ w0.heap.size; omega)).trans (Below.heap_setCell _ _ _ _ (by have := HSz.out; show k ≠ w0.heap.size; omega)))).mono (by have := HSz.out; omega), (HS8.out.setNew hgl _).setNew hgl _, (((hTf).setNew (Nat.le_refl _) (Nat.le_of_lt hgl) _).setNew (Nat.le_refl _) (Nat.le_of_lt hgl) _).drew⟩
          · have ey2 : (y == 2) = false := by simpa using y2
            obtain ⟨⟨r0, s1⟩, z0, z1, hlt⟩ := box_thr HWD.out hgl HV7.out
            have hTf : Thr g w0 w7 := HT.out.trans HV7.out
            go_wp2
            go_region
            all_goals
              go_wp2
              exact bodyPost_ret (v := .tuple #[.slice a2 n2 c2, .agg #[.int .i64 e1, .int .i64 e2], .slice (some ⟨xg, 0, none⟩) xn xc]) (by simp [results, Tryz.results34, go_sem, r0, s1]) rfl
                ⟨_, _, _, R, _, _, _, _, _, l, rfl, hn2, (HO7.out.keep (fun k h1 _ => (Below.heap_setCell _ _ _ _ (by have := HSz.out; show k ≠ w0.heap.size; omega)).trans (Below.heap_setCell _ _ _ _ (by have := HSz.out; show k ≠ w0.heap.size; omega)))).mono (by have := HSz.out; omega), (HX7.out.keep (fun k h1 _ => (Below.heap_setCell _ _ _ _ (by have := HSz.out; show k ≠ w0.heap.size; omega)).trans (Below.heap_setCell _ _ _ _ (by have := HSz.out; show k ≠ w0.heap.size; omega)))).mono (by have := HSz.out; omega), (HS7.out.setNew hgl _).setNew hgl _, (((hTf).setNew (Nat.le_refl _) (Nat.le_of_lt hgl) _).setNew (Nat.le_refl _) (Nat.le_of_lt hgl) _).drew⟩
  · have hd1 : (d != 0) = true := by simpa using hd
    go_wp2_with fail
    change Calls _ _ _ (w2.alloc (rbox e1 e2)) _
    rw [← hw4]
    clear hw4
    refine (drawRatio g _ HS4.out).mono ?_
    rintro e wa ⟨x1, y1, rfl, hx1, hy1, hsa, hta⟩
    have HOa := Lib.hid (HO4.out.thr hta hgw)
    have HSa := Lib.hid hsa
    have HVa := Lib.hid (HV4.out.trans hta)
    clear hsa hta
    go_wp2_with fail
    refine (drawVector g n2 _ HSa.out (by omega)).mono ?_
    rintro e wb ⟨b, N, c, lv, rfl, hov, hsb, htb⟩
    have HOb := Lib.hid (HOa.out.thr htb hgw)
    have HXb : Hid (Own wb w.heap.size (.slice b N c) lv) := Lib.hid (hov.mono (by have := HVa.out.below.size; omega))
    have HSb := Lib.hid hsb
    have HVb := Lib.hid (HVa.out.trans htb)
    clear hov hsb htb
    obtain ⟨⟨r0, s1⟩, z0, z1, hlt⟩ := box_thr HWD.out hgl HVb.out
    have hTf : Thr g w0 wb := HT.out.trans HVb.out
    go_wp2
    exact bodyPost_ret (v := .tuple #[.slice a2 n2 c2, .agg #[.int .i64 x1, .int .i64 y1], .slice b N c]) (by simp [results, Tryz.results34, go_sem, r0, s1]) rfl
      ⟨_, _, _, R, _, _, _, _, _, lv, rfl, hn2, (HOb.out.keep (fun k h1 _ => (Below.heap_setCell _ _ _ _ (by have := HSz.out; show k ≠ w0.heap.size; omega)).trans (Below.heap_setCell _ _ _ _ (by have := HSz.out; show k ≠ w0.heap.size; omega)))).mono (by have := HSz.out; omega), (HXb.out.keep (fun k h1 _ => (Below.heap_setCell _ _ _ _ (by have := HSz.out; show k ≠ w0.heap.size; omega)).trans (Below.heap_setCell _ _ _ _ (by have := HSz.out; show k ≠ w0.heap.size; omega)))).mono (by have := HSz.out; omega), (HSb.out.setNew hgl _).setNew hgl _, ((hTf).setNew (Nat.le_refl _) (Nat.le_of_lt hgl) _).setNew (Nat.le_refl _) (Nat.le_of_lt hgl) _⟩
set_option maxRecDepth 100000 in
set_option maxHeartbeats 1000000 in
theorem drawIsEigenVector (a : Option Addr) (n cap : Nat) (w0 : World) (h : Bytes w0 a n) :
    Calls Tryz.prog 8 #[.slice a n cap] w0 (DrawnMRV w0) := by
  obtain ⟨w, hwd⟩ : ∃ w, w = w0.alloc (rbox 0 0) := ⟨_, rfl⟩
  have HB := Lib.hid (show Bytes w a n by rw [hwd]; exact h.below (b_alloc _ _))
  have hsz : w.heap.size = w0.heap.size + 1 := by rw [hwd]; simp
  have HSz := Lib.hid hsz
  have HWB := Lib.hid (show Below w0.heap.size w0 w by rw [hwd]; exact b_alloc _ _)
  clear h hsz
  go_enter Tryz.func8, Tryz.ntmps8
  go_wp2_with fail
  change Calls _ _ _ (w0.alloc (rbox 0 0)) _
  rw [← hwd]
  have HWD := Lib.hid hwd
  clear hwd
  refine (from_ _ _ _ _ HB.out).mono ?_
  rintro e w1 ⟨rfl, hs1, hb1⟩
  have HS1 := Lib.hid hs1
  have HB1 := Lib.hid hb1
  clear hs1 hb1
  go_wp2_with fail
  refine (drawVector5 _ _ HS1.out).mono ?_
  rintro e w2 ⟨a2, n2, c2, R, x, y, b, N, c, l, rfl, -, ho, hv, hs2, ht2⟩
  have HO := Lib.hid ho
  have HV := Lib.hid hv
  have HB2 := Lib.hid (HB1.out.trans ht2.below)
  obtain ⟨⟨r0, r1⟩, z0, z1, hlt⟩ := box_bel HWD.out HB2.out
  have hz1 := HB1.out.size
  clear ho hv hs2 ht2
  go_wp2
  exact bodyPost_ret (v := .tuple #[.slice a2 n2 c2, .agg #[.int .i64 x, .int .i64 y], .slice b N c]) (by simp [results, Tryz.results8, go_sem, r0, r1]) rfl
    ⟨_, _, _, R, _, _, _, _, _, l, rfl, (HO.out.keep (fun k h1 _ => (Below.heap_setCell _ _ _ _ (by have := HSz.out; show k ≠ w0.heap.size; omega)).trans (Below.heap_setCell _ _ _ _ (by have := HSz.out; show k ≠ w0.heap.size; omega)))).mat, (HV.out.keep (fun k h1 _ => (Below.heap_setCell _ _ _ _ (by have := HSz.out; show k ≠ w0.heap.size; omega)).trans (Below.heap_setCell _ _ _ _ (by have := HSz.out; show k ≠ w0.heap.size; omega)))).ints', ((HWB.out.trans (HB2.out.mono HWB.out.size)).setCell (Nat.le_refl _) _).setCell (Nat.le_refl _) _⟩
end Go.Proofs.YtcofjjipjcekjaaGreat.V

namespace Go.Proofs.YtcofjjipjcekjaaGreat.V
open Go.RowKit
theorem thn {a b c : World} (h1 : Below a.heap.size a b) (h2 : Below b.heap.size b c) : Below a.heap.size a c := h1.trans (h2.mono h1.size)
end Go.Proofs.YtcofjjipjcekjaaGreat.V

namespace Go.Proofs.YtcofjjipjcekjaaGreat.V
open Go.RowKit

set_option maxRecDepth 100000 in
set_option maxHeartbeats 400000 in
theorem likeInts (a : Option Addr) (n cap : Nat) (l : List Int) (a' : Option Addr) (n' cap' : Nat) (l' : List Int) (w : World) (h : Ints .i64 w a n l) (h' : Ints .i64 w a' n' l') (heq : l = l') :
    Calls Tryz.prog 12 #[.slice a n cap, .slice a' n' cap'] w fun e w' => e = .returned (.bool true) ∧ ∃ q, w' = w.drewN q := by
  subst heq
  obtain ⟨hl, hm, hr⟩ := h
  obtain ⟨hl', hm', hr'⟩ := h'
  obtain rfl : n = n' := by omega
  unfold maxLen at hm
  clear hm'
  have HL := Lib.hid hl
  clear hl hl'
  go_enter Tryz.func12, Tryz.ntmps12
  go_wp2
  go_loopw [5] (fun i wr => ∃ k : Nat, k ≤ n ∧ i = .int .i64 k ∧ ∃ q, wr = w.drewN q) (fun i _ => n - (intOf i).toNat)
  case atStart => exact ⟨0, Nat.zero_le _, rfl, 0, rfl⟩
  case round =>
    obtain ⟨k, hk, rfl, q, rfl⟩ := hrel
    by_cases hlt : k < n
    · rcases hr with h0 | ⟨b, off, rfl, hbl, hc⟩
      · omega
      rcases hr' with h0 | ⟨b', off', rfl, hbl', hc'⟩
      · omega
      have hck := hc k hlt
      have hck' := hc' k hlt
      obtain ⟨x, hx⟩ : ∃ x, x = l.getD k 0 := ⟨_, rfl⟩
      rw [← hx] at hck hck'
      clear hc hx hc'
      have hki : (k : Int) < (n : Int) := by omega
      go_wp2
      go_quiet (fail)
      go_wp2
      go_roundw
      case rel => exact ⟨k + 1, by omega, by go_num, _, rfl⟩
      case measure => simp [intOf]; omega
    · have hkn : k = n := by omega
      subst hkn
      clear hr hr'
      go_wp2
      go_ret
      exact ⟨rfl, q, rfl⟩

set_option maxRecDepth 100000 in
set_option maxHeartbeats 400000 in
theorem likeIntss (a : Option Addr) (n cap : Nat) (R : List (List Int)) (a' : Option Addr) (n' cap' : Nat) (R' : List (List Int)) (w : World) (h : Mat w a n R) (h' : Mat w a' n' R') (heq : R = R') :
    Calls Tryz.prog 17 #[.slice a n cap, .slice a' n' cap'] w fun e w' => e = .returned (.bool true) ∧ ∃ q, w' = w.drewN q := by
  subst heq
  have HM := Lib.hid h
  have HM' := Lib.hid h'
  obtain ⟨hl, hm, -⟩ := h
  obtain ⟨hl', -, -⟩ := h'
  obtain rfl : n = n' := by omega
  unfold maxLen at hm
  have HL := Lib.hid hl
  clear hl hl'
  go_enter Tryz.func17, Tryz.ntmps17
  go_wp2
  go_loopw [5] (fun i wr => ∃ k : Nat, k ≤ n ∧ i = .int .i64 k ∧ ∃ q, wr = w.drewN q) (fun i _ => n - (intOf i).toNat)
  case atStart => exact ⟨0, Nat.zero_le _, rfl, 0, rfl⟩
  case round =>
    obtain ⟨k, hk, rfl, q, rfl⟩ := hrel
    by_cases hlt : k < n
    · obtain ⟨b, off, ra, rc, L, l, rfl, hbl, hll, hc, hI⟩ := HM.out.at k hlt
      obtain ⟨b', off', ra', rc', L', l', rfl, hbl', hll', hc', hI'⟩ := HM'.out.at k hlt
      have HI := Lib.hid hI
      have HI' := Lib.hid hI'
      have HE := Lib.hid (hll.trans hll'.symm)
      clear hI hI' hll hll' HM HM'
      have hki : (k : Int) < (n : Int) := by omega
      go_wp2
      go_quiet ((go_at_call 12; exact q_more (likeInts _ _ _ l _ _ _ l' _ HI.out HI'.out HE.out)))
      go_wp2
      go_roundw
      case rel => exact ⟨k + 1, by omega, by go_num, _, rfl⟩
      case measure => simp [intOf]; omega
    · have hkn : k = n := by omega
      subst hkn
      go_wp2
      go_ret
      exact ⟨rfl, q, rfl⟩

/-- The same, said for the laws. -/
theorem likeM (a : Option Addr) (n cap : Nat) (R : List (List Int)) (a' : Option Addr) (n' cap' : Nat) (w : World) (h : Mat w a n R) (h' : Mat w a' n' R) :
    Calls Tryz.prog 17 #[.slice a n cap, .slice a' n' cap'] w fun e w' => e = .returned (.bool true) ∧ Below w.heap.size w w' := by
  refine (likeIntss _ _ _ _ _ _ _ _ _ h h' rfl).mono ?_
  rintro e w' ⟨rfl, q, rfl⟩
  exact ⟨rfl, b_draws _ _⟩
theorem likeV (a : Option Addr) (n cap : Nat) (l : List Int) (a' : Option Addr) (n' cap' : Nat) (w : World) (h : Ints .i64 w a n l) (h' : Ints .i64 w a' n' l) :
    Calls Tryz.prog 12 #[.slice a n cap, .slice a' n' cap'] w fun e w' => e = .returned (.bool true) ∧ Below w.heap.size w w' := by
  refine (likeInts _ _ _ _ _ _ _ _ _ h h' rfl).mono ?_
  rintro e w' ⟨rfl, q, rfl⟩
  exact ⟨rfl, b_draws _ _⟩
set_option maxRecDepth 100000 in
set_option maxHeartbeats 400000 in
theorem big (a : Option Addr) (n cap : Nat) (w : World) (h : n ≤ maxLen) :
    Calls Tryz.prog 4 #[.slice a n cap] w fun e w' => e = .returned (.bool (decide (4096 < n))) ∧ w = w' := by
  unfold maxLen at h
  go_enter Tryz.func4, Tryz.ntmps4
  go_wp2
  go_ret
  exact ⟨retB (decide_eq_decide.2 (by omega)), rfl⟩
end Go.Proofs.YtcofjjipjcekjaaGreat.V
