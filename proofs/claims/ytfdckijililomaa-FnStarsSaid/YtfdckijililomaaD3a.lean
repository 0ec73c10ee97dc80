/- A matrix and a list of numbers that are drawn together. -/
import Derived.Test.YtfdckijililomaaRows
import Derived.Test.YtfdckijililomaaMath1
import Derived.Test.YtfdckijililomaaList
import Derived.Test.YtfdckijililomaaMatM
import Derived.Test.YtfdckijililomaaHelp
import Derived.Test.YtfdckijililomaaRows0
import Derived.Test.YtfdckijililomaaOwn
import Derived.Test.YtfdckijililomaaMat0
import Derived.Test.YtfdckijililomaaDraw1
import Derived.Test.YtfdckijililomaaDraw2
import Derived.Test.YtfdckijililomaaDrawM
import Derived.Test.YtfdckijililomaaDrawV
import Derived.Lib.Hide
import Derived.Deep.OwnRows
namespace Go.Proofs.Ytfdckijililomaa.V
open Go.RowKit

/-- An owned matrix in blocks from B on and below C. -/
def OwnMC (w : World) (B C : Nat) (v : Value) (R : List (List Int)) : Prop :=
  ∃ V, OwnV w B v R V ∧ (∀ k, v.ownBlock = some k → k < C) ∧ ∀ i, i < R.length → ∀ k, (V.getD i (.slice none 0 0)).ownBlock = some k → k < C
theorem OwnM.upto {w : World} {B : Nat} {v : Value} {R : List (List Int)} (h : OwnM w B v R) : OwnMC w B w.heap.size v R := by
  obtain ⟨V, hV⟩ := h
  exact ⟨V, hV, fun k hk => (own_lt hV.2.1 hk).2, fun i hi k hk => (own_lt (hV.2.2.1 i hi) hk).2⟩
theorem OwnMC.own {w : World} {B C : Nat} {v : Value} {R : List (List Int)} (h : OwnMC w B C v R) : OwnM w B v R := ⟨h.choose, h.choose_spec.1⟩
theorem OwnMC.keep {w w' : World} {B C : Nat} {v : Value} {R : List (List Int)} (h : OwnMC w B C v R) (hk : ∀ k, B ≤ k → k < C → w'.heap[k]? = w.heap[k]?) : OwnMC w' B C v R := by
  obtain ⟨V, ⟨h1, h2, h3, h4, h5⟩, h6, h7⟩ := h
  exact ⟨V, ⟨h1, ownsRow_keep h2 (fun k hv => hk k (own_lt h2 hv).1 (h6 k hv)), fun i hi => ownsRow_keep (h3 i hi) (fun k hv => hk k (own_lt (h3 i hi) hv).1 (h7 i hi k hv)), h4, h5⟩, h6, h7⟩
/-- What is needed to read and to write one entry. -/
theorem OwnMC.at {w : World} {B C n cap : Nat} {a : Option Addr} {R : List (List Int)} (h : OwnMC w B C (.slice a n cap) R) (i j : Nat) (hi : i < n) (hj : j < (R.getD i []).length) :
    ∃ g q L c x, a = some ⟨g, 0, none⟩ ∧ B ≤ g ∧ g < C ∧ B ≤ q ∧ q < C ∧ q ≠ g ∧ L = (R.getD i []).length ∧ x = (R.getD i []).getD j 0 ∧ w.cell? ⟨g, i, none⟩ = some (.slice (some ⟨q, 0, none⟩) L c) ∧ w.cell? ⟨q, j, none⟩ = some (.int .i64 x) ∧ w.frozen? ⟨q, j, none⟩ = false ∧
      ∀ y, OwnMC (w.setCell ⟨q, j, none⟩ (.int .i64 y)) B C (.slice a n cap) (R.set i ((R.getD i []).set j y)) := by
  obtain ⟨V, ⟨h1, h2, h3, h4, h5⟩, h6, h7⟩ := h
  obtain ⟨a', c', hv, hc, hm, hg⟩ := own_form h2
  injection hv with e1 e2 e3
  subst e1 e2 e3
  obtain ⟨g, rfl, hBg, hlt⟩ := hg (by omega)
  have hrow := h3 i hi
  obtain ⟨ra, rc, hrv, hrc, hrm, hrg⟩ := own_form hrow
  obtain ⟨q, rfl, hBq, hqlt⟩ := hrg (by omega)
  have hcell := World.ownsRow.cellAt h2 i (by omega)
  have hVi : V[i]? = some (V.getD i (.slice none 0 0)) := by simp [h1, hi]
  have hrow' := hrow
  rw [hrv] at hrow'
  have hcell2 := World.ownsRow.cellAt hrow' j (by omega)
  have hqg : q ≠ g := fun e => h4 i hi q (by rw [hrv]; rfl) (by rw [e]; rfl)
  refine ⟨g, q, _, rc, _, rfl, hBg, h6 g rfl, hBq, h7 i hi q (by rw [hrv]; rfl), hqg, rfl, rfl, ?_, ?_, World.ownsRow.frozenAt hrow' j, fun y => ?_⟩
  · rw [hcell, hVi, hrv]
  · rw [hcell2]
    generalize R.getD i [] = l at hj
    simp [hj]
  · refine ⟨V, ⟨by simpa using h1, ?_, ?_, ?_, ?_⟩, h6, fun t ht => h7 t (by simpa using ht)⟩
    · rw [List.length_set]
      exact ownsRow_keep h2 (fun k hv => Below.heap_setCell _ _ _ _ (by
        simp only [Value.ownBlock, Option.some.injEq] at hv; show k ≠ q; omega))
    · intro t ht
      simp only [List.length_set] at ht
      rw [getD_set _ _ _ _ _ (by omega)]
      by_cases e : t = i
      · subst e
        rw [if_pos rfl, hrv]
        exact Own.set hrow' j y
      · rw [if_neg e]
        refine ownsRow_keep (h3 t ht) (fun k hv => Below.heap_setCell _ _ _ _ ?_)
        show k ≠ q
        intro e2
        subst e2
        exact h5 t i ht hi e k hv (by rw [hrv]; rfl)
    · intro t ht
      simp only [List.length_set] at ht
      exact h4 t ht
    · intro t s ht hs
      simp only [List.length_set] at ht hs
      exact h5 t s ht hs
/-- A store where the row is known to lie. -/
theorem OwnMC.put {w : World} {B C n cap o k t q L c : Nat} {R : List (List Int)} (h : OwnMC w B C (.slice (some ⟨o, 0, none⟩) n cap) R) (hi : k < n) (hj : t < (R.getD k []).length) (hc : w.cell? ⟨o, k, none⟩ = some (.slice (some ⟨q, 0, none⟩) L c)) (y : Int) :
    B ≤ q ∧ q < C ∧ q ≠ o ∧ OwnMC (w.setCell ⟨q, t, none⟩ (.int .i64 y)) B C (.slice (some ⟨o, 0, none⟩) n cap) (R.set k ((R.getD k []).set t y)) := by
  obtain ⟨g, q', L', c', x, hg, _, _, h1, h2, h3, _, _, hc', _, _, hw⟩ := h.at k t hi hj
  injection hg with hg
  injection hg with hg
  subst hg
  rw [hc] at hc'
  injection hc' with hc'
  injection hc' with e1 e2 e3
  injection e1 with e1
  injection e1 with e1
  subst e1
  exact ⟨h1, h2, h3, hw y⟩

/-- A square matrix below C and a list from C on, while the source draws. -/
def D3 (g B C n cap o : Nat) (vx : Value) (l : List Int) (w0 w : World) : Prop :=
  ∃ R, Rect R n n ∧ OwnMC w B C (.slice (some ⟨o, 0, none⟩) n cap) R ∧ Own w C vx l ∧ C ≤ w.heap.size ∧ Src w g ∧ Thr g w0 w
theorem D3.next {g B C n cap o : Nat} {vx : Value} {l : List Int} {w0 w w' : World} (h : D3 g B C n cap o vx l w0 w) (hB : g < B) (hC : B ≤ C) (hs : Src w' g) (ht : Thr g w w') : D3 g B C n cap o vx l w0 w' := by
  obtain ⟨R, h1, h2, h3, h4, h5, h6⟩ := h
  exact ⟨R, h1, h2.keep (fun k k1 k2 => ht.other k (by omega) (by omega)), h3.thr ht (by omega), Nat.le_trans h4 ht.below.size, hs, h6.trans ht⟩
theorem D3.drew {g B C n cap o : Nat} {vx : Value} {l : List Int} {w0 w : World} (h : D3 g B C n cap o vx l w0 w) : D3 g B C n cap o vx l w0 w.drew := by
  obtain ⟨R, h1, h2, h3, h4, h5, h6⟩ := h
  exact ⟨R, h1, h2.keep (fun _ _ _ => rfl), h3.keep (fun _ _ _ => rfl), h4, h5, h6.drew⟩
theorem D3.store {g B C n cap o k t q L c : Nat} {vx : Value} {l : List Int} {w0 w : World} (h : D3 g B C n cap o vx l w0 w) (hB : g < B) (hB0 : w0.heap.size ≤ B) (hi : k < n) (hj : t < n) (hc : w.cell? ⟨o, k, none⟩ = some (.slice (some ⟨q, 0, none⟩) L c)) (y : Int) :
    D3 g B C n cap o vx l w0 (w.setCell ⟨q, t, none⟩ (.int .i64 y)) := by
  obtain ⟨R, h1, h2, h3, h4, h5, h6⟩ := h
  obtain ⟨q1, q2, q3, hp⟩ := h2.put hi (by rw [h1.2 k hi]; exact hj) hc y
  refine ⟨_, h1.set k t y hi, hp, h3.keep (fun b b1 _ => Below.heap_setCell _ _ _ _ (by show b ≠ q; omega)), by simpa [World.setCell] using h4, ?_, ?_⟩
  · exact h5.below ((Below.refl _ _).setCell (p := ⟨q, t, none⟩) (by show g + 1 ≤ q; omega) _)
  · exact ⟨h6.below.setCell (p := ⟨q, t, none⟩) (by show g ≤ q; omega) _, fun b b1 b2 => by
      rw [Below.heap_setCell _ _ _ _ (by show b ≠ q; omega)]; exact h6.other b b1 b2⟩
/-- What one round reads: a row, and two of the numbers. -/
theorem D3.cells {g B C n cap o N c : Nat} {b : Option Addr} {l : List Int} {w0 w : World} (h : D3 g B C n cap o (.slice b N c) l w0 w) (hB : g < B) (k t : Nat) (hi : k < n) (hj : t < n) (hk : k < N) (ht : t < N) :
    ∃ q c2 x xb, b = some ⟨xb, 0, none⟩ ∧ B ≤ q ∧ q < C ∧ C ≤ xb ∧ q ≠ o ∧ B ≤ o ∧ o < C ∧ w.cell? ⟨o, k, none⟩ = some (.slice (some ⟨q, 0, none⟩) n c2) ∧ w.cell? ⟨q, t, none⟩ = some (.int .i64 x) ∧ w.frozen? ⟨q, t, none⟩ = false ∧
      w.cell? ⟨xb, k, none⟩ = some (.int .i64 (l.getD k 0)) ∧ w.cell? ⟨xb, t, none⟩ = some (.int .i64 (l.getD t 0)) := by
  obtain ⟨R, h1, h2, h3, h4, h5, h6⟩ := h
  obtain ⟨g2, q, L, c2, x, hg, o1, o2, q1, q2, q3, hL, hx, c1, c2', f1, _⟩ := h2.at k t hi (by rw [h1.2 k hi]; exact hj)
  injection hg with hg
  injection hg with hg
  subst hg
  rw [h1.2 k hi] at hL
  subst hL
  obtain ⟨b', c', hv, _, _, hg⟩ := own_form h3
  have hl := h3.len
  injection hv with e1 e2 e3
  subst e1
  obtain ⟨xb, rfl, hxb, _⟩ := hg (by omega)
  exact ⟨q, c2, x, xb, rfl, q1, q2, hxb, q3, o1, o2, c1, c2', f1, h3.cellAt k hk, h3.cellAt t ht⟩
/-- The cells outlive a draw. -/
theorem d3_next {g B C n cap o q c2 xb k t : Nat} {vx u1 u2 : Value} {l : List Int} {w0 w wx : World} (h : w.cell? ⟨o, k, none⟩ = some (.slice (some ⟨q, 0, none⟩) n c2) ∧ w.cell? ⟨xb, k, none⟩ = some u1 ∧ w.cell? ⟨xb, t, none⟩ = some u2 ∧ D3 g B C n cap o vx l w0 w) (hB : g < B) (hC : B ≤ C) (ho : B ≤ o) (hx : C ≤ xb) (hs : Src wx g) (ht : Thr g w wx) :
    wx.cell? ⟨o, k, none⟩ = some (.slice (some ⟨q, 0, none⟩) n c2) ∧ wx.cell? ⟨xb, k, none⟩ = some u1 ∧ wx.cell? ⟨xb, t, none⟩ = some u2 ∧ D3 g B C n cap o vx l w0 wx := by
  obtain ⟨h1, h2, h3, h4⟩ := h
  refine ⟨?_, ?_, ?_, h4.next hB hC hs ht⟩
  · rw [ht.cell (p := ⟨o, k, none⟩) (cell_lt h1) (by show o ≠ g; omega)]; exact h1
  · rw [ht.cell (p := ⟨xb, k, none⟩) (cell_lt h2) (by show xb ≠ g; omega)]; exact h2
  · rw [ht.cell (p := ⟨xb, t, none⟩) (cell_lt h3) (by show xb ≠ g; omega)]; exact h3
/-- .. and a store into the row. -/
theorem d3_store {g B C n cap o q c2 xb k t : Nat} {vx u1 u2 : Value} {l : List Int} {w0 w : World} (h : w.cell? ⟨o, k, none⟩ = some (.slice (some ⟨q, 0, none⟩) n c2) ∧ w.cell? ⟨xb, k, none⟩ = some u1 ∧ w.cell? ⟨xb, t, none⟩ = some u2 ∧ D3 g B C n cap o vx l w0 w) (hB : g < B) (hB0 : w0.heap.size ≤ B) (hi : k < n) (hj : t < n) (hqo : q ≠ o) (hq : q < C) (hx : C ≤ xb) (y : Int) :
    (w.setCell ⟨q, t, none⟩ (.int .i64 y)).cell? ⟨o, k, none⟩ = some (.slice (some ⟨q, 0, none⟩) n c2) ∧ (w.setCell ⟨q, t, none⟩ (.int .i64 y)).cell? ⟨xb, k, none⟩ = some u1 ∧ (w.setCell ⟨q, t, none⟩ (.int .i64 y)).cell? ⟨xb, t, none⟩ = some u2 ∧ D3 g B C n cap o vx l w0 (w.setCell ⟨q, t, none⟩ (.int .i64 y)) := by
  obtain ⟨h1, h2, h3, h4⟩ := h
  refine ⟨?_, ?_, ?_, h4.store hB hB0 hi hj h1 y⟩
  · exact (World.cell?_of_block (w := w) (Below.heap_setCell _ _ _ _ (show o ≠ q from fun e => hqo e.symm))).trans h1
  · exact (World.cell?_of_block (w := w) (Below.heap_setCell _ _ _ _ (show xb ≠ q by omega))).trans h2
  · exact (World.cell?_of_block (w := w) (Below.heap_setCell _ _ _ _ (show xb ≠ q by omega))).trans h3
theorem d3_of {A1 A2 A3 A4 : Prop} (h : A1 ∧ A2 ∧ A3 ∧ A4) : A4 := h.2.2.2
end Go.Proofs.Ytfdckijililomaa.V
