/- Texts laid together: Mat0, App. -/
import Derived.Test.YtgkceafhagfkhaaDoorRows
import Derived.Test.YtgkceafhagfkhaaDoorQd1
import Derived.Test.YtgkceafhagfkhaaDoorQd3
import Derived.Test.YtgkceafhagfkhaaDoorQd4
import Derived.WalkKit
import Derived.ProofKit
import Derived.WalkSmall
import Derived.Deep.QuietTactic
import Derived.BigQuiet
import Derived.BigRegion
import Derived.Deep.Draws
import Derived.Deep.OwnRows
import Derived.Maps.AppendAt
import Derived.Deep.Onto
import Derived.Lib.Hide
import Derived.OpenShut
set_option linter.unusedSimpArgs false
set_option linter.unusedVariables false
set_option linter.unusedSectionVars false
namespace Go.Proofs.YtgkceafhagfkhaaDoor.V
open Go.RowKit

/-- A slice value (address a, length n) whose elements are slices that read as the rows R. -/
def Mat (w : World) (a : Option Addr) (n : Nat) (R : List (List Int)) : Prop :=
  R.length = n ∧ n ≤ maxLen ∧ (n = 0 ∨ ∃ b off, a = some ⟨b, off, none⟩ ∧ b < w.heap.size ∧ ∀ i, i < n → ∃ ra rc, w.cell? ⟨b, off + i, none⟩ = some (.slice ra (R.getD i []).length rc) ∧ Ints .i64 w ra (R.getD i []).length (R.getD i []))

theorem Mat.below {w w' : World} {a : Option Addr} {n : Nat} {R : List (List Int)} (h : Mat w a n R) (hb : Below w.heap.size w w') : Mat w' a n R := by
  obtain ⟨h1, h2, h3⟩ := h
  refine ⟨h1, h2, ?_⟩
  rcases h3 with h3 | ⟨b, off, rfl, hlt, hc⟩
  · exact .inl h3
  · refine .inr ⟨b, off, rfl, by have := hb.size; omega, fun i hi => ?_⟩
    obtain ⟨ra, rc, hr, hI⟩ := hc i hi
    exact ⟨ra, rc, by rw [hb.cell (p := ⟨b, off + i, none⟩) hlt]; exact hr, hI.below hb⟩

/-- One row of a matrix that is read. -/
theorem Mat.at {w : World} {a : Option Addr} {n : Nat} {R : List (List Int)} (h : Mat w a n R) (i : Nat) (hi : i < n) :
    ∃ b off ra rc L l, a = some ⟨b, off, none⟩ ∧ b < w.heap.size ∧ l = R.getD i [] ∧ w.cell? ⟨b, off + i, none⟩ = some (.slice ra L rc) ∧ Ints .i64 w ra L l := by
  obtain ⟨h1, h2, h3⟩ := h
  rcases h3 with h3 | ⟨b, off, rfl, hlt, hc⟩
  · omega
  · obtain ⟨ra, rc, hr, hI⟩ := hc i hi
    exact ⟨b, off, ra, rc, _, _, rfl, hlt, rfl, hr, hI⟩

theorem Ints.at {k : IntKind} {w : World} {a : Option Addr} {n : Nat} {l : List Int} (h : Ints k w a n l) (i : Nat) (hi : i < n) :
    ∃ b off x, a = some ⟨b, off, none⟩ ∧ b < w.heap.size ∧ x = l.getD i 0 ∧ w.cell? ⟨b, off + i, none⟩ = some (.int k x) := by
  obtain ⟨h1, h2, h3⟩ := h
  rcases h3 with h3 | ⟨b, off, rfl, hlt, hc⟩
  · omega
  · exact ⟨b, off, _, rfl, hlt, rfl, hc i hi⟩

/-- One entry of a matrix that is read. -/
theorem Mat.ent {w : World} {a : Option Addr} {n : Nat} {R : List (List Int)} (h : Mat w a n R) (i j : Nat) (hi : i < n) (hj : j < (R.getD i []).length) :
    ∃ b off rb ro L rc x, a = some ⟨b, off, none⟩ ∧ L = (R.getD i []).length ∧ x = (R.getD i []).getD j 0 ∧ w.cell? ⟨b, off + i, none⟩ = some (.slice (some ⟨rb, ro, none⟩) L rc) ∧ w.cell? ⟨rb, ro + j, none⟩ = some (.int .i64 x) := by
  obtain ⟨b, off, ra, rc, L, l, rfl, _, rfl, hc, hI⟩ := h.at i hi
  have hL := hI.1
  obtain ⟨rb, ro, x, rfl, _, hx, hc2⟩ := hI.at j (by omega)
  exact ⟨b, off, rb, ro, L, rc, x, rfl, hL.symm, hx, hc, hc2⟩
/-- A rectangle: n rows of length L. -/
def Rect (R : List (List Int)) (n L : Nat) : Prop := R.length = n ∧ ∀ i, i < n → (R.getD i []).length = L
theorem rect_mk (m n : Nat) (f : Nat → Nat → Int) : Rect (M.mk m n f) m n := ⟨by simp, fun i hi => M.mk_rowlen m n f i hi⟩
theorem rect_mat {R : List (List Int)} (h : M.isMat R = true) : Rect R R.length (M.wid R) := ⟨rfl, fun _ hi => M.isMat_len h hi⟩
theorem Rect.wid {R : List (List Int)} {n L : Nat} (h : Rect R n L) (hn : 0 < n) : M.wid R = L := h.2 0 hn
/-- One row of a rectangle. -/
theorem Mat.rect_at {w : World} {a : Option Addr} {n L : Nat} {R : List (List Int)} (h : Mat w a n R) (hr : Rect R n L) (i : Nat) (hi : i < n) :
    ∃ b off ra rc, a = some ⟨b, off, none⟩ ∧ b < w.heap.size ∧ w.cell? ⟨b, off + i, none⟩ = some (.slice ra L rc) ∧ Ints .i64 w ra L (R.getD i []) := by
  obtain ⟨b, off, ra, rc, L', l, rfl, hb, rfl, hc, hI⟩ := h.at i hi
  have e : L' = L := by rw [← hI.1]; exact hr.2 i hi
  subst e
  exact ⟨b, off, ra, rc, rfl, hb, hc, hI⟩
theorem Mat.rect_first {w : World} {a : Option Addr} {n L : Nat} {R : List (List Int)} (h : Mat w a n R) (hr : Rect R n L) (hn : 0 < n) :
    ∃ b off ra rc, a = some ⟨b, off, none⟩ ∧ b < w.heap.size ∧ w.cell? ⟨b, off, none⟩ = some (.slice ra L rc) := by
  obtain ⟨b, off, ra, rc, rfl, hb, hc, _⟩ := h.rect_at hr 0 hn
  exact ⟨b, off, ra, rc, rfl, hb, by simpa using hc⟩
/-- One entry of a rectangle. -/
theorem Mat.rect_ent {w : World} {a : Option Addr} {n L : Nat} {R : List (List Int)} (h : Mat w a n R) (hr : Rect R n L) (i j : Nat) (hi : i < n) (hj : j < L) :
    ∃ b off rb ro rc x, a = some ⟨b, off, none⟩ ∧ x = M.ent R i j ∧ w.cell? ⟨b, off + i, none⟩ = some (.slice (some ⟨rb, ro, none⟩) L rc) ∧ w.cell? ⟨rb, ro + j, none⟩ = some (.int .i64 x) := by
  obtain ⟨b, off, rb, ro, L', rc, x, rfl, hL, hx, h1, h2⟩ := h.ent i j hi (by rw [hr.2 i hi]; exact hj)
  rw [hr.2 i hi] at hL
  subst hL
  exact ⟨b, off, rb, ro, rc, x, rfl, hx, h1, h2⟩

/-- The first row's length. -/
theorem Mat.first {w : World} {a : Option Addr} {n : Nat} {R : List (List Int)} (h : Mat w a n R) (hi : 0 < n) :
    ∃ b off ra L rc, a = some ⟨b, off, none⟩ ∧ L = M.wid R ∧ w.cell? ⟨b, off, none⟩ = some (.slice ra L rc) := by
  obtain ⟨b, off, ra, rc, L, l, rfl, _, hl, hc, hI⟩ := h.at 0 hi
  exact ⟨b, off, ra, L, rc, rfl, by rw [← hI.1, hl]; rfl, by simpa using hc⟩

/-- A slice of slices that the call owns, in blocks from B on, each in a block of its own, holding the rows R; V are the values of its rows. -/
def OwnV (w : World) (B : Nat) (v : Value) (R : List (List Int)) (V : List Value) : Prop :=
  V.length = R.length ∧ w.ownsRow B 39 1 v R.length V ∧ (∀ i, i < R.length → Own w B (V.getD i (.slice none 0 0)) (R.getD i [])) ∧
  (∀ i, i < R.length → ∀ k, (V.getD i (.slice none 0 0)).ownBlock = some k → v.ownBlock ≠ some k) ∧
  ∀ i j, i < R.length → j < R.length → i ≠ j → ∀ k, (V.getD i (.slice none 0 0)).ownBlock = some k → (V.getD j (.slice none 0 0)).ownBlock ≠ some k

def OwnM (w : World) (B : Nat) (v : Value) (R : List (List Int)) : Prop := ∃ V, OwnV w B v R V

theorem OwnM.keep {w w' : World} {B : Nat} {v : Value} {R : List (List Int)} (h : OwnM w B v R) (hk : ∀ k, B ≤ k → k < w.heap.size → w'.heap[k]? = w.heap[k]?) : OwnM w' B v R := by
  obtain ⟨V, h1, h2, h3, h4, h5⟩ := h
  exact ⟨V, h1, ownsRow_keep h2 (fun k hv => hk k (own_lt h2 hv).1 (own_lt h2 hv).2), fun i hi => (h3 i hi).keep hk, h4, h5⟩
theorem OwnM.below {w w' : World} {B : Nat} {v : Value} {R : List (List Int)} (h : OwnM w B v R) (hb : Below w.heap.size w w') : OwnM w' B v R :=
  h.keep (fun k _ h2 => hb.block k h2)
theorem OwnM.mono {w : World} {B B' : Nat} {v : Value} {R : List (List Int)} (h : OwnM w B v R) (hb : B' ≤ B) : OwnM w B' v R := by
  obtain ⟨V, h1, h2, h3, h4, h5⟩ := h
  exact ⟨V, h1, World.ownsRow.mono h2 hb, fun i hi => (h3 i hi).mono hb, h4, h5⟩

theorem OwnM.form {w : World} {B : Nat} {v : Value} {R : List (List Int)} (h : OwnM w B v R) : ∃ a cap, v = .slice a R.length cap ∧ R.length ≤ maxLen := by
  obtain ⟨V, h1, h2, _⟩ := h
  obtain ⟨a, cap, hv, h3, h4, _⟩ := own_form h2
  exact ⟨a, cap, hv, by omega⟩

theorem OwnM.mat {w : World} {B : Nat} {a : Option Addr} {n cap : Nat} {R : List (List Int)} (h : OwnM w B (.slice a n cap) R) : Mat w a n R := by
  obtain ⟨V, h1, h2, h3, h4, h5⟩ := h
  obtain ⟨a', c', hv, hc, hm, hg⟩ := own_form h2
  injection hv with e1 e2 e3
  subst e1 e2 e3
  refine ⟨rfl, by omega, ?_⟩
  by_cases h0 : R.length = 0
  · exact .inl h0
  · obtain ⟨g, rfl, hB, hlt⟩ := hg (by omega)
    refine .inr ⟨g, 0, rfl, hlt, fun i hi => ?_⟩
    obtain ⟨ra, rc, hv, hI⟩ := (h3 i hi).ints
    refine ⟨ra, rc, ?_, hI⟩
    have := World.ownsRow.cellAt h2 i (by omega)
    rw [Nat.zero_add, this, ← hv]
    simp [h1, hi]

theorem OwnM.lt {w : World} {B n cap g o : Nat} {R : List (List Int)} (h : OwnM w B (.slice (some ⟨g, o, none⟩) n cap) R) (_ : True = True) : g < w.heap.size := by
  obtain ⟨V, h1, h2, _⟩ := h
  exact (own_lt h2 (k := g) rfl).2
theorem OwnM.ge {w : World} {B n cap g o : Nat} {R : List (List Int)} (h : OwnM w B (.slice (some ⟨g, o, none⟩) n cap) R) : B ≤ g := by
  obtain ⟨V, h1, h2, _⟩ := h
  exact (own_lt h2 (k := g) rfl).1
theorem OwnM.len {w : World} {B n cap : Nat} {a : Option Addr} {R : List (List Int)} (h : OwnM w B (.slice a n cap) R) : n = R.length := by
  obtain ⟨a', c', hv, _⟩ := h.form
  injection hv
theorem OwnM.outer {w : World} {B n cap g : Nat} {R : List (List Int)} (h : OwnM w B (.slice (some ⟨g, 0, none⟩) n cap) R) (i : Nat) (hi : i < n) : ∃ v, w.cell? ⟨g, i, none⟩ = some v := by
  have e := h.len
  subst e
  obtain ⟨V, h1, h2, _⟩ := h
  rw [World.ownsRow.cellAt h2 i (by omega)]
  exact ⟨V[i]'(by omega), by simp [h1, hi]⟩
theorem OwnM.outerFz {w : World} {B n cap g : Nat} {R : List (List Int)} (h : OwnM w B (.slice (some ⟨g, 0, none⟩) n cap) R) (i : Nat) : w.frozen? ⟨g, i, none⟩ = false := by
  have e := h.len
  subst e
  obtain ⟨V, h1, h2, _⟩ := h
  exact World.ownsRow.frozenAt h2 i

theorem ownM_nil (w : World) (B : Nat) : OwnM w B (.slice none 0 0) [] :=
  ⟨[], rfl, World.ownsRow_nil _ _ _ _, (fun i hi => absurd hi (Nat.not_lt_zero i)), (fun i hi => absurd hi (Nat.not_lt_zero i)), (fun i j hi => absurd hi (Nat.not_lt_zero i))⟩
theorem ownM_lit0 (w : World) (B : Nat) (hB : B ≤ w.heap.size) : OwnM (w.alloc (.cells #[] 39)) B (.slice (some ⟨w.heap.size, 0, none⟩) 0 0) [] :=
  ⟨[], rfl, World.ownsRow_lit w #[] 0 hB (by decide) rfl, (fun i hi => absurd hi (Nat.not_lt_zero i)), (fun i hi => absurd hi (Nat.not_lt_zero i)), (fun i j hi => absurd hi (Nat.not_lt_zero i))⟩

theorem own_nil (w : World) (B : Nat) : Own w B (.slice none 0 0) [] := World.ownsRow_nil _ _ _ _

theorem ownM_made (w : World) (B n : Nat) (hB : B ≤ w.heap.size) (hn : n ≤ maxLen) : OwnM (w.alloc (.cells (madeCells #[.slice none 0 0] n) 39)) B (.slice (some ⟨w.heap.size, 0, none⟩) n n) (List.replicate n []) := by
  have h := World.rowIs_made w (.slice none 0 0) n 39
  obtain ⟨c, hb, hs, hc⟩ := h
  refine ⟨List.replicate n (.slice none 0 0), by simp, ⟨by simp, .inr ⟨w.heap.size, n, c, by simp, hB, hb, by simp, hn, by simp [hs], ?_⟩⟩, ?_, ?_, ?_⟩
  · apply List.ext_getElem
    · simp [hs]
    · intro i h1 h2
      simp only [List.length_replicate] at h2
      have := hc i h2
      simp [List.getElem_take]
      rw [Array.getElem?_eq_getElem (by omega)] at this
      exact Option.some.inj this
  · intro i hi
    simp only [List.length_replicate] at hi
    have e1 : (List.replicate n (Value.slice none 0 0)).getD i (.slice none 0 0) = .slice none 0 0 := by simp [hi]
    have e2 : (List.replicate n ([] : List Int)).getD i [] = [] := by simp [hi]
    rw [e1, e2]
    exact own_nil _ _
  · intro i hi k hk
    simp only [List.length_replicate] at hi
    have e1 : (List.replicate n (Value.slice none 0 0)).getD i (.slice none 0 0) = .slice none 0 0 := by simp [hi]
    rw [e1] at hk
    cases hk
  · intro i j hi hj _ k hk
    simp only [List.length_replicate] at hi
    have e1 : (List.replicate n (Value.slice none 0 0)).getD i (.slice none 0 0) = .slice none 0 0 := by simp [hi]
    rw [e1] at hk
    cases hk

theorem getD_set {α : Type} (l : List α) (i j : Nat) (x d : α) (h : i < l.length) : (l.set i x).getD j d = if j = i then x else l.getD j d := by
  simp only [List.getD_eq_getElem?_getD, List.getElem?_set]
  by_cases e : i = j
  · subst e; simp [h]
  · rw [if_neg e, if_neg (by omega)]

/-- A row of its own is stored into an owned matrix: v keeps its block, and the row lies in blocks that are newer. -/
theorem OwnM.setRow {w w1 : World} {B g n cap : Nat} {R : List (List Int)} {rv : Value} {l : List Int} (h : OwnM w B (.slice (some ⟨g, 0, none⟩) n cap) R) (hb : Below w.heap.size w w1) (hB : B ≤ w.heap.size) (ho : Own w1 w.heap.size rv l) (i : Nat) (hi : i < n) :
    OwnM (w1.setCell ⟨g, i, none⟩ rv) B (.slice (some ⟨g, 0, none⟩) n cap) (R.set i l) := by
  have hlt := h
  obtain ⟨V, h1, h2, h3, h4, h5⟩ := h
  obtain ⟨a', c', hv, hc, hm, hg⟩ := own_form h2
  injection hv with e1 e2 e3
  subst e2 e3
  have hgl := own_lt h2 (k := g) rfl
  have hk : ∀ k, k < w.heap.size → k ≠ g → (w1.setCell ⟨g, i, none⟩ rv).heap[k]? = w.heap[k]? := fun k hk hne => by
    rw [Below.heap_setCell _ _ _ _ hne]; exact hb.block k hk
  have hw1 : w1.ownsRow B 39 1 (.slice (some ⟨g, 0, none⟩) R.length cap) R.length V := ownsRow_keep h2 (fun k hv => hb.block k (own_lt h2 hv).2)
  refine ⟨V.set i rv, by simpa using h1, ?_, ?_, ?_, ?_⟩
  · have := (World.ownsRow.stored hw1 i rv).1
    simpa using this
  · intro j hj
    simp only [List.length_set] at hj
    rw [getD_set _ _ _ _ _ (by omega), getD_set _ _ _ _ _ (by omega)]
    by_cases e : j = i
    · rw [if_pos e, if_pos e]
      exact (ownsRow_keep ho (fun k hv => Below.heap_setCell _ _ _ _ (by have := (own_lt ho hv).1; show k ≠ g; omega)) : Own _ _ _ _).mono hB
    · rw [if_neg e, if_neg e]
      exact ownsRow_keep (h3 j hj) (fun k hv => hk k (own_lt (h3 j hj) hv).2 (fun e => h4 j hj k hv (by rw [e]; rfl)))
  · intro j hj k hk'
    simp only [List.length_set] at hj
    rw [getD_set _ _ _ _ _ (by omega)] at hk'
    by_cases e : j = i
    · rw [if_pos e] at hk'
      have := (own_lt ho hk').1
      intro e2
      simp only [Value.ownBlock, Option.some.injEq] at e2
      omega
    · rw [if_neg e] at hk'
      exact h4 j hj k hk'
  · intro j t hj ht hne k hk'
    simp only [List.length_set] at hj ht
    rw [getD_set _ _ _ _ _ (by omega)] at hk'
    rw [getD_set _ _ _ _ _ (by omega)]
    by_cases e : j = i
    · rw [if_pos e] at hk'
      have e' : ¬ t = i := by omega
      rw [if_neg e']
      intro e2
      have := (own_lt ho hk').1
      have := (own_lt (h3 t ht) e2).2
      omega
    · rw [if_neg e] at hk'
      by_cases e' : t = i
      · rw [if_pos e']
        intro e2
        have := (own_lt ho e2).1
        have := (own_lt (h3 j hj) hk').2
        omega
      · rw [if_neg e']
        exact h5 j t hj ht hne k hk'

/-- What is needed to read and to write the entry at i, j of an owned matrix. -/
theorem OwnM.at {w : World} {B n cap : Nat} {a : Option Addr} {R : List (List Int)} (h : OwnM w B (.slice a n cap) R) (i j : Nat) (hi : i < n) (hj : j < (R.getD i []).length) :
    ∃ g q L c x, a = some ⟨g, 0, none⟩ ∧ B ≤ g ∧ B ≤ q ∧ L = (R.getD i []).length ∧ x = (R.getD i []).getD j 0 ∧ w.cell? ⟨g, i, none⟩ = some (.slice (some ⟨q, 0, none⟩) L c) ∧ w.cell? ⟨q, j, none⟩ = some (.int .i64 x) ∧ w.frozen? ⟨q, j, none⟩ = false ∧
      ∀ y, OwnM (w.setCell ⟨q, j, none⟩ (.int .i64 y)) B (.slice a n cap) (R.set i ((R.getD i []).set j y)) := by
  obtain ⟨V, h1, h2, h3, h4, h5⟩ := h
  obtain ⟨a', c', hv, hc, hm, hg⟩ := own_form h2
  injection hv with e1 e2 e3
  subst e1 e2 e3
  obtain ⟨g, rfl, hBg, hlt⟩ := hg (by omega)
  have hrow := h3 i hi
  obtain ⟨ra, rc, hrv, hrc, hrm, hrg⟩ := own_form hrow
  obtain ⟨q, rfl, hBq, hqlt⟩ := hrg (by omega)
  have hcell := World.ownsRow.cellAt h2 i (by omega)
  have hVi : V[i]? = some (V.getD i (.slice none 0 0)) := by simp [h1, hi]
  have hrow' := hrow
  rw [hrv] at hrow'
  have hcell2 := World.ownsRow.cellAt hrow' j (by omega)
  refine ⟨g, q, _, rc, _, rfl, hBg, hBq, rfl, rfl, ?_, ?_, World.ownsRow.frozenAt hrow' j, fun y => ?_⟩
  · rw [hcell, hVi, hrv]
  · rw [hcell2]
    generalize R.getD i [] = l at hj
    simp [hj]
  · have hqg : q ≠ g := fun e => h4 i hi q (by rw [hrv]; rfl) (by rw [e]; rfl)
    refine ⟨V, by simpa using h1, ?_, ?_, ?_, ?_⟩
    · rw [List.length_set]
      exact ownsRow_keep h2 (fun k hv => Below.heap_setCell _ _ _ _ (by
        simp only [Value.ownBlock, Option.some.injEq] at hv; show k ≠ q; omega))
    · intro t ht
      simp only [List.length_set] at ht
      rw [getD_set _ _ _ _ _ (by omega)]
      by_cases e : t = i
      · subst e
        rw [if_pos rfl, hrv]
        exact Own.set hrow' j y
      · rw [if_neg e]
        refine ownsRow_keep (h3 t ht) (fun k hv => Below.heap_setCell _ _ _ _ ?_)
        show k ≠ q
        intro e2
        subst e2
        exact h5 t i ht hi e k hv (by rw [hrv]; rfl)
    · intro t ht
      simp only [List.length_set] at ht
      exact h4 t ht
    · intro t s ht hs
      simp only [List.length_set] at ht hs
      exact h5 t s ht hs

/-- A row of its own is appended to an owned matrix. -/
theorem OwnV.snoc {w w1 w2 : World} {B q : Nat} {v v' rv : Value} {R : List (List Int)} {V : List Value} {l : List Int} (h : OwnV w B v R V) (hb : Below w.heap.size w w1) (hB : B ≤ w.heap.size) (ho : Own w1 w.heap.size rv l)
    (hw2 : w2.ownsRow B 39 1 v' (R.length + 1) (V ++ [rv])) (hg : ∀ k, k < w1.heap.size → v.ownBlock ≠ some k → w2.heap[k]? = w1.heap[k]?)
    (hvb : v'.ownBlock = v.ownBlock ∨ v'.ownBlock = some q) (hq : w1.heap.size ≤ q) : OwnM w2 B v' (R ++ [l]) := by
  obtain ⟨h1, h2, h3, h4, h5⟩ := h
  have eV : ∀ j, j < R.length → (V ++ [rv]).getD j (.slice none 0 0) = V.getD j (.slice none 0 0) := fun j hj => by
    simp [List.getD_eq_getElem?_getD, List.getElem?_append_left, h1, hj]
  have eV1 : (V ++ [rv]).getD R.length (.slice none 0 0) = rv := by
    simp [List.getD_eq_getElem?_getD, ← h1]
  have eR : ∀ j, j < R.length → (R ++ [l]).getD j [] = R.getD j [] := fun j hj => by
    simp [List.getD_eq_getElem?_getD, List.getElem?_append_left, hj]
  have eR1 : (R ++ [l]).getD R.length [] = l := by
    simp [List.getD_eq_getElem?_getD]
  have hold : ∀ j, j < R.length → ∀ k, (V.getD j (.slice none 0 0)).ownBlock = some k → k < w.heap.size := fun j hj k hk => (own_lt (h3 j hj) hk).2
  have hvn : ∀ k, k < w1.heap.size → v.ownBlock ≠ some k → v'.ownBlock ≠ some k := fun k hk hne => by
    rcases hvb with e | e
    · rw [e]; exact hne
    · rw [e]; intro e2; simp only [Option.some.injEq] at e2; omega
  have hvold : ∀ k, v.ownBlock = some k → k < w.heap.size := fun k hk => (own_lt h2 hk).2
  have hs := hb.size
  refine ⟨V ++ [rv], by simp [h1], by simpa using hw2, ?_, ?_, ?_⟩
  · intro j hj
    simp only [List.length_append, List.length_singleton] at hj
    by_cases e : j < R.length
    · rw [eV j e, eR j e]
      exact ownsRow_keep (h3 j e) (fun k hv => by
        have := hold j e k hv
        rw [hg k (by omega) (h4 j e k hv)]; exact hb.block k this)
    · obtain rfl : j = R.length := by omega
      rw [eV1, eR1]
      refine (ownsRow_keep ho (fun k hv => hg k (own_lt ho hv).2 (fun e2 => ?_)) : Own _ _ _ _).mono hB
      have := (own_lt ho hv).1
      have := hvold k e2
      omega
  · intro j hj k hk
    simp only [List.length_append, List.length_singleton] at hj
    by_cases e : j < R.length
    · rw [eV j e] at hk
      have := hold j e k hk
      exact hvn k (by omega) (h4 j e k hk)
    · obtain rfl : j = R.length := by omega
      rw [eV1] at hk
      have := own_lt ho hk
      exact hvn k this.2 (fun e2 => by have := hvold k e2; omega)
  · intro i j hi hj hne k hk
    simp only [List.length_append, List.length_singleton] at hi hj
    by_cases e : i < R.length
    · rw [eV i e] at hk
      by_cases e2 : j < R.length
      · rw [eV j e2]; exact h5 i j e e2 hne k hk
      · obtain rfl : j = R.length := by omega
        rw [eV1]
        intro e3
        have := hold i e k hk
        have := (own_lt ho e3).1
        omega
    · obtain rfl : i = R.length := by omega
      rw [eV1] at hk
      have e2 : j < R.length := by omega
      rw [eV j e2]
      intro e3
      have := hold j e2 k e3
      have := (own_lt ho hk).1
      omega
end Go.Proofs.YtgkceafhagfkhaaDoor.V

namespace Go.Proofs.YtgkceafhagfkhaaDoor.V
open Go.RowKit

theorem append1 (w : World) {ops : Array Oper} {rest : List Oper} {o : Oper} {a : Act} {Q : Exit → Act → World → Prop} (hgd : o.guard = none) (s x : Operand)
    (ho : o.op = .call { callee := .builtin .append, args := #[s, x], argTypes := #[39, 39] }) (B : Nat) (v : Value) (l : List Int) (y : Int) (n : Nat) (hn : l.length = n) (hs : a.eval s = v) (hown : Own w B v l)
    (hx : a.eval x = .slice (some ⟨w.heap.size, 0, none⟩) 1 1) (hlen : l.length ≤ 2000000) (hB : B ≤ w.heap.size)
    (h : ∀ b' c' w', Own w' B (.slice b' (n + 1) c') (l ++ [y]) → Below B w w' → (∀ k, k < w.heap.size → v.ownBlock ≠ some k → w'.heap[k]? = w.heap[k]?) → wpList Tryd.prog ops Q rest (a.put o.dst (.slice b' (n + 1) c')) w') :
    wpList Tryd.prog ops Q (o :: rest) a (w.alloc (.cells #[.int .i64 y] 2)) := by
  subst hn
  obtain ⟨i0, hi, hz0, hz1, hz2⟩ := info_parts info64
  have hown2 : (w.alloc (.cells #[.int .i64 y] 2)).ownsRow B 2 1 v l.length (l.map (Value.int .i64)) := World.ownsRow.alloc hown _
  refine wpList_append_own_at (w := w.alloc (.cells #[.int .i64 y] 2)) hgd s x 39 ho B 2 i0 (.int .i64 0) 1 8 Tryd.underlying39 hi hz0 hz1 hz2 rfl (by decide) v _ _ hs hown2 ⟨w.heap.size, 0, none⟩ 1 1 [.int .i64 y] hx rfl (cell_one_new _ _ _) ?c2 ?c3 ?c4 ?c5 ?_
  case c2 => intro u hu; simp at hu; subst hu; rfl
  case c3 => unfold maxLen; omega
  case c4 => omega
  case c5 => simp; omega
  · intro v' w' hown' hgrow hz hvb
    have ho' : Own w' B v' (l ++ [y]) := by
      show w'.ownsRow B _ 1 v' (l ++ [y]).length ((l ++ [y]).map (Value.int .i64))
      simpa using hown'
    obtain ⟨b', c', hv', _⟩ := own_form ho'
    rw [show (l ++ [y]).length = l.length + 1 by simp] at hv'
    subst hv'
    refine h b' c' w' ho' (((Below.refl B w).alloc hB _).grown hgrow (by simp; omega) (fun k hk => (own_lt hown hk).1)) (fun k hk hne => ?_)
    obtain ⟨g1, g2, g3, g4, g5⟩ := hgrow
    rw [g5 k (by simp; omega) (fun e => hne e.symm), Below.heap_alloc _ _ _ hk]

theorem appendRow (w0 w : World) {ops : Array Oper} {rest : List Oper} {o : Oper} {a : Act} {Q : Exit → Act → World → Prop} (hgd : o.guard = none) (s x : Operand)
    (ho : o.op = .call { callee := .builtin .append, args := #[s, x], argTypes := #[24, 24] }) (B : Nat) (v rv : Value) (R : List (List Int)) (l : List Int) (n : Nat) (hn : R.length = n) (hs : a.eval s = v) (hown : OwnM w0 B v R) (hb : Below w0.heap.size w0 w) (hro : Own w w0.heap.size rv l)
    (hx : a.eval x = .slice (some ⟨w.heap.size, 0, none⟩) 1 1) (hlen : R.length ≤ 2000000) (hB : B ≤ w0.heap.size)
    (h : ∀ b' c' w', OwnM w' B (.slice b' (n + 1) c') (R ++ [l]) → Below B w w' → (∀ k, k < w.heap.size → v.ownBlock ≠ some k → w'.heap[k]? = w.heap[k]?) → wpList Tryd.prog ops Q rest (a.put o.dst (.slice b' (n + 1) c')) w') :
    wpList Tryd.prog ops Q (o :: rest) a (w.alloc (.cells #[rv] 39)) := by
  subst hn
  obtain ⟨i0, hi, hz0, hz1, hz2⟩ := info_parts infoS64
  have hsz := hb.size
  obtain ⟨V, h1, h2, h3⟩ := hown
  have hwV : w.ownsRow B 39 1 v R.length V := ownsRow_keep h2 (fun k hv => hb.block k (own_lt h2 hv).2)
  have hown2 : (w.alloc (.cells #[rv] 39)).ownsRow B 39 1 v R.length V := World.ownsRow.alloc hwV _
  refine wpList_append_own_at (w := w.alloc (.cells #[rv] 39)) hgd s x 24 ho B 39 i0 (.slice none 0 0) 1 24 Tryd.underlying24 hi hz0 hz1 hz2 rfl (by decide) v _ _ hs hown2 ⟨w.heap.size, 0, none⟩ 1 1 [rv] hx rfl (cell_one_new _ _ _) ?c2 ?c3 ?c4 ?c5 ?_
  case c2 =>
    intro u hu; simp at hu; subst hu
    obtain ⟨b', c', hv', _⟩ := own_form hro
    rw [hv']; rfl
  case c3 => unfold maxLen; omega
  case c4 => omega
  case c5 => simp; omega
  · intro v' w' hownV' hgrow hz hvb
    obtain ⟨g1, g2, g3, g4, g5⟩ := hgrow
    have hg : ∀ k, k < w.heap.size → v.ownBlock ≠ some k → w'.heap[k]? = w.heap[k]? := fun k hk hne => by
      rw [g5 k (by simp; omega) (fun e => hne e.symm), Below.heap_alloc _ _ _ hk]
    have hM : OwnM w' B v' (R ++ [l]) := by
      exact OwnV.snoc (q := (w.alloc (.cells #[rv] 39)).heap.size) ⟨h1, h2, h3⟩ hb hB hro hownV' hg hvb (by simp)
    obtain ⟨b', c', hv', _⟩ := hM.form
    rw [show (R ++ [l]).length = R.length + 1 by simp] at hv'
    subst hv'
    exact h b' c' w' hM (((Below.refl B w).alloc (by omega) _).grown ⟨g1, g2, g3, g4, g5⟩ (by simp; omega) (fun k hk => (own_lt h2 hk).1)) hg
end Go.Proofs.YtgkceafhagfkhaaDoor.V
