/- Texts laid together: OwnP. -/
import Derived.Test.YtjbffpmelglegaaQa2
import Derived.Test.YtjbffpmelglegaaQa4
import Derived.Deep.AppendLies
set_option linter.unusedSimpArgs false
set_option linter.unusedVariables false
set_option linter.unusedSectionVars false
namespace Go.Proofs.Ytjbffpmelglegaa.V
open Go.RowKit
/-- An owned matrix all of whose blocks have the property P. -/
def OwnP (w : World) (B : Nat) (P : Nat → Prop) (v : Value) (R : List (List Int)) : Prop :=
  ∃ V, OwnV w B v R V ∧ (∀ k, v.ownBlock = some k → P k) ∧ ∀ i, i < R.length → ∀ k, (V.getD i (.slice none 0 0)).ownBlock = some k → P k
theorem OwnP.toM {w : World} {B : Nat} {P : Nat → Prop} {v : Value} {R : List (List Int)} (h : OwnP w B P v R) : OwnM w B v R := by
  obtain ⟨V, h, -⟩ := h
  exact ⟨V, h⟩
theorem OwnM.toP {w : World} {B : Nat} {P : Nat → Prop} {v : Value} {R : List (List Int)} (h : OwnM w B v R) (hP : ∀ k, B ≤ k → k < w.heap.size → P k) : OwnP w B P v R := by
  obtain ⟨V, h⟩ := h
  refine ⟨V, h, fun k hk => ?_, fun i hi k hk => ?_⟩
  · have := own_lt h.2.1 hk; exact hP k this.1 this.2
  · have := own_lt (h.2.2.1 i hi) hk; exact hP k this.1 this.2
theorem OwnP.imp {w : World} {B : Nat} {P Q : Nat → Prop} {v : Value} {R : List (List Int)} (h : OwnP w B P v R) (hP : ∀ k, P k → Q k) : OwnP w B Q v R := by
  obtain ⟨V, h, h1, h2⟩ := h
  exact ⟨V, h, fun k hk => hP k (h1 k hk), fun i hi k hk => hP k (h2 i hi k hk)⟩
theorem OwnP.mono {w : World} {B B' : Nat} {P : Nat → Prop} {v : Value} {R : List (List Int)} (h : OwnP w B P v R) (hb : B' ≤ B) : OwnP w B' P v R := by
  obtain ⟨V, ⟨h1, h2, h3, h4, h5⟩, k1, k2⟩ := h
  exact ⟨V, ⟨h1, World.ownsRow.mono h2 hb, fun i hi => (h3 i hi).mono hb, h4, h5⟩, k1, k2⟩
theorem OwnP.keep {w w' : World} {B : Nat} {P : Nat → Prop} {v : Value} {R : List (List Int)} (h : OwnP w B P v R) (hk : ∀ k, P k → B ≤ k → k < w.heap.size → w'.heap[k]? = w.heap[k]?) : OwnP w' B P v R := by
  obtain ⟨V, ⟨h1, h2, h3, h4, h5⟩, k1, k2⟩ := h
  exact ⟨V, ⟨h1, ownsRow_keep h2 (fun k hv => hk k (k1 k hv) (own_lt h2 hv).1 (own_lt h2 hv).2), fun i hi => ownsRow_keep (h3 i hi) (fun k hv => hk k (k2 i hi k hv) (own_lt (h3 i hi) hv).1 (own_lt (h3 i hi) hv).2), h4, h5⟩, k1, k2⟩
theorem OwnP.below {w w' : World} {B : Nat} {P : Nat → Prop} {v : Value} {R : List (List Int)} (h : OwnP w B P v R) (hb : Below w.heap.size w w') : OwnP w' B P v R :=
  h.keep (fun k _ _ h2 => hb.block k h2)
theorem OwnV.at {w : World} {B n cap : Nat} {a : Option Addr} {R : List (List Int)} {V : List Value} (h : OwnV w B (.slice a n cap) R V) (i j : Nat) (hi : i < n) (hj : j < (R.getD i []).length) :
    ∃ g q L c x, a = some ⟨g, 0, none⟩ ∧ B ≤ g ∧ B ≤ q ∧ L = (R.getD i []).length ∧ x = (R.getD i []).getD j 0 ∧ w.cell? ⟨g, i, none⟩ = some (.slice (some ⟨q, 0, none⟩) L c) ∧ w.cell? ⟨q, j, none⟩ = some (.int .i64 x) ∧ w.frozen? ⟨q, j, none⟩ = false ∧
      (V.getD i (.slice none 0 0)).ownBlock = some q ∧ ∀ y, OwnV (w.setCell ⟨q, j, none⟩ (.int .i64 y)) B (.slice a n cap) (R.set i ((R.getD i []).set j y)) V := by
  obtain ⟨h1, h2, h3, h4, h5⟩ := h
  obtain ⟨a', c', hv, hc, hm, hg⟩ := own_form h2
  injection hv with e1 e2 e3
  subst e1 e2 e3
  obtain ⟨g, rfl, hBg, hlt⟩ := hg (by omega)
  have hrow := h3 i hi
  obtain ⟨ra, rc, hrv, hrc, hrm, hrg⟩ := own_form hrow
  obtain ⟨q, rfl, hBq, hqlt⟩ := hrg (by omega)
  have hcell := World.ownsRow.cellAt h2 i (by omega)
  have hVi : V[i]? = some (V.getD i (.slice none 0 0)) := by simp [h1, hi]
  have hrow' := hrow
  rw [hrv] at hrow'
  have hcell2 := World.ownsRow.cellAt hrow' j (by omega)
  refine ⟨g, q, _, rc, _, rfl, hBg, hBq, rfl, rfl, ?_, ?_, World.ownsRow.frozenAt hrow' j, by rw [hrv]; rfl, fun y => ?_⟩
  · rw [hcell, hVi, hrv]
  · rw [hcell2]
    generalize R.getD i [] = l at hj
    simp [hj]
  · have hqg : q ≠ g := fun e => h4 i hi q (by rw [hrv]; rfl) (by rw [e]; rfl)
    refine ⟨by simpa using h1, ?_, ?_, ?_, ?_⟩
    · rw [List.length_set]
      exact ownsRow_keep h2 (fun k hv => Below.heap_setCell _ _ _ _ (by
        simp only [Value.ownBlock, Option.some.injEq] at hv; show k ≠ q; omega))
    · intro t ht
      simp only [List.length_set] at ht
      rw [getD_set _ _ _ _ _ (by omega)]
      by_cases e : t = i
      · subst e
        rw [if_pos rfl, hrv]
        exact Own.set hrow' j y
      · rw [if_neg e]
        refine ownsRow_keep (h3 t ht) (fun k hv => Below.heap_setCell _ _ _ _ ?_)
        show k ≠ q
        intro e2
        subst e2
        exact h5 t i ht hi e k hv (by rw [hrv]; rfl)
    · intro t ht
      simp only [List.length_set] at ht
      exact h4 t ht
    · intro t s ht hs
      simp only [List.length_set] at ht hs
      exact h5 t s ht hs

/-- What is needed to read and to write the entry at i, j. -/
theorem OwnP.at {w : World} {B n cap : Nat} {P : Nat → Prop} {a : Option Addr} {R : List (List Int)} (h : OwnP w B P (.slice a n cap) R) (i j : Nat) (hi : i < n) (hj : j < (R.getD i []).length) :
    ∃ g q L c x, a = some ⟨g, 0, none⟩ ∧ B ≤ g ∧ B ≤ q ∧ P q ∧ L = (R.getD i []).length ∧ x = (R.getD i []).getD j 0 ∧ w.cell? ⟨g, i, none⟩ = some (.slice (some ⟨q, 0, none⟩) L c) ∧ w.cell? ⟨q, j, none⟩ = some (.int .i64 x) ∧ w.frozen? ⟨q, j, none⟩ = false ∧
      ∀ y, OwnP (w.setCell ⟨q, j, none⟩ (.int .i64 y)) B P (.slice a n cap) (R.set i ((R.getD i []).set j y)) := by
  have hn := (OwnP.toM h).len
  obtain ⟨V, h, k1, k2⟩ := h
  obtain ⟨g, q, L, c, x, e1, e2, e3, e4, e5, c1, c2, f, hq, ho⟩ := h.at i j hi hj
  exact ⟨g, q, L, c, x, e1, e2, e3, k2 i (by omega) q hq, e4, e5, c1, c2, f, fun y => ⟨V, ho y, k1, fun i hi => k2 i (by simpa using hi)⟩⟩
theorem OwnV.snocV {w w1 w2 : World} {B q : Nat} {v v' rv : Value} {R : List (List Int)} {V : List Value} {l : List Int} (h : OwnV w B v R V) (hb : Below w.heap.size w w1) (hB : B ≤ w.heap.size) (ho : Own w1 w.heap.size rv l)
    (hw2 : w2.ownsRow B 24 1 v' (R.length + 1) (V ++ [rv])) (hg : ∀ k, k < w1.heap.size → v.ownBlock ≠ some k → w2.heap[k]? = w1.heap[k]?)
    (hvb : v'.ownBlock = v.ownBlock ∨ v'.ownBlock = some q) (hq : w1.heap.size ≤ q) : OwnV w2 B v' (R ++ [l]) (V ++ [rv]) := by
  obtain ⟨h1, h2, h3, h4, h5⟩ := h
  have eV : ∀ j, j < R.length → (V ++ [rv]).getD j (.slice none 0 0) = V.getD j (.slice none 0 0) := fun j hj => by
    simp [List.getD_eq_getElem?_getD, List.getElem?_append_left, h1, hj]
  have eV1 : (V ++ [rv]).getD R.length (.slice none 0 0) = rv := by
    simp [List.getD_eq_getElem?_getD, ← h1]
  have eR : ∀ j, j < R.length → (R ++ [l]).getD j [] = R.getD j [] := fun j hj => by
    simp [List.getD_eq_getElem?_getD, List.getElem?_append_left, hj]
  have eR1 : (R ++ [l]).getD R.length [] = l := by
    simp [List.getD_eq_getElem?_getD]
  have hold : ∀ j, j < R.length → ∀ k, (V.getD j (.slice none 0 0)).ownBlock = some k → k < w.heap.size := fun j hj k hk => (own_lt (h3 j hj) hk).2
  have hvn : ∀ k, k < w1.heap.size → v.ownBlock ≠ some k → v'.ownBlock ≠ some k := fun k hk hne => by
    rcases hvb with e | e
    · rw [e]; exact hne
    · rw [e]; intro e2; simp only [Option.some.injEq] at e2; omega
  have hvold : ∀ k, v.ownBlock = some k → k < w.heap.size := fun k hk => (own_lt h2 hk).2
  have hs := hb.size
  refine ⟨by simp [h1], by simpa using hw2, ?_, ?_, ?_⟩
  · intro j hj
    simp only [List.length_append, List.length_singleton] at hj
    by_cases e : j < R.length
    · rw [eV j e, eR j e]
      exact ownsRow_keep (h3 j e) (fun k hv => by
        have := hold j e k hv
        rw [hg k (by omega) (h4 j e k hv)]; exact hb.block k this)
    · obtain rfl : j = R.length := by omega
      rw [eV1, eR1]
      refine (ownsRow_keep ho (fun k hv => hg k (own_lt ho hv).2 (fun e2 => ?_)) : Own _ _ _ _).mono hB
      have := (own_lt ho hv).1
      have := hvold k e2
      omega
  · intro j hj k hk
    simp only [List.length_append, List.length_singleton] at hj
    by_cases e : j < R.length
    · rw [eV j e] at hk
      have := hold j e k hk
      exact hvn k (by omega) (h4 j e k hk)
    · obtain rfl : j = R.length := by omega
      rw [eV1] at hk
      have := own_lt ho hk
      exact hvn k this.2 (fun e2 => by have := hvold k e2; omega)
  · intro i j hi hj hne k hk
    simp only [List.length_append, List.length_singleton] at hi hj
    by_cases e : i < R.length
    · rw [eV i e] at hk
      by_cases e2 : j < R.length
      · rw [eV j e2]; exact h5 i j e e2 hne k hk
      · obtain rfl : j = R.length := by omega
        rw [eV1]
        intro e3
        have := hold i e k hk
        have := (own_lt ho e3).1
        omega
    · obtain rfl : i = R.length := by omega
      rw [eV1] at hk
      have e2 : j < R.length := by omega
      rw [eV j e2]
      intro e3
      have := hold j e2 k e3
      have := (own_lt ho hk).1
      omega
/-- A row of its own is appended, at a step of a region. -/
theorem step_appendRowP (w0 w : World) {ops : Array Oper} {o : Oper} {a : Act} {K : Act → World → Prop} {Q : Exit → Act → World → Prop} {E : Prop} (hgd : o.guard = none) (s x : Operand)
    (ho : o.op = .call { callee := .builtin .append, args := #[s, x], argTypes := #[54, 54] }) (B : Nat) (P : Nat → Prop) (v rv : Value) (R : List (List Int)) (l : List Int) (n g : Nat) (hn : R.length = n) (hs : a.eval s = v) (hown : OwnP w0 B P v R) (hb : Below w0.heap.size w0 w) (hro : Own w w0.heap.size rv l)
    (hx : a.eval x = .slice (some ⟨g, 0, none⟩) 1 1) (hy : w.cell? ⟨g, 0, none⟩ = some rv) (hlen : n ≤ 2000000) (hB : B ≤ w0.heap.size) (hP : ∀ k, w0.heap.size ≤ k → P k)
    (h : ∀ b' c' w', OwnP w' B P (.slice b' (n + 1) c') (R ++ [l]) → Below B w w' → (∀ k, k < w.heap.size → v.ownBlock ≠ some k → w'.heap[k]? = w.heap[k]?) → K (a.put o.dst (.slice b' (n + 1) c')) w') :
    if Region.wanted o (yielded ops a.tmps) = true then Oper.wp Try.prog o a w K Q else E := by
  subst hn
  obtain ⟨i0, hi, hz0, hz1, hz2⟩ := info_parts infoS64
  have hsz := hb.size
  obtain ⟨V, ⟨h1, h2, h3⟩, k1, k2⟩ := hown
  have hwV : w.ownsRow B 24 1 v R.length V := ownsRow_keep h2 (fun k hv => hb.block k (own_lt h2 hv).2)
  refine step_append_lies w hgd s x 54 ho B 24 i0 (.slice none 0 0) 1 24 Try.underlying54 hi hz0 hz1 hz2 rfl (by decide) v R.length V hs hwV ⟨g, 0, none⟩ 1 1 [rv] hx rfl ?c1 ?c2 (by decide) ?c3 ?c4 (Nat.le_trans hB hsz) w.heap.size rfl ?_
  case c1 =>
    intro j u hj
    have : j = 0 := by
      cases j with
      | zero => rfl
      | succ j => simp at hj
    subst this
    simp at hj
    subst hj
    exact hy
  case c2 =>
    intro u hu; simp at hu; subst hu
    obtain ⟨b', c', hv', _⟩ := own_form hro
    rw [hv']; rfl
  case c3 => unfold maxLen; omega
  case c4 => omega
  · intro g' cap' w' hown' hgrow hat hlt
    have hg : ∀ k, k < w.heap.size → v.ownBlock ≠ some k → w'.heap[k]? = w.heap[k]? := fun k hk hne => by
      obtain ⟨_, _, _, _, g5⟩ := hgrow
      exact g5 k hk (fun e => hne e.symm)
    have hV := OwnV.snocV (q := w.heap.size) (v' := .slice (some ⟨g', 0, none⟩) (R.length + 1) cap') ⟨h1, h2, h3⟩ hb hB hro hown' hg (by
      rcases hat with e | e
      · left; rw [e]; rfl
      · right; rw [e]; rfl) (Nat.le_refl _)
    refine h _ _ w' ⟨V ++ [rv], hV, fun k hk => ?_, fun i hi k hk => ?_⟩ ((Below.refl B w).grown hgrow (Nat.le_trans hB hsz) (fun k hk => (own_lt h2 hk).1)) hg
    · have hk' : g' = k := by simpa [Value.ownBlock] using hk
      subst hk'
      rcases hat with e | e
      · exact k1 _ e
      · exact hP _ (by omega)
    · have hlen : V.length = R.length := h1
      simp only [List.length_append, List.length_singleton] at hi
      by_cases q : i < R.length
      · rw [List.getD_eq_getElem?_getD, List.getElem?_append_left (by omega), ← List.getD_eq_getElem?_getD] at hk
        exact k2 i q k hk
      · obtain rfl : i = V.length := by omega
        have e : (V ++ [rv]).getD V.length (.slice none 0 0) = rv := by simp [List.getD_eq_getElem?_getD]
        rw [e] at hk
        exact hP k (own_lt hro hk).1
end Go.Proofs.Ytjbffpmelglegaa.V
