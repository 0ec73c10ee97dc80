/- Texts laid together: Pck. -/
import Derived.Test.YtlljnfljcdljaabGreatQz5
import Derived.Test.YtlljnfljcdljaabGreatQz4
import Derived.Test.YtlljnfljcdljaabGreatQz26
set_option linter.unusedSimpArgs false
set_option linter.unusedVariables false
set_option linter.unusedSectionVars false
namespace Go.Proofs.YtlljnfljcdljaabGreat
namespace M
theorem filter_ids (L : List (List Int)) (p : List Int → Bool) : ((List.range L.length).filter fun i => p (L.getD i [])).map (fun i => L.getD i []) = L.filter p := by
  have h : (List.range L.length).map (fun i => L.getD i []) = L := by
    apply List.ext_getElem
    · simp
    · intro k k1 k2
      simp only [List.getElem_map, List.getElem_range]
      rw [List.getD_eq_getElem?_getD, List.getElem?_eq_getElem k2, Option.getD_some]
  conv => rhs; rw [← h]
  rw [List.filter_map]
  rfl
/-- The chosen places among the first k. -/
def idsK (L : List (List Int)) (p : List Int → Bool) (k : Nat) : List Nat := (List.range k).filter fun i => p (L.getD i [])
theorem idsK_next (L : List (List Int)) (p : List Int → Bool) (k : Nat) : idsK L p (k + 1) = idsK L p k ++ (if p (L.getD k []) then [k] else []) := by
  unfold idsK
  rw [List.range_succ, List.filter_append]
  congr 1
  by_cases h : p (L.getD k []) = true
  · rw [if_pos h]; rw [List.getD_eq_getElem?_getD] at h; simp [h]
  · rw [if_neg h]; rw [List.getD_eq_getElem?_getD] at h; simp [h]
theorem idsK_len (L : List (List Int)) (p : List Int → Bool) (k : Nat) : (idsK L p k).length ≤ k := by
  unfold idsK
  exact Nat.le_trans (List.length_filter_le _ _) (by simp)
theorem idsK_lt {L : List (List Int)} {p : List Int → Bool} {k i : Nat} (h : i ∈ idsK L p k) : i < k := List.mem_range.1 (List.mem_filter.1 h).1
theorem idsK_up (L : List (List Int)) (p : List Int → Bool) (k : Nat) : (idsK L p k).Pairwise (fun x y => x < y) := List.Pairwise.filter _ List.pairwise_lt_range
end M
namespace V
open Go.RowKit
theorem own_move {w w' : World} {B B' : Nat} {rv : Value} {l : List Int} (h : Own w B rv l) (hk : ∀ k, rv.ownBlock = some k → w'.heap[k]? = w.heap[k]? ∧ B' ≤ k) : Own w' B' rv l := by
  obtain ⟨h1, h2⟩ := h
  rcases h2 with h2 | ⟨g, cap, cur, e, hB, hh, r⟩
  · exact ⟨h1, .inl h2⟩
  · obtain ⟨k1, k2⟩ := hk g (by rw [e]; rfl)
    exact ⟨h1, .inr ⟨g, cap, cur, e, k2, by rw [k1]; exact hh, r⟩⟩
theorem getD_map_nat {α : Type} (f : Nat → α) (ids : List Nat) (d : α) (i : Nat) (hi : i < ids.length) : (ids.map f).getD i d = f ids[i] := by
  rw [List.getD_eq_getElem?_getD, List.getElem?_map, List.getElem?_eq_getElem hi]
  rfl
theorem OwnV.pick {w w' : World} {B B' : Nat} {v v' : Value} {R : List (List Int)} {V : List Value} (h : OwnV w B v R V) (ids : List Nat) (hid : ids.Pairwise (fun x y => x < y)) (hlt : ∀ i, i ∈ ids → i < R.length)
    (ho : w'.ownsRow B' 32 1 v' ids.length (ids.map fun i => V.getD i (.slice none 0 0)))
    (hk : ∀ i k, i < R.length → (V.getD i (.slice none 0 0)).ownBlock = some k → w'.heap[k]? = w.heap[k]? ∧ B' ≤ k ∧ v'.ownBlock ≠ some k) :
    OwnV w' B' v' (ids.map fun i => R.getD i []) (ids.map fun i => V.getD i (.slice none 0 0)) := by
  obtain ⟨h1, h2, h3, h4, h5⟩ := h
  have hl : (ids.map fun i => R.getD i []).length = ids.length := by simp
  refine ⟨by simp, by rw [hl]; exact ho, fun i hi => ?_, fun i hi k e => ?_, fun i j hi hj hne k e => ?_⟩
  · rw [hl] at hi
    rw [getD_map_nat _ _ _ _ hi, getD_map_nat _ _ _ _ hi]
    have hm := hlt _ (List.getElem_mem hi)
    exact own_move (h3 _ hm) fun k e => ⟨(hk _ k hm e).1, (hk _ k hm e).2.1⟩
  · rw [hl] at hi
    rw [getD_map_nat _ _ _ _ hi] at e
    exact (hk _ k (hlt _ (List.getElem_mem hi)) e).2.2
  · rw [hl] at hi hj
    rw [getD_map_nat _ _ _ _ hi] at e
    rw [getD_map_nat _ _ _ _ hj]
    refine h5 _ _ (hlt _ (List.getElem_mem hi)) (hlt _ (List.getElem_mem hj)) (fun q => ?_) k e
    rcases Nat.lt_or_gt_of_ne hne with hij | hij
    · have := List.pairwise_iff_getElem.1 hid i j hi hj hij; omega
    · have := List.pairwise_iff_getElem.1 hid j i hj hi hij; omega
theorem OwnV.keep {w w' : World} {B : Nat} {v : Value} {R : List (List Int)} {V : List Value} (h : OwnV w B v R V) (hk : ∀ k, B ≤ k → k < w.heap.size → w'.heap[k]? = w.heap[k]?) : OwnV w' B v R V := by
  obtain ⟨h1, h2, h3, h4, h5⟩ := h
  exact ⟨h1, ownsRow_keep h2 (fun k hv => hk k (own_lt h2 hv).1 (own_lt h2 hv).2), fun i hi => (h3 i hi).keep hk, h4, h5⟩
theorem OwnV.below {w w' : World} {B : Nat} {v : Value} {R : List (List Int)} {V : List Value} (h : OwnV w B v R V) (hb : Below w.heap.size w w') : OwnV w' B v R V := h.keep (fun k _ h2 => hb.block k h2)
theorem row_lit0 (w : World) (B : Nat) (hB : B ≤ w.heap.size) : (w.alloc (.cells #[] 32)).ownsRow B 32 1 (.slice (some ⟨w.heap.size, 0, none⟩) 0 0) 0 [] := by
  obtain ⟨V, h1, h2, -⟩ := ownM_lit0 w B hB
  obtain rfl : V = [] := List.eq_nil_of_length_eq_zero h1
  exact h2
/-- One row of an owned matrix, with its value. -/
theorem OwnV.cell {w : World} {B : Nat} {a : Option Addr} {n cap : Nat} {R : List (List Int)} {V : List Value} (h : OwnV w B (.slice a n cap) R V) (i : Nat) (hi : i < n) :
    ∃ g ra rc, a = some ⟨g, 0, none⟩ ∧ V.getD i (.slice none 0 0) = .slice ra (R.getD i []).length rc ∧ w.cell? ⟨g, i, none⟩ = some (.slice ra (R.getD i []).length rc) ∧ Ints .i64 w ra (R.getD i []).length (R.getD i []) := by
  obtain ⟨h1, h2, h3, h4, h5⟩ := h
  obtain ⟨a', c', hv, hc, hm, hg⟩ := own_form h2
  injection hv with e1 e2 e3
  subst e1 e2 e3
  obtain ⟨g, rfl, hB, hlt⟩ := hg (by omega)
  obtain ⟨ra, rc, hv, hI⟩ := (h3 i hi).ints
  refine ⟨g, ra, rc, rfl, hv, ?_, hI⟩
  have := World.ownsRow.cellAt h2 i (by omega)
  rw [this, ← hv]
  simp [h1, hi]
theorem appendVal (w : World) {ops : Array Oper} {rest : List Oper} {o : Oper} {a : Act} {Q : Exit → Act → World → Prop} (hgd : o.guard = none) (s x : Operand)
    (ho : o.op = .call { callee := .builtin .append, args := #[s, x], argTypes := #[22, 22] }) (B : Nat) (v : Value) (V : List Value) (ra : Option Addr) (L rc n : Nat) (hs : a.eval s = v) (hown : w.ownsRow B 32 1 v n V)
    (hx : a.eval x = .slice (some ⟨w.heap.size, 0, none⟩) 1 1) (hlen : n ≤ 2000000) (hB : B ≤ w.heap.size)
    (h : ∀ b' c' w', w'.ownsRow B 32 1 (.slice b' (n + 1) c') (n + 1) (V ++ [.slice ra L rc]) → Below B w w' → (∀ k, k < w.heap.size → v.ownBlock ≠ some k → w'.heap[k]? = w.heap[k]?) → wpList Tryz.prog ops Q rest (a.put o.dst (.slice b' (n + 1) c')) w') :
    wpList Tryz.prog ops Q (o :: rest) a (w.alloc (.cells #[.slice ra L rc] 32)) := by
  obtain ⟨i0, hi, hz0, hz1, hz2⟩ := info_parts infoS64
  have hown2 : (w.alloc (.cells #[.slice ra L rc] 32)).ownsRow B 32 1 v n V := World.ownsRow.alloc hown _
  have hVl : V.length = n := by have := hown.1; omega
  refine wpList_append_own_at (w := w.alloc (.cells #[.slice ra L rc] 32)) hgd s x 22 ho B 32 i0 (.slice none 0 0) 1 24 Tryz.underlying22 hi hz0 hz1 hz2 rfl (by decide) v _ _ hs hown2 ⟨w.heap.size, 0, none⟩ 1 1 [.slice ra L rc] hx rfl (cell_one_new _ _ _) ?c2 ?c3 ?c4 ?c5 ?_
  case c2 => intro u hu; simp at hu; subst hu; rfl
  case c3 => unfold maxLen; omega
  case c4 => omega
  case c5 => simp; omega
  · intro v' w' hown' hgrow hz hvb
    have ho' : w'.ownsRow B 32 1 v' (n + 1) (V ++ [.slice ra L rc]) := by simpa using hown'
    obtain ⟨b', c', hv', _⟩ := own_form ho'
    subst hv'
    refine h b' c' w' ho' (((Below.refl B w).alloc hB _).grown hgrow (by simp; omega) (fun k hk => (own_lt hown hk).1)) (fun k hk hne => ?_)
    obtain ⟨g1, g2, g3, g4, g5⟩ := hgrow
    rw [g5 k (by simp; omega) (fun e => hne e.symm), Below.heap_alloc _ _ _ hk]
end V
end Go.Proofs.YtlljnfljcdljaabGreat
