/- Splitting texts, plainly; both sides of ReadMatrix as plain functions, and that they are equal. -/
import Derived.Test.YtackennmjmobdaaDoorRead
import Derived.Test.YtackennmjmobdaaDoorMatM
import Derived.Lib.Split
import Derived.Lib.SplitLaws
namespace Go.Proofs.YtackennmjmobdaaDoor.M
open Go.Lib

def splitL (c : UInt8) : List UInt8 → List (List UInt8)
  | [] => [[]]
  | b :: l => if b = c then [] :: splitL c l else (b :: (splitL c l).headD []) :: (splitL c l).tail
theorem splitL_ne (c : UInt8) (l : List UInt8) : splitL c l ≠ [] := by
  cases l with
  | nil => simp [splitL]
  | cons b l => unfold splitL; split <;> simp
theorem splitL_miss (c : UInt8) (l : List UInt8) (h : ∀ x ∈ l, x ≠ c) : splitL c l = [l] := by
  induction l with
  | nil => rfl
  | cons b l ih =>
    rw [splitL, if_neg (h b (by simp)), ih (fun x hx => h x (by simp [hx]))]
    rfl
theorem splitL_hit (c : UInt8) (p r : List UInt8) (h : ∀ x ∈ p, x ≠ c) : splitL c (p ++ c :: r) = p :: splitL c r := by
  induction p with
  | nil => rw [List.nil_append, splitL, if_pos rfl]
  | cons b l ih =>
    rw [List.cons_append, splitL, if_neg (h b (by simp)), ih (fun x hx => h x (by simp [hx]))]
    rfl
theorem splitL_len (c : UInt8) (l : List UInt8) : (splitL c l).length ≤ l.length + 1 := by
  induction l with
  | nil => simp [splitL]
  | cons b l ih =>
    unfold splitL
    have := List.length_pos_iff.2 (splitL_ne c l)
    split
    · simp only [List.length_cons]; omega
    · simp only [List.length_cons, List.length_tail]; omega
theorem occ_one (l : List UInt8) (c : UInt8) (j : Nat) : occAt l [c] j = decide (l[j]? = some c) := by
  unfold occAt
  rw [← List.head?_drop]
  cases l.drop j with
  | nil => simp
  | cons b r =>
    by_cases e : b = c
    · subst e; simp [List.isPrefixOf]
    · have e' : ¬ (c = b) := fun h => e h.symm
      simp [List.isPrefixOf, e, e']
theorem index_one (l : List UInt8) (c : UInt8) : (index l [c] = -1 ∧ ∀ x ∈ l, x ≠ c) ∨ ∃ i : Nat, index l [c] = i ∧ i < l.length ∧ l = l.take i ++ c :: l.drop (i + 1) ∧ ∀ x ∈ l.take i, x ≠ c := by
  rcases index_spec l [c] with ⟨h, hj⟩ | ⟨i, h, hi, ho, hn⟩
  · refine .inl ⟨h, fun x hx e => ?_⟩
    obtain ⟨j, hj1, hj2⟩ := List.getElem_of_mem hx
    have := hj j (by omega)
    rw [occ_one, List.getElem?_eq_getElem hj1, hj2, e] at this
    simp at this
  · rw [occ_one] at ho
    have ho := of_decide_eq_true ho
    have hlt : i < l.length := by
      rcases Nat.lt_or_ge i l.length with h | h
      · exact h
      · rw [List.getElem?_eq_none h] at ho; cases ho
    refine .inr ⟨i, h, hlt, ?_, fun x hx e => ?_⟩
    · rw [List.getElem?_eq_getElem hlt] at ho
      have ho := Option.some.inj ho
      conv => lhs; rw [← List.take_append_drop i l, List.drop_eq_getElem_cons hlt, ho]
    · obtain ⟨j, hj1, hj2⟩ := List.getElem_of_mem hx
      rw [List.length_take] at hj1
      have := hn j (by omega)
      rw [occ_one, List.getElem?_eq_getElem (by omega)] at this
      rw [List.getElem_take] at hj2
      rw [hj2, e] at this
      simp at this
theorem splitK_eq (c : UInt8) : ∀ (k : Nat) (l : List UInt8), (splitL c l).length ≤ k + 1 → splitK [c] 0 k l = splitL c l := by
  intro k
  induction k with
  | zero =>
    intro l h
    rcases index_one l c with ⟨-, hj⟩ | ⟨i, -, -, hl, hp⟩
    · rw [splitL_miss c l hj]; rfl
    · rw [hl, splitL_hit c _ _ hp] at h
      have := List.length_pos_iff.2 (splitL_ne c (l.drop (i + 1)))
      simp only [List.length_cons] at h
      omega
  | succ k ih =>
    intro l h
    rcases index_one l c with ⟨hi, hj⟩ | ⟨i, hi, hlt, hl, hp⟩
    · rw [splitL_miss c l hj, splitK, if_pos (by rw [hi]; rfl)]
    · have e2 : splitL c l = l.take i :: splitL c (l.drop (i + 1)) := by
        conv => lhs; rw [hl, splitL_hit c _ _ hp]
      have e : (index l [c]).toNat = i := by omega
      rw [e2, splitK, if_neg (by rw [hi]; simp), e, Nat.add_zero, List.length_singleton, ih]
      rw [e2] at h
      simp only [List.length_cons] at h
      omega
theorem splitK_long (c : UInt8) : ∀ (k : Nat) (l : List UInt8), k + 1 < (splitL c l).length → (splitK [c] 0 k l).length = k + 1 := by
  intro k
  induction k with
  | zero => intro l _; rfl
  | succ k ih =>
    intro l h
    rcases index_one l c with ⟨hi, hj⟩ | ⟨i, hi, hlt, hl, hp⟩
    · rw [splitL_miss c l hj] at h; simp at h
    · have e2 : splitL c l = l.take i :: splitL c (l.drop (i + 1)) := by
        conv => lhs; rw [hl, splitL_hit c _ _ hp]
      have e : (index l [c]).toNat = i := by omega
      rw [e2] at h
      simp only [List.length_cons] at h
      rw [splitK, if_neg (by rw [hi]; simp), e, Nat.add_zero, List.length_singleton, List.length_cons, ih _ (by omega)]

/-- What strings.SplitN hands out at 11. -/
def cutN (c : UInt8) (l : List UInt8) : List (List UInt8) := splitK [c] 0 (min 11 (l.length + 1) - 1) l
theorem cutN_or (c : UInt8) (l : List UInt8) : cutN c l = splitL c l ∨ ((cutN c l).length = 11 ∧ 11 < (splitL c l).length) := by
  have h := splitL_len c l
  unfold cutN
  by_cases h1 : (splitL c l).length ≤ 11
  · exact .inl (splitK_eq c _ _ (by omega))
  · refine .inr ⟨?_, by omega⟩
    rw [splitK_long c _ _ (by omega)]
    omega
theorem cutN_len (c : UInt8) (l : List UInt8) : (cutN c l).length ≤ 11 := by
  rcases cutN_or c l with h | h
  · by_cases h1 : (splitL c l).length ≤ 11
    · rw [h]; exact h1
    · have := splitK_long c (min 11 (l.length + 1) - 1) l (by have := splitL_len c l; omega)
      unfold cutN; omega
  · omega

/-- A row that is read from its pieces. -/
def rowOf (P : List (List UInt8)) : List Int × Bool := if P.all (fun t => (readM t).2) then (P.map (fun t => (readM t).1), true) else ([], false)
/-- A matrix that is read from its rows. -/
def matOf (f : List UInt8 → List Int × Bool) (P : List (List UInt8)) : List (List Int) × Bool :=
  if P.all (fun t => (f t).2) && isMat (P.map fun t => (f t).1) then (P.map (fun t => (f t).1), true) else ([], false)
def rowS (l : List UInt8) : List Int × Bool := rowOf (splitL 44 l)
def rowI (l : List UInt8) : List Int × Bool := rowOf (cutN 44 l)
def readS (l : List UInt8) : List (List Int) × Bool := matOf rowS (splitL 59 l)
def readMI (l : List UInt8) : List (List Int) × Bool := matOf rowI (cutN 59 l)

def badRow (r : List Int × Bool) : Prop := r.2 = true → 10 < r.1.length
theorem rowOf_bad {P : List (List UInt8)} (h : 10 < P.length) : badRow (rowOf P) := by
  intro h2
  unfold rowOf at h2 ⊢
  split at h2
  · rw [if_pos (by assumption)]; simpa using h
  · cases h2
theorem rows_or (t : List UInt8) : rowI t = rowS t ∨ (badRow (rowI t) ∧ badRow (rowS t)) := by
  rcases cutN_or 44 t with h | ⟨h1, h2⟩
  · exact .inl (by rw [rowI, rowS, h])
  · exact .inr ⟨rowOf_bad (by omega), rowOf_bad (by omega)⟩
theorem matOf_bad {f : List UInt8 → List Int × Bool} {P : List (List UInt8)} {t : List UInt8} (ht : t ∈ P) (h : badRow (f t)) : matOf f P = ([], false) := by
  unfold matOf
  rw [if_neg]
  intro hc
  rw [Bool.and_eq_true] at hc
  obtain ⟨h1, h2⟩ := hc
  have h3 := h (List.all_eq_true.1 h1 t ht)
  unfold isMat at h2
  rw [Bool.and_eq_true] at h2
  have h4 := List.all_eq_true.1 h2.2 (f t).1 (List.mem_map.2 ⟨t, ht, rfl⟩)
  simp [isVec] at h4
  omega
theorem matOf_long {f : List UInt8 → List Int × Bool} {P : List (List UInt8)} (h : 10 < P.length) : matOf f P = ([], false) := by
  unfold matOf
  rw [if_neg]
  intro hc
  rw [Bool.and_eq_true] at hc
  have h2 := hc.2
  simp [isMat] at h2
  omega
theorem readM_eq (l : List UInt8) : readMI l = readS l := by
  unfold readMI readS
  rcases cutN_or 59 l with h | ⟨h1, h2⟩
  · rw [h]
    by_cases hb : ∃ t ∈ splitL 59 l, badRow (rowI t) ∧ badRow (rowS t)
    · obtain ⟨t, ht, b1, b2⟩ := hb
      rw [matOf_bad ht b1, matOf_bad ht b2]
    · have he : ∀ t ∈ splitL 59 l, rowI t = rowS t := fun t ht => by
        rcases rows_or t with e | e
        · exact e
        · exact absurd ⟨t, ht, e⟩ hb
      have e1 : (splitL 59 l).map (fun t => (rowI t).1) = (splitL 59 l).map (fun t => (rowS t).1) := List.map_congr_left fun t ht => by rw [he t ht]
      have e2 : (splitL 59 l).all (fun t => (rowI t).2) = (splitL 59 l).all (fun t => (rowS t).2) := by
        rw [Bool.eq_iff_iff, List.all_eq_true, List.all_eq_true]
        exact ⟨fun h t ht => by rw [← he t ht]; exact h t ht, fun h t ht => by rw [he t ht]; exact h t ht⟩
      unfold matOf
      rw [e1, e2]
  · rw [matOf_long (by omega), matOf_long (by omega)]
theorem readS_ok (l : List UInt8) : okM (readS l).1 := by
  unfold readS matOf
  split
  · next h =>
    rw [Bool.and_eq_true] at h
    exact .inr h.2
  · exact .inl rfl
end Go.Proofs.YtackennmjmobdaaDoor.M
