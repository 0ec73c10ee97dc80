/- Texts laid together: Civ. -/
import Derived.Test.YtlofnadpgnbmdaaGreatQa49
set_option linter.unusedSimpArgs false
set_option linter.unusedVariables false
set_option linter.unusedSectionVars false
namespace Go.Proofs.YtlofnadpgnbmdaaGreat
namespace M
theorem mem_mapI {f : Int → Int} {p : List Int} {v : Int} : hasB (p.map f) v = true ↔ ∃ k, k < p.length ∧ f (p.getD k 0) = v := by
  rw [hasB_iff, List.mem_map]
  constructor
  · rintro ⟨x, hx, rfl⟩
    obtain ⟨k, hk, rfl⟩ := List.mem_iff_getElem.1 hx
    exact ⟨k, hk, by rw [List.getD_eq_getElem?_getD, List.getElem?_eq_getElem hk]; rfl⟩
  · rintro ⟨k, hk, rfl⟩
    refine ⟨p[k], List.getElem_mem hk, ?_⟩
    rw [List.getD_eq_getElem?_getD, List.getElem?_eq_getElem hk]; rfl
/-- What the model asks of an event and what the program asks. -/
theorem vis_eq {l : List (Int × Int × Int × Int)} {p : List Int} (h : PthC l p) {v : Int} (hv : v ≠ frI l (p.getD 0 0)) : (hasB (p.map (frI l)) v || hasB (p.map (toI l)) v) = hasB (p.map (toI l)) v := by
  obtain ⟨h1, h2, h3, h4, h5, h6⟩ := h
  cases e : hasB (p.map (toI l)) v with
  | true => rw [Bool.or_true]
  | false =>
    rw [Bool.or_false]
    cases e2 : hasB (p.map (frI l)) v with
    | false => rfl
    | true =>
      exfalso
      obtain ⟨k, hk, rfl⟩ := mem_mapI.1 e2
      by_cases h0 : k = 0
      · subst h0; exact hv rfl
      · have := h3 (k - 1) (by omega)
        rw [show k - 1 + 1 = k by omega] at this
        have e3 : hasB (p.map (toI l)) (frI l (p.getD k 0)) = true := mem_mapI.2 ⟨k - 1, by omega, this⟩
        rw [e3] at e; cases e
theorem vis_first {l : List (Int × Int × Int × Int)} {p : List Int} (h : PthC l p) (hne : toI l (lstI p) ≠ frI l (p.getD 0 0)) : hasB (p.map (toI l)) (frI l (p.getD 0 0)) = false := by
  cases e : hasB (p.map (toI l)) (frI l (p.getD 0 0)) with
  | false => rfl
  | true =>
    exfalso
    obtain ⟨k, hk, hx⟩ := mem_mapI.1 e
    by_cases hl : k + 1 < p.length
    · exact h.2.2.2.2.2 k hl hx
    · have : lstI p = p.getD k 0 := by unfold lstI; rw [show p.length - 1 = k by omega]
      exact hne (by rw [this]; exact hx)
def overP (l : List (Int × Int × Int × Int)) (r0 r1 ov : Int) (c : List Int) : Bool := decide (ov < exC l (r0, r1) c)
theorem ext_ne {l : List (Int × Int × Int × Int)} {f : Nat} {p : List Int} (h : PthC l p) : ∀ c ∈ extC l f p, c ≠ [] := fun c hc e => by
  have := (cir_t (ext_mem f p h c hc).1).1
  rw [e] at this; simp at this
theorem all_ne {l : List (Int × Int × Int × Int)} {N : Nat} : ∀ c ∈ allC l N, c ≠ [] := fun c hc e => by
  have := (cir_t (all_mem hc).1).1
  rw [e] at this; simp at this
theorem fnd_if {P : List Int → Bool} {b : Bool} {L : List (List Int)} : fndC P (if b then L else []) = if b then fndC P L else [] := by cases b <;> rfl
/-- The model's growing of a path that has not come back. -/
theorem ext_pick {l : List (Int × Int × Int × Int)} {P : List Int → Bool} {f : Nat} {p : List Int} (h : PthC l p) (hne : toI l (lstI p) ≠ frI l (p.getD 0 0)) : fndC P (extC l (f + 1) p) = pick (fun i : Nat => if okC l p i then fndC P (extC l f (p ++ [(i : Int)])) else []) l.length 0 := by
  have e : extC l (f + 1) p = if toI l (lstI p) = frI l (p.getD 0 0) then [p] else (List.range l.length).flatMap fun i : Nat => if okC l p i then extC l f (p ++ [(i : Int)]) else [] := rfl
  rw [e, if_neg hne, List.range_eq_range']
  have hL : ∀ i, i < l.length → ∀ c ∈ (fun i : Nat => if okC l p i then extC l f (p ++ [(i : Int)]) else []) i, c ≠ [] := fun i hi c hc => by
    by_cases ho : okC l p i = true
    · simp only [ho, if_true] at hc
      exact ext_ne (pth_snoc h hne hi ho) c hc
    · simp only [Bool.not_eq_true] at ho
      simp [ho] at hc
  have key : ∀ (d k : Nat), k + d ≤ l.length → fndC P ((List.range' k d).flatMap fun i : Nat => if okC l p i then extC l f (p ++ [(i : Int)]) else []) = pick (fun i : Nat => if okC l p i then fndC P (extC l f (p ++ [(i : Int)])) else []) d k := by
    intro d
    induction d with
    | zero => intro k _; rfl
    | succ d ih =>
      intro k hk
      rw [List.range'_succ, List.flatMap_cons]
      show (List.find? P _).getD [] = if (if okC l p k then fndC P (extC l f (p ++ [(k : Int)])) else []).length = 0 then pick _ d (k + 1) else (if okC l p k then fndC P (extC l f (p ++ [(k : Int)])) else [])
      rw [← fnd_if, List.find?_append]
      cases e : (if okC l p k then extC l f (p ++ [(k : Int)]) else []).find? P with
      | none =>
        have e2 : fndC P (if okC l p k then extC l f (p ++ [(k : Int)]) else []) = [] := by unfold fndC; rw [e]; rfl
        rw [e2, if_pos (show ([] : List Int).length = 0 from rfl), ← ih (k + 1) (by omega)]
        rfl
      | some x =>
        have e2 : fndC P (if okC l p k then extC l f (p ++ [(k : Int)]) else []) = x := by unfold fndC; rw [e]; rfl
        rw [e2, if_neg (fun q => hL k (by omega) x (List.mem_of_find?_eq_some e) (List.eq_nil_of_length_eq_zero q))]
        rfl
  exact key l.length 0 (by omega)
theorem all_pick {l : List (Int × Int × Int × Int)} {P : List Int → Bool} (N : Nat) : fndC P (allC l N) = pick (fun i : Nat => if frI l i ≤ toI l i then fndC P (extC l N [(i : Int)]) else []) l.length 0 := by
  have e : allC l N = (List.range l.length).flatMap fun i : Nat => if frI l i ≤ toI l i then extC l N [(i : Int)] else [] := rfl
  have hi : ∀ {b : Prop} [Decidable b] {L : List (List Int)}, fndC P (if b then L else []) = if b then fndC P L else [] := by intro b _ L; split <;> rfl
  rw [e, List.range_eq_range']
  have hL : ∀ i, i < l.length → ∀ c ∈ (fun i : Nat => if frI l i ≤ toI l i then extC l N [(i : Int)] else []) i, c ≠ [] := fun i hi c hc => by
    by_cases ho : frI l i ≤ toI l i
    · simp only [ho, if_true] at hc
      exact ext_ne (pth_one hi ho) c hc
    · simp [ho] at hc
  have key : ∀ (d k : Nat), k + d ≤ l.length → fndC P ((List.range' k d).flatMap fun i : Nat => if frI l i ≤ toI l i then extC l N [(i : Int)] else []) = pick (fun i : Nat => if frI l i ≤ toI l i then fndC P (extC l N [(i : Int)]) else []) d k := by
    intro d
    induction d with
    | zero => intro k _; rfl
    | succ d ih =>
      intro k hk
      rw [List.range'_succ, List.flatMap_cons]
      show (List.find? P _).getD [] = if (if frI l k ≤ toI l k then fndC P (extC l N [(k : Int)]) else []).length = 0 then pick _ d (k + 1) else (if frI l k ≤ toI l k then fndC P (extC l N [(k : Int)]) else [])
      rw [← hi, List.find?_append]
      cases e : (if frI l k ≤ toI l k then extC l N [(k : Int)] else []).find? P with
      | none =>
        have e2 : fndC P (if frI l k ≤ toI l k then extC l N [(k : Int)] else []) = [] := by unfold fndC; rw [e]; rfl
        rw [e2, if_pos (show ([] : List Int).length = 0 from rfl), ← ih (k + 1) (by omega)]
        rfl
      | some x =>
        have e2 : fndC P (if frI l k ≤ toI l k then extC l N [(k : Int)] else []) = x := by unfold fndC; rw [e]; rfl
        rw [e2, if_neg (fun q => hL k (by omega) x (List.mem_of_find?_eq_some e) (List.eq_nil_of_length_eq_zero q))]
        rfl
  exact key l.length 0 (by omega)
theorem posi_all {l : List (Int × Int × Int × Int)} {N : Nat} (he : evOk l N) (hN : N ≤ 10) (hlv : ∀ c, cirB l c = true → tkS l c ≠ 0) (K : Nat) : Posi l (allC l K) := fun c hc => by
  have h1 := (all_mem hc).1
  have h2 := sums_bd he hN h1
  have h3 := hlv c h1
  exact ⟨all_ne c hc, by omega, h2.1⟩
/-- The first circuit of all starts the model's search. -/
theorem over_start {l : List (Int × Int × Int × Int)} {L : List (List Int)} (hL : Posi l L) : fndC (overP l 0 1 (-1)) L = L.headD [] := by
  cases L with
  | nil => rfl
  | cons c L =>
    have := (hL c List.mem_cons_self).2.2
    unfold fndC
    have e : overP l 0 1 (-1) c = true := by
      unfold overP exC
      rw [decide_eq_true_eq]
      show -1 < 1 * dlS l c - 0 * tkS l c
      omega
    rw [List.find?_cons, e]
    rfl
/-- Nothing is over the ratio of a circuit: the first one at it is the best one. -/
theorem over_last {l : List (Int × Int × Int × Int)} {L : List (List Int)} (hL : Posi l L) {q : List Int} (hq : q ∈ L) (h0 : fndC (overP l (cirQ l q).1 (cirQ l q).2 0) L = []) : fndC (overP l (cirQ l q).1 (cirQ l q).2 (-1)) L = bstL l L := by
  have hg : ∀ c ∈ L, gtC l c q = false := fun c hc => by
    have := fnd_none (fun c hc => (hL c hc).1) h0 c hc
    unfold overP at this
    rw [decide_eq_false_iff_not] at this
    unfold gtC
    rw [decide_eq_false_iff_not]
    intro hlt
    exact this ((ex_rat (hL q hq).2.1).1.2 hlt)
  rw [← bst_final hL hq hg]
  have hc2 : ∀ c, overP l (cirQ l q).1 (cirQ l q).2 (-1) c = decide (dlS l q * tkS l c ≤ dlS l c * tkS l q) := fun c => by
    unfold overP
    rw [decide_eq_decide]
    exact (ex_rat (hL q hq).2.1).2
  unfold fndC
  rw [show overP l (cirQ l q).1 (cirQ l q).2 (-1) = fun c => decide (dlS l q * tkS l c ≤ dlS l c * tkS l q) from funext hc2]
theorem over_next {l : List (Int × Int × Int × Int)} {L : List (List Int)} (hL : Posi l L) {q : List Int} (hq : q ∈ L) (h0 : fndC (overP l (cirQ l q).1 (cirQ l q).2 0) L ≠ []) : fndC (overP l (cirQ l q).1 (cirQ l q).2 0) L ∈ L ∧ muC l L (fndC (overP l (cirQ l q).1 (cirQ l q).2 0) L) < muC l L q := by
  obtain ⟨h1, h2⟩ := fnd_some h0
  refine ⟨h1, mu_ltC hL h1 hq ?_⟩
  unfold overP at h2
  rw [decide_eq_true_eq] at h2
  unfold gtC
  rw [decide_eq_true_eq]
  exact (ex_rat (hL q hq).2.1).1.1 h2
end M
end Go.Proofs.YtlofnadpgnbmdaaGreat
