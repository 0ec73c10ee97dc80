/- Texts laid together: Lvq. -/
import Derived.Test.YtobdgboejbbfiaaQa24
set_option linter.unusedSimpArgs false
set_option linter.unusedVariables false
set_option linter.unusedSectionVars false
namespace Go.Proofs.Ytobdgboejbbfiaa
namespace M
/-- The list of levels in the making: those of the nodes that have been passed. -/
def outS (A : Nat → Nat → Int) (N t : Nat) : List Int := (List.range N).map fun x : Nat => if hasB (ordL A N t) (x : Int) then lev A N x else 0
/-- .. and one of them being computed. -/
def midO (A : Nat → Nat → Int) (N t e k : Nat) : List Int := (List.range N).map fun x : Nat => if x = e then lvP A N e k else if hasB (ordL A N t) (x : Int) then lev A N x else 0
theorem map_at {N x : Nat} (f : Nat → Int) (hx : x < N) : ((List.range N).map f).getD x 0 = f x := by
  rw [List.getD_eq_getElem?_getD, List.getElem?_map, List.getElem?_range hx]; rfl
theorem outS_zero (A : Nat → Nat → Int) (N : Nat) : outS A N 0 = (List.range N).map fun _ => 0 := by
  unfold outS
  refine List.map_congr_left fun x _ => ?_
  rw [if_neg]
  intro h
  cases h
theorem midO_at_e (A : Nat → Nat → Int) {N t e k : Nat} (he : e < N) : (midO A N t e k).getD e 0 = lvP A N e k := by
  unfold midO
  rw [map_at _ he, if_pos rfl]
theorem midO_at (A : Nat → Nat → Int) {N t e k x : Nat} (hx : x < N) (hne : x ≠ e) (h : hasB (ordL A N t) (x : Int) = true) : (midO A N t e k).getD x 0 = lev A N x := by
  unfold midO
  rw [map_at _ hx, if_neg hne, if_pos h]
theorem midO_start {A : Nat → Nat → Int} {N t e : Nat} (h : hasB (ordL A N t) (e : Int) = false) : midO A N t e 0 = outS A N t := by
  unfold midO outS
  refine List.map_congr_left fun x _ => ?_
  by_cases q : x = e
  · subst q; rw [if_pos rfl, h]; rfl
  · rw [if_neg q]
theorem midO_skip {A : Nat → Nat → Int} {N t e k : Nat} (h : A e k = -1000000000000000) : midO A N t e (k + 1) = midO A N t e k := by
  unfold midO
  refine List.map_congr_left fun x _ => ?_
  rw [show lvP A N e (k + 1) = lvP A N e k from if_pos h]
theorem midO_set {A : Nat → Nat → Int} {N t e k : Nat} (he : e < N) (h : A e k ≠ -1000000000000000) : (midO A N t e k).set e (max (lvP A N e k) (lev A N k + 1)) = midO A N t e (k + 1) := by
  apply List.ext_getElem?
  intro x
  by_cases q : x = e
  · subst q
    rw [List.getElem?_set_self (by simp [midO]; exact he)]
    unfold midO
    rw [List.getElem?_map, List.getElem?_range he, Option.map_some, if_pos rfl]
    exact congrArg some (show lvP A N x (k + 1) = _ from if_neg h).symm
  · rw [List.getElem?_set_ne (Ne.symm q)]
    unfold midO
    rw [List.getElem?_map, List.getElem?_map]
    by_cases hx : x < N
    · rw [List.getElem?_range hx, Option.map_some, Option.map_some, if_neg q, if_neg q]
    · rw [List.getElem?_eq_none (by simp; omega)]; rfl
theorem midO_end {A B : Nat → Nat → Int} {N t e : Nat} (hU : UZ A B) (hn : N ≤ 10) (hp : noPos A N = true) (he : e < N) (ho : ordL A N (t + 1) = ordL A N t ++ [(e : Int)]) : midO A N t e N = outS A N (t + 1) := by
  unfold midO outS
  refine List.map_congr_left fun x _ => ?_
  rw [ho, has_snoc]
  by_cases q : x = e
  · subst q
    rw [if_pos rfl, lvP_end hU hn hp he]
    simp
  · rw [if_neg q, decide_eq_false (show ¬ (x : Int) = (e : Int) by omega), Bool.or_false]
theorem outS_end {A B : Nat → Nat → Int} {N : Nat} (hU : UZ A B) (hn : N ≤ 10) (hp : noPos A N = true) : outS A N N = levL A N := by
  unfold outS levL
  refine List.map_congr_left fun x hx => ?_
  have hx := List.mem_range.1 hx
  rw [if_pos (ord_all (ord_nodes A N N).1 (ord_nodes A N N).2.1 (ord_full hU hn hp (Nat.le_refl _)) hx)]
/-- What is taken at a place of the order. -/
theorem ord_pre {A B : Nat → Nat → Int} {N t : Nat} (hU : UZ A B) (hn : N ≤ 10) (hp : noPos A N = true) {e : Nat} (ho : ordL A N (t + 1) = ordL A N t ++ [(e : Int)]) (ht : t < N) : ∀ d, t + 1 + d ≤ N → (ordL A N (t + 1 + d)).getD t 0 = (e : Int) := by
  intro d
  induction d with
  | zero =>
    intro _
    show (ordL A N (t + 1)).getD t 0 = _
    rw [ho, List.getD_eq_getElem?_getD, List.getElem?_append_right (by rw [ord_full hU hn hp (by omega)]; exact Nat.le_refl _), ord_full hU hn hp (by omega)]
    simp
  | succ d ih =>
    intro hd
    have hl := ord_full hU hn hp (t := t + 1 + d) (by omega)
    obtain ⟨x, hx⟩ := ord_goes hU hn hp (t := t + 1 + d) (by omega) hl
    have e1 : ordL A N (t + 1 + (d + 1)) = ordL A N (t + 1 + d) ++ [(x : Int)] := by
      show stepO A N (ordL A N (t + 1 + d)) = _
      exact step_some hx
    rw [e1, List.getD_eq_getElem?_getD, List.getElem?_append_left (by rw [hl]; omega), ← List.getD_eq_getElem?_getD]
    exact ih (by omega)
theorem ord_at {A B : Nat → Nat → Int} {N t : Nat} (hU : UZ A B) (hn : N ≤ 10) (hp : noPos A N = true) (ht : t < N) : ∃ e : Nat, e < N ∧ (ordL A N N).getD t 0 = (e : Int) ∧ ordL A N (t + 1) = ordL A N t ++ [(e : Int)] ∧ hasB (ordL A N t) (e : Int) = false ∧ ∀ k, k < N → A e k ≠ -1000000000000000 → hasB (ordL A N t) (k : Int) = true := by
  obtain ⟨e, he⟩ := ord_goes hU hn hp ht (ord_full hU hn hp (Nat.le_of_lt ht))
  obtain ⟨h1, h2⟩ := nxtO_some he
  obtain ⟨h3, h4⟩ := rdy_t.1 h2
  have ho : ordL A N (t + 1) = ordL A N t ++ [(e : Int)] := step_some he
  refine ⟨e, h1, ?_, ho, h3, h4⟩
  have := ord_pre hU hn hp ho ht (N - (t + 1)) (by omega)
  rw [show t + 1 + (N - (t + 1)) = N by omega] at this
  exact this
def levK (A : Nat → Nat → Int) (n k : Nat) : List Int := (List.range k).map (lev A n)
theorem levK_next (A : Nat → Nat → Int) (n k : Nat) : levK A n (k + 1) = levK A n k ++ [lev A n k] := by
  unfold levK
  rw [List.range_succ, List.map_append]; rfl
theorem levK_len (A : Nat → Nat → Int) (n k : Nat) : (levK A n k).length = k := by simp [levK]
end M
end Go.Proofs.Ytobdgboejbbfiaa
