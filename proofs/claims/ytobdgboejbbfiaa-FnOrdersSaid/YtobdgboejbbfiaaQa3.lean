/- Texts laid together: Lva, Lvb, Help, Rows0, Own, Mat0, Vals0, Vals, App. -/
import Derived.Test.YtobdgboejbbfiaaQa2
import Derived.Test.YtobdgboejbbfiaaRows
import Derived.Test.YtobdgboejbbfiaaQa1
import Derived.WalkKit
import Derived.ProofKit
import Derived.WalkSmall
import Derived.Deep.QuietTactic
import Derived.BigQuiet
import Derived.BigRegion
import Derived.Deep.Draws
import Derived.Lib.Hide
import Derived.OpenShut
import Derived.Deep.OwnRows
import Derived.Maps.AppendAt
import Derived.Deep.Onto
set_option linter.unusedSimpArgs false
set_option linter.unusedVariables false
set_option linter.unusedSectionVars false
namespace Go.Proofs.Ytobdgboejbbfiaa
namespace M
/-- Two weights on the same arcs: 1 in the one, 0 in the other. -/
def UZ (A B : Nat → Nat → Int) : Prop := ∀ i j, (A i j = -1000000000000000 ∧ B i j = -1000000000000000) ∨ (A i j = 1 ∧ B i j = 0)
theorem clB_uz {A B : Nat → Nat → Int} (h : UZ A B) {p : List Int} {wt : Int} (hw : 0 ≤ wt) : clB A 0 p wt = clB B (-1) p 0 := by
  unfold clB
  rcases h (vx p 0) (lastV p) with ⟨h1, h2⟩ | ⟨h1, h2⟩
  · rw [h1, h2]; rfl
  · rw [h1, h2]
    rw [decide_eq_true (show (0 : Int) < wt + 1 by omega)]
    simp
theorem grow_uz {A B : Nat → Nat → Int} (h : UZ A B) (n f : Nat) : ∀ p wt, 0 ≤ wt → grow A n 0 f p wt = grow B n (-1) f p 0 := by
  induction f with
  | zero => intro p wt _; rfl
  | succ f ih =>
    intro p wt hw
    by_cases hc : clB A 0 p wt = true
    · rw [grow_yes hc, grow_yes (by rw [← clB_uz h hw]; exact hc)]
    · simp only [Bool.not_eq_true] at hc
      rw [grow_no hc, grow_no (by rw [← clB_uz h hw]; exact hc)]
      refine congrFun (congrFun (congrArg pick (funext fun v => ?_)) _) _
      rcases h v (lastV p) with ⟨h1, h2⟩ | ⟨h1, h2⟩
      · unfold stepG
        rw [if_pos (.inl h1), if_pos (.inl h2)]
      · by_cases hh : hasB p (v : Int) = true
        · unfold stepG
          rw [if_pos (.inr hh), if_pos (.inr hh)]
        · simp only [Bool.not_eq_true] at hh
          rw [step_go (by rw [h1]; omega) hh, step_go (by rw [h2]; omega) hh, h1, h2]
          exact ih _ _ (by omega)
theorem over_uz {A B : Nat → Nat → Int} (h : UZ A B) (n : Nat) : overL A n 0 = overL B n (-1) :=
  congrFun (congrFun (congrArg pick (funext fun _ => grow_uz h n n _ _ (Int.le_refl 0))) _) _
theorem uz_sm {A B : Nat → Nat → Int} (h : UZ A B) (i j : Nat) : Sm 1000001000000 (A i j) := by
  unfold Sm
  rcases h i j with ⟨h1, -⟩ | ⟨h1, -⟩ <;> omega
/-- Whether a node can be next. -/
def rdy (A : Nat → Nat → Int) (n : Nat) (o : List Int) (e : Nat) : Bool := !hasB o (e : Int) && (List.range n).all fun k => decide (A e k = -1000000000000000) || hasB o (k : Int)
theorem rdy_t {A : Nat → Nat → Int} {n e : Nat} {o : List Int} : rdy A n o e = true ↔ hasB o (e : Int) = false ∧ ∀ k, k < n → A e k ≠ -1000000000000000 → hasB o (k : Int) = true := by
  unfold rdy
  rw [Bool.and_eq_true, List.all_eq_true]
  constructor
  · rintro ⟨h1, h2⟩
    refine ⟨by simpa using h1, fun k hk ha => ?_⟩
    have := h2 k (List.mem_range.2 hk)
    simpa [ha] using this
  · rintro ⟨h1, h2⟩
    refine ⟨by simp [h1], fun k hk => ?_⟩
    by_cases ha : A e k = -1000000000000000
    · simp [ha]
    · simp [ha, h2 k (List.mem_range.1 hk) ha]
/-- The least node that can be next. -/
def nxtO (A : Nat → Nat → Int) (n : Nat) (o : List Int) : Option Nat := (List.range n).find? (rdy A n o)
def stepO (A : Nat → Nat → Int) (n : Nat) (o : List Int) : List Int := match nxtO A n o with
  | some e => o ++ [(e : Int)]
  | none => o
def ordL (A : Nat → Nat → Int) (n : Nat) : Nat → List Int
  | 0 => []
  | t + 1 => stepO A n (ordL A n t)
theorem nxtO_some {A : Nat → Nat → Int} {n : Nat} {o : List Int} {e : Nat} (h : nxtO A n o = some e) : e < n ∧ rdy A n o e = true :=
  ⟨List.mem_range.1 (List.mem_of_find?_eq_some h), List.find?_some h⟩
theorem nxtO_is {A : Nat → Nat → Int} {n : Nat} {o : List Int} {e : Nat} (he : e < n) (hr : rdy A n o e = true) (hl : ∀ k, k < e → rdy A n o k = false) : nxtO A n o = some e := by
  unfold nxtO
  rw [show n = e + (n - e) by omega, List.range_add, List.find?_append]
  have h1 : (List.range e).find? (rdy A (e + (n - e)) o) = none := by
    rw [List.find?_eq_none]
    intro k hk
    rw [show e + (n - e) = n by omega, hl k (List.mem_range.1 hk)]
    simp
  rw [h1, show n - e = (n - e - 1) + 1 by omega, List.range_succ_eq_map]
  simp only [List.map_cons, List.find?_cons, Nat.add_zero, Option.none_or]
  rw [show e + (n - e - 1 + 1) = n by omega, hr]
theorem nxtO_none {A : Nat → Nat → Int} {n : Nat} {o : List Int} (hl : ∀ k, k < n → rdy A n o k = false) : nxtO A n o = none := by
  unfold nxtO
  rw [List.find?_eq_none]
  intro k hk
  rw [hl k (List.mem_range.1 hk)]
  simp
theorem step_some {A : Nat → Nat → Int} {n : Nat} {o : List Int} {e : Nat} (h : nxtO A n o = some e) : stepO A n o = o ++ [(e : Int)] := by unfold stepO; rw [h]
theorem step_none {A : Nat → Nat → Int} {n : Nat} {o : List Int} (h : nxtO A n o = none) : stepO A n o = o := by unfold stepO; rw [h]
theorem ord_nodes (A : Nat → Nat → Int) (n t : Nat) : nodesB n (ordL A n t) = true ∧ diffB (ordL A n t) = true ∧ (ordL A n t).length ≤ t := by
  induction t with
  | zero => exact ⟨rfl, rfl, Nat.le_refl _⟩
  | succ t ih =>
    obtain ⟨h1, h2, h3⟩ := ih
    show nodesB n (stepO A n _) = true ∧ diffB (stepO A n _) = true ∧ (stepO A n _).length ≤ _
    cases e : nxtO A n (ordL A n t) with
    | none => rw [step_none e]; exact ⟨h1, h2, by omega⟩
    | some x =>
      obtain ⟨k1, k2⟩ := nxtO_some e
      rw [step_some e]
      exact ⟨nodesB_snoc h1 k1, diffB_snoc h2 (rdy_t.1 k2).1, by simp; omega⟩
theorem ord_len (A : Nat → Nat → Int) (n t : Nat) : (ordL A n t).length ≤ n := diffB_len (ord_nodes A n t).1 (ord_nodes A n t).2.1
def liveB (A : Nat → Nat → Int) (n : Nat) : Bool := decide ((ordL A n n).length = n)
/-- Once nothing can be next, nothing ever can. -/
theorem ord_short {A : Nat → Nat → Int} {n t : Nat} (h : (ordL A n t).length < t) : ∃ s, s < t ∧ nxtO A n (ordL A n s) = none ∧ ordL A n t = ordL A n s := by
  induction t with
  | zero => omega
  | succ t ih =>
    have hs : ordL A n (t + 1) = stepO A n (ordL A n t) := rfl
    by_cases q : (ordL A n t).length < t
    · obtain ⟨s, h1, h2, h3⟩ := ih q
      refine ⟨s, by omega, h2, ?_⟩
      rw [hs, h3, step_none h2]
    · cases e : nxtO A n (ordL A n t) with
      | none => exact ⟨t, by omega, e, by rw [hs, step_none e]⟩
      | some x => rw [hs, step_some e] at h; simp at h; omega
/-- All nodes are in an order of full length. -/
theorem ord_all {n : Nat} {o : List Int} (h1 : nodesB n o = true) (h2 : diffB o = true) (h3 : o.length = n) {x : Nat} (hx : x < n) : hasB o (x : Int) = true := by
  cases e : hasB o (x : Int) with
  | true => rfl
  | false =>
    have := diffB_len (nodesB_snoc h1 hx) (diffB_snoc h2 e)
    simp at this; omega
theorem has_snoc {o : List Int} {e x : Int} : hasB (o ++ [e]) x = (hasB o x || decide (x = e)) := by
  rw [Bool.eq_iff_iff, hasB_iff, Bool.or_eq_true, hasB_iff, decide_eq_true_eq, List.mem_append, List.mem_singleton]
/-- No closed walk meets what has been taken. -/
theorem ord_walk {A : Nat → Nat → Int} {n : Nat} {v : Nat → Nat} {s : Nat} (hs : 1 ≤ s) (hc : v s = v 0) (hv : ∀ u, u ≤ s → v u < n) (ha : ∀ u, u < s → A (v (u + 1)) (v u) ≠ -1000000000000000) (t : Nat) : ∀ u, u ≤ s → hasB (ordL A n t) (v u : Int) = false := by
  induction t with
  | zero => intro u _; rfl
  | succ t ih =>
    intro u hu
    show hasB (stepO A n (ordL A n t)) _ = false
    cases e : nxtO A n (ordL A n t) with
    | none => rw [step_none e]; exact ih u hu
    | some x =>
      rw [step_some e, has_snoc, ih u hu, Bool.false_or]
      refine decide_eq_false fun hx => ?_
      obtain ⟨-, h2⟩ := nxtO_some e
      have hr := (rdy_t.1 h2).2
      have hx' : v u = x := by omega
      obtain ⟨u', hu', hx''⟩ : ∃ u', u' < s ∧ v (u' + 1) = x := by
        by_cases h0 : u = 0
        · subst h0; exact ⟨s - 1, by omega, by rw [show s - 1 + 1 = s by omega, hc]; exact hx'⟩
        · exact ⟨u - 1, by omega, by rw [show u - 1 + 1 = u by omega]; exact hx'⟩
      have := hr (v u') (hv _ (by omega)) (by rw [← hx'']; exact ha u' hu')
      rw [ih u' (by omega)] at this
      exact absurd this (by simp)
theorem owk_arcs {f : Nat → Nat → Option Int} {v : Nat → Nat} {s : Nat} (h : owk f v s ≠ none) : ∀ u, u < s → f (v (u + 1)) (v u) ≠ none := by
  induction s with
  | zero => intro u hu; omega
  | succ s ih =>
    intro u hu e
    have h : omul (f (v (s + 1)) (v s)) (owk f v s) ≠ none := h
    by_cases q : u = s
    · subst q; rw [e, none_omul] at h; exact h rfl
    · refine ih (fun e2 => h ?_) u (by omega) e
      rw [e2, omul_none]
theorem live_noPos {A B : Nat → Nat → Int} {n : Nat} (hU : UZ A B) (hn : n ≤ 10) (h : liveB A n = true) : noPos A n = true := by
  cases e : noPos A n with
  | true => rfl
  | false =>
    obtain ⟨v, s, g1, g2, g3, g4⟩ := gain_of hn (fun i j _ _ => uz_sm hU i j) e
    have ha : ∀ u, u < s → A (v (u + 1)) (v u) ≠ -1000000000000000 := fun u hu hx => by
      refine owk_arcs (f := fun i j => o (A i j)) (v := v) (s := s) (fun hy => g4 (by rw [hy]; exact ole_none _)) u hu ?_
      show o (A _ _) = none
      rw [hx]; exact o_bot
    have h1 := ord_walk (n := n) g1 g2 g3 ha n 0 (Nat.zero_le _)
    have h2 := ord_all (ord_nodes A n n).1 (ord_nodes A n n).2.1 (of_decide_eq_true h) (g3 0 (Nat.zero_le _))
    rw [h1] at h2
    cases h2
theorem sum_att {k : Nat} {f : Nat → Int} : sumN k f = -1000000000000000 ∨ ∃ t, t < k ∧ sumN k f = f t := by
  induction k with
  | zero => exact .inl rfl
  | succ k ih =>
    show max (sumN k f) (f k) = _ ∨ ∃ t, t < k + 1 ∧ max (sumN k f) (f k) = f t
    rcases Int.le_total (sumN k f) (f k) with q | q
    · rw [Int.max_eq_right q]; exact .inr ⟨k, by omega, rfl⟩
    · rw [Int.max_eq_left q]
      rcases ih with e | ⟨t, h1, h2⟩
      · exact .inl e
      · exact .inr ⟨t, by omega, h2⟩
/-- The greatest weight of a path to a node. -/
def lev (A : Nat → Nat → Int) (n i : Nat) : Int := sumN n fun j => starF A n i j
section
variable {A B : Nat → Nat → Int} {n : Nat} (hU : UZ A B) (hn : n ≤ 10) (hp : noPos A n = true)
include hU hn hp
theorem star_eq {i j : Nat} (hi : i < n) (hj : j < n) : starF A n i j = max (unit i j) (sumN n fun u => times (A i u) (starF A n u j)) := by
  have hA : ∀ i j, i < n → j < n → Sm 1000001000000 (A i j) := fun i j _ _ => uz_sm hU i j
  have h1 : cbm A n (n + 1) i j = max (unit i j) (sumN n fun u => times (A i u) (cbm A n n u j)) := rfl
  have h2 : starF A n i j = cbm A n n i j := (clo_star hn hA hp hi hj).symm
  rw [h2, ← clo_same hn hA hp hi hj, h1]
  congr 1
  exact sumN_congr fun u hu => by rw [clo_star hn hA hp hu hj]; rfl
theorem lev_nn {i : Nat} (hi : i < n) : 0 ≤ lev A n i := by
  have := sum_ge (f := fun j => starF A n i j) hi
  have h0 : starF A n i i = 0 := if_pos rfl
  have this : starF A n i i ≤ lev A n i := this
  omega
theorem lev_up {i k : Nat} (hi : i < n) (hk : k < n) (ha : A i k ≠ -1000000000000000) : lev A n k + 1 ≤ lev A n i := by
  have h1 : A i k = 1 := by rcases hU i k with ⟨q, -⟩ | ⟨q, -⟩; exact absurd q ha; exact q
  have h0 := lev_nn hU hn hp hk
  rcases sum_att (k := n) (f := fun j => starF A n k j) with e | ⟨j, hj, e⟩
  · unfold lev at h0; omega
  · have hf : starF A n k j ≠ -1000000000000000 := fun q => by unfold lev at h0; rw [e, q] at h0; omega
    have e1 := star_eq hU hn hp hi hj
    have e2 := sum_ge (f := fun u => times (A i u) (starF A n u j)) hk
    have e3 := sum_ge (f := fun j => starF A n i j) hj
    have e2 : times (A i k) (starF A n k j) ≤ sumN n fun u => times (A i u) (starF A n u j) := e2
    rw [h1, times_fin (show (1 : Int) ≠ -1000000000000000 by omega) hf] at e2
    have e3 : starF A n i j ≤ lev A n i := e3
    have e : lev A n k = starF A n k j := e
    rw [e]
    have := Int.le_max_right (unit i j) (sumN n fun u => times (A i u) (starF A n u j))
    omega
theorem lev_from {i : Nat} (hi : i < n) : lev A n i = 0 ∨ ∃ k, k < n ∧ A i k ≠ -1000000000000000 ∧ lev A n i = lev A n k + 1 := by
  have h0 := lev_nn hU hn hp hi
  rcases sum_att (k := n) (f := fun j => starF A n i j) with e | ⟨j, hj, e⟩
  · unfold lev at h0; omega
  · have e : lev A n i = starF A n i j := e
    have e1 := star_eq hU hn hp hi hj
    rcases Int.le_total (sumN n fun u => times (A i u) (starF A n u j)) (unit i j) with q | q
    · rw [Int.max_eq_left q] at e1
      left
      unfold unit at e1
      split at e1 <;> omega
    · rw [Int.max_eq_right q] at e1
      rcases sum_att (k := n) (f := fun u => times (A i u) (starF A n u j)) with e2 | ⟨u, hu, e2⟩
      · rw [e2] at e1; omega
      · have e2 : (sumN n fun u => times (A i u) (starF A n u j)) = times (A i u) (starF A n u j) := e2
        have hne : times (A i u) (starF A n u j) ≠ -1000000000000000 := fun hx => by rw [hx] at e2; omega
        have hA : A i u ≠ -1000000000000000 := fun hx => hne (by rw [hx]; exact bot_times _)
        have hS : starF A n u j ≠ -1000000000000000 := fun hx => hne (by unfold times; rw [if_pos (.inr hx)])
        have h1 : A i u = 1 := by rcases hU i u with ⟨q, -⟩ | ⟨q, -⟩; exact absurd q hA; exact q
        rw [h1, times_fin (by omega) hS] at e2
        right
        refine ⟨u, hu, hA, ?_⟩
        have e3 := sum_ge (f := fun j => starF A n u j) hj
        have e4 := lev_up hU hn hp hi hu hA
        have e5 : lev A n u = sumN n fun j => starF A n u j := rfl
        have e3 : starF A n u j ≤ lev A n u := e3
        omega
theorem ord_goes {t : Nat} (ht : t < n) (hl : (ordL A n t).length = t) : ∃ e, nxtO A n (ordL A n t) = some e := by
  cases e : nxtO A n (ordL A n t) with
  | some x => exact ⟨x, rfl⟩
  | none =>
    exfalso
    obtain ⟨h1, h2, -⟩ := ord_nodes A n t
    -- a node that is not taken
    have hex : ∃ x, x < n ∧ hasB (ordL A n t) (x : Int) = false := by
      apply Classical.byContradiction
      intro hno
      have hall : ∀ x, x < n → hasB (ordL A n t) (x : Int) = true := fun x hx => by
        cases q : hasB (ordL A n t) (x : Int) with
        | true => rfl
        | false => exact absurd ⟨x, hx, q⟩ hno
      obtain ⟨a, b, hab, hb, hi⟩ := pigeon t (fun x => (ordL A n t).idxOf (x : Int)) (fun x hx => by
        have := List.idxOf_lt_length_of_mem (hasB_iff.1 (hall x (by omega)))
        omega)
      have g1 := List.getElem_idxOf (List.idxOf_lt_length_of_mem (hasB_iff.1 (hall a (by omega))))
      have g2 := List.getElem_idxOf (List.idxOf_lt_length_of_mem (hasB_iff.1 (hall b (by omega))))
      have hi : (ordL A n t).idxOf (a : Int) = (ordL A n t).idxOf (b : Int) := hi
      have g3 : (ordL A n t)[(ordL A n t).idxOf (b : Int)]? = some (a : Int) := by
        rw [← hi]; exact List.getElem?_eq_some_iff.2 ⟨_, g1⟩
      have g4 : (ordL A n t)[(ordL A n t).idxOf (b : Int)]? = some (b : Int) := List.getElem?_eq_some_iff.2 ⟨_, g2⟩
      rw [g3] at g4
      have := Option.some.inj g4
      omega
    have hmin : ∀ m : Nat, ∀ x, x < n → hasB (ordL A n t) (x : Int) = false → lev A n x ≤ m → False := by
      intro m
      induction m with
      | zero =>
        intro x hx hn0 hm
        have hnr : ¬ rdy A n (ordL A n t) x = true := fun hr => by
          have := List.find?_eq_none.1 e x (List.mem_range.2 hx)
          exact this hr
        apply hnr
        refine rdy_t.2 ⟨hn0, fun k hk ha => ?_⟩
        have := lev_up hU hn hp hx hk ha
        have := lev_nn hU hn hp hk
        omega
      | succ m ih =>
        intro x hx hn0 hm
        have hnr : ¬ rdy A n (ordL A n t) x = true := fun hr => by
          have := List.find?_eq_none.1 e x (List.mem_range.2 hx)
          exact this hr
        apply hnr
        refine rdy_t.2 ⟨hn0, fun k hk ha => ?_⟩
        cases q : hasB (ordL A n t) (k : Int) with
        | true => rfl
        | false =>
          have := lev_up hU hn hp hx hk ha
          exact absurd (ih k hk q (by omega)) id
    obtain ⟨x, hx, hn0⟩ := hex
    exact hmin (lev A n x).toNat x hx hn0 (by omega)
theorem ord_full {t : Nat} (ht : t ≤ n) : (ordL A n t).length = t := by
  induction t with
  | zero => rfl
  | succ t ih =>
    have hl := ih (by omega)
    obtain ⟨e, he⟩ := ord_goes hU hn hp (by omega) hl
    show (stepO A n _).length = _
    rw [step_some he, List.length_append, hl]; rfl
end
theorem noPos_live {A B : Nat → Nat → Int} {n : Nat} (hU : UZ A B) (hn : n ≤ 10) (hp : noPos A n = true) : liveB A n = true :=
  decide_eq_true (ord_full hU hn hp (Nat.le_refl _))
theorem live_is {A B : Nat → Nat → Int} {n : Nat} (hU : UZ A B) (hn : n ≤ 10) : liveB A n = noPos A n := by
  cases e : noPos A n with
  | true => exact noPos_live hU hn e
  | false =>
    cases q : liveB A n with
    | false => rfl
    | true => rw [live_noPos hU hn q] at e; cases e
theorem dead_live {A B : Nat → Nat → Int} {n : Nat} (hU : UZ A B) (hn : n ≤ 10) : decide ((overL B n (-1)).length = 0) = liveB A n := by
  rw [live_is hU hn, ← over_uz hU]
  have hA : ∀ i j, i < n → j < n → Sm 1000001000000 (A i j) := fun i j _ _ => uz_sm hU i j
  cases e : noPos A n with
  | true => exact decide_eq_true (over_none hn hA e)
  | false => exact decide_eq_false (over_some hn hA e)
/-- The order is the same for both weights. -/
theorem rdy_uz {A B : Nat → Nat → Int} (hU : UZ A B) (n : Nat) (o : List Int) (e : Nat) : rdy A n o e = rdy B n o e := by
  rw [Bool.eq_iff_iff, rdy_t, rdy_t]
  have : ∀ k, A e k ≠ -1000000000000000 ↔ B e k ≠ -1000000000000000 := fun k => by
    rcases hU e k with ⟨h1, h2⟩ | ⟨h1, h2⟩ <;> rw [h1, h2] <;> simp
  exact ⟨fun ⟨a, b⟩ => ⟨a, fun k hk hx => b k hk ((this k).2 hx)⟩, fun ⟨a, b⟩ => ⟨a, fun k hk hx => b k hk ((this k).1 hx)⟩⟩
theorem ord_uz {A B : Nat → Nat → Int} (hU : UZ A B) (n t : Nat) : ordL A n t = ordL B n t := by
  induction t with
  | zero => rfl
  | succ t ih =>
    show stepO A n _ = stepO B n _
    rw [ih]
    unfold stepO nxtO
    rw [show rdy A n (ordL B n t) = rdy B n (ordL B n t) from funext fun e => rdy_uz hU n _ e]
/-- Levels as they are computed along the order. -/
def lvP (A : Nat → Nat → Int) (n i : Nat) : Nat → Int
  | 0 => 0
  | k + 1 => if A i k = -1000000000000000 then lvP A n i k else max (lvP A n i k) (lev A n k + 1)
theorem lvP_le {A B : Nat → Nat → Int} {n : Nat} (hU : UZ A B) (hn : n ≤ 10) (hp : noPos A n = true) {i : Nat} (hi : i < n) {k : Nat} (hk : k ≤ n) : lvP A n i k ≤ lev A n i ∧ 0 ≤ lvP A n i k := by
  induction k with
  | zero => exact ⟨lev_nn hU hn hp hi, Int.le_refl _⟩
  | succ k ih =>
    obtain ⟨h1, h2⟩ := ih (by omega)
    show (if A i k = -1000000000000000 then lvP A n i k else max (lvP A n i k) (lev A n k + 1)) ≤ _ ∧ 0 ≤ (if A i k = -1000000000000000 then lvP A n i k else max (lvP A n i k) (lev A n k + 1))
    split
    · exact ⟨h1, h2⟩
    · next ha => have := lev_up hU hn hp hi (k := k) (by omega) ha; omega
theorem lvP_ge {A : Nat → Nat → Int} {n i k : Nat} (ha : A i k ≠ -1000000000000000) : ∀ m, k < m → lev A n k + 1 ≤ lvP A n i m := by
  intro m
  induction m with
  | zero => omega
  | succ m ih =>
    intro hk
    show _ ≤ (if A i m = -1000000000000000 then lvP A n i m else max (lvP A n i m) (lev A n m + 1))
    by_cases e : k = m
    · subst e; rw [if_neg ha]; omega
    · have h0 := ih (by omega)
      split
      · exact h0
      · omega
theorem lvP_end {A B : Nat → Nat → Int} {n : Nat} (hU : UZ A B) (hn : n ≤ 10) (hp : noPos A n = true) {i : Nat} (hi : i < n) : lvP A n i n = lev A n i := by
  have h := lvP_le hU hn hp hi (Nat.le_refl n)
  rcases lev_from hU hn hp hi with e | ⟨k, hk, ha, e⟩
  · omega
  · have := lvP_ge (n := n) ha n hk; omega
theorem lev_bd {A B : Nat → Nat → Int} {n : Nat} (hU : UZ A B) (hn : n ≤ 10) (hp : noPos A n = true) {i : Nat} (hi : i < n) : 0 ≤ lev A n i ∧ lev A n i ≤ 11000011000000 := by
  refine ⟨lev_nn hU hn hp hi, sum_le (by omega) fun j hj => ?_⟩
  have := star_sm hn (fun i j _ _ => uz_sm hU i j) hp hi hj
  unfold Sm at this; omega
def levL (A : Nat → Nat → Int) (n : Nat) : List Int := (List.range n).map (lev A n)
end M
end Go.Proofs.Ytobdgboejbbfiaa

namespace Go.Proofs.Ytobdgboejbbfiaa
namespace M
/-- The greatest weight of the places from j to i. -/
def wtS (f : Int × Int × Int × Int → Int) (i j : Nat) (m : Int) (p : Int × Int × Int × Int) : Int := if p.2.1 = (i : Int) ∧ p.1 = (j : Int) then max m (f p) else m
def wtF (f : Int × Int × Int × Int → Int) (l : List (Int × Int × Int × Int)) (i j : Nat) : Int := l.foldl (wtS f i j) (-1000000000000000)
def wtM (f : Int × Int × Int × Int → Int) (n : Nat) (l : List (Int × Int × Int × Int)) : List (List Int) := mk n n (wtF f l)
theorem wtF_next (f : Int × Int × Int × Int → Int) (l : List (Int × Int × Int × Int)) {k : Nat} (hk : k < l.length) (i j : Nat) : wtF f (l.take (k + 1)) i j = wtS f i j (wtF f (l.take k) i j) (l.getD k (0, 0, 0, 0)) := by
  unfold wtF
  rw [List.take_add_one, List.foldl_append, List.getD_eq_getElem?_getD, List.getElem?_eq_getElem hk]
  rfl
/-- One place more. -/
theorem wtM_next (f : Int × Int × Int × Int → Int) (n : Nat) (l : List (Int × Int × Int × Int)) {k : Nat} (hk : k < l.length) {p0 p1 p2 p3 : Int} (hp : l.getD k (0, 0, 0, 0) = (p0, p1, p2, p3)) {i j : Nat} (hi : i < n) (h1 : p1 = (i : Int)) (h0 : p0 = (j : Int)) :
    (wtM f n (l.take k)).set i (((wtM f n (l.take k)).getD i []).set j (max (wtF f (l.take k) i j) (f (p0, p1, p2, p3)))) = wtM f n (l.take (k + 1)) := by
  unfold wtM
  rw [mk_set _ _ _ _ _ _ hi]
  refine mk_congr fun s hs t ht => ?_
  rw [wtF_next f l hk, hp]
  unfold wtS
  by_cases e : s = i
  · subst e
    rw [if_pos rfl]
    by_cases e2 : t = j
    · subst e2
      rw [if_pos rfl]
      exact (if_pos ⟨h1, h0⟩).symm
    · rw [if_neg e2]
      refine (if_neg ?_).symm
      rintro ⟨q1, q2⟩
      have q2 : p0 = (t : Int) := q2
      omega
  · rw [if_neg e]
    refine (if_neg ?_).symm
    rintro ⟨q1, q2⟩
    have q1 : p1 = (s : Int) := q1
    omega
/-- What all weights are, the greatest ones are as well, or Bottom. -/
theorem wtF_of {P : Int → Prop} {f : Int × Int × Int × Int → Int} {l : List (Int × Int × Int × Int)} (h : ∀ p ∈ l, P (f p)) (hb : P (-1000000000000000)) (i j : Nat) : P (wtF f l i j) := by
  unfold wtF
  suffices H : ∀ m, P m → P (l.foldl (wtS f i j) m) from H _ hb
  induction l with
  | nil => intro m hm; exact hm
  | cons p l ih =>
    intro m hm
    refine ih (fun q hq => h q (List.mem_cons_of_mem _ hq)) _ ?_
    unfold wtS
    split
    · rcases Int.le_total m (f p) with q | q
      · rw [Int.max_eq_right q]; exact h p List.mem_cons_self
      · rw [Int.max_eq_left q]; exact hm
    · exact hm
/-- Two weights of the same places. -/
theorem wtF_two {P : Int → Int → Prop} {f g : Int × Int × Int × Int → Int} {l : List (Int × Int × Int × Int)} (h : ∀ p ∈ l, ∀ a b, P a b → P (max a (f p)) (max b (g p))) (hb : P (-1000000000000000) (-1000000000000000)) (i j : Nat) : P (wtF f l i j) (wtF g l i j) := by
  unfold wtF
  suffices H : ∀ a b, P a b → P (l.foldl (wtS f i j) a) (l.foldl (wtS g i j) b) from H _ _ hb
  induction l with
  | nil => intro a b hm; exact hm
  | cons p l ih =>
    intro a b hm
    refine ih (fun q hq => h q (List.mem_cons_of_mem _ hq)) _ _ ?_
    unfold wtS
    split
    · exact h p List.mem_cons_self a b hm
    · exact hm
/-- The weights of this chapter: arcs of places without tokens, tokens, and places alone. -/
def fOne (p : Int × Int × Int × Int) : Int := if p.2.2.2 > 0 then -1000000000000000 else 1
def fNil (p : Int × Int × Int × Int) : Int := if p.2.2.2 > 0 then -1000000000000000 else 0
def fTok (p : Int × Int × Int × Int) : Int := - p.2.2.2
def fArc (_ : Int × Int × Int × Int) : Int := 0
theorem uz_graph (l : List (Int × Int × Int × Int)) : UZ (wtF fOne l) (wtF fNil l) := fun i j => by
  refine wtF_two (P := fun a b => (a = -1000000000000000 ∧ b = -1000000000000000) ∨ (a = 1 ∧ b = 0)) (fun p _ a b h => ?_) (.inl ⟨rfl, rfl⟩) i j
  unfold fOne fNil
  split
  · rcases h with ⟨rfl, rfl⟩ | ⟨rfl, rfl⟩
    · left; omega
    · right; omega
  · rcases h with ⟨rfl, rfl⟩ | ⟨rfl, rfl⟩
    · right; omega
    · right; omega
theorem wt_isMat {f : Int × Int × Int × Int → Int} {n : Nat} {l : List (Int × Int × Int × Int)} (h1 : 1 ≤ n) (h2 : n ≤ 10) (h : ∀ p ∈ l, isVal (f p) = true) : sqB (wtM f n l) = true := by
  unfold sqB wtM
  rw [isMat_mk h1 h2 h1 h2 fun i _ j _ => wtF_of (P := fun x => isVal x = true) h (by decide) i j, mk_length, mk_wid _ _ _ h1]
  simp
end M
end Go.Proofs.Ytobdgboejbbfiaa

namespace Go.Proofs.Ytobdgboejbbfiaa.V
open Go.RowKit

theorem b_alloc (w : World) (o : Obj) : Below w.heap.size w (w.alloc o) := (Below.refl _ _).alloc (Nat.le_refl _) _
theorem b_draws (w : World) (n : Nat) : Below w.heap.size w (w.drewN n) := below_drewN (Below.refl _ _) n
theorem b_alloc_draws (w : World) (o : Obj) (n : Nat) : Below w.heap.size w ((w.alloc o).drewN n) := below_drewN (b_alloc w o) n

theorem b_ads (w : World) (o : Obj) (n : Nat) (i j : Nat) (u v : Value) : Below w.heap.size w ((((w.alloc o).drewN n).setCell ⟨w.heap.size, i, none⟩ u).setCell ⟨w.heap.size, j, none⟩ v) :=
  ((b_alloc_draws w o n).setCell (Nat.le_refl _) u).setCell (Nat.le_refl _) v
theorem wneg (n g : Int) (a : -1000000000000 ≤ n) (b : n ≤ 1000000000000) : wrap64 (-n.tdiv g) = -n.tdiv g := by
  have := M.tdiv_bdL n g 1000000000000 a b
  exact IntWalk.wrap64_in _ (by omega)
theorem wneg2 (d g : Int) (a : d ≤ 0) : -d / g = -d.tdiv g := by
  rw [← Int.neg_tdiv, Int.tdiv_eq_ediv_of_nonneg (by omega)]
theorem bcell {W w1 : World} (hb : Below W.heap.size W w1) : (∀ b o, b < W.heap.size → w1.cell? ⟨b, o, none⟩ = W.cell? ⟨b, o, none⟩) ∧ (∀ b o, b < W.heap.size → w1.frozen? ⟨b, o, none⟩ = W.frozen? ⟨b, o, none⟩) :=
  ⟨fun b o h => hb.cell (p := ⟨b, o, none⟩) h, fun b o h => hb.frozen (p := ⟨b, o, none⟩) h⟩
theorem b_alloc2 (w : World) (o o' : Obj) : Below w.heap.size w ((w.alloc o).alloc o') := (b_alloc w o).alloc (by simp) _
theorem bel2 {w w1 : World} {o o' : Obj} (hb : Below ((w.alloc o).alloc o').heap.size ((w.alloc o).alloc o') w1) : Below w.heap.size w w1 :=
  (b_alloc2 w o o').trans (hb.mono (by simp; omega))
theorem bel3 {w w1 w2 : World} {o o' : Obj} (hb : Below ((w.alloc o).alloc o').heap.size ((w.alloc o).alloc o') w1) (hb2 : Below w1.heap.size w1 w2) : Below w.heap.size w w2 :=
  (bel2 hb).trans (hb2.mono (bel2 hb).size)
theorem bel1 {w w1 : World} {o : Obj} (hb : Below (w.alloc o).heap.size (w.alloc o) w1) : Below w.heap.size w w1 :=
  (b_alloc w o).trans (hb.mono (by simp))
theorem bel1s {w w1 : World} {o : Obj} {i j : Nat} {u v : Value} (hb : Below (w.alloc o).heap.size (w.alloc o) w1) : Below w.heap.size w ((w1.setCell ⟨w.heap.size, i, none⟩ u).setCell ⟨w.heap.size, j, none⟩ v) :=
  ((bel1 hb).setCell (Nat.le_refl _) u).setCell (Nat.le_refl _) v
theorem bnext {w w1 w2 : World} (h : Below w.heap.size w w1) (hb : Below w1.heap.size w1 w2) : Below w.heap.size w w2 := h.trans (hb.mono h.size)
theorem ck {w1 w2 : World} {a : Addr} {v : Value} (h : w1.cell? a = some v) (hb : Below w1.heap.size w1 w2) : w2.cell? a = some v := by
  have hl : a.block < w1.heap.size := by
    by_cases hl : a.block < w1.heap.size
    · exact hl
    · exfalso
      have e : w1.heap[a.block]? = none := by simp; omega
      simp [World.cell?, e] at h
  rw [hb.cell hl]; exact h
theorem sb {w w1 w2 : World} {A B C D : Prop} (h : A ∧ B ∧ C ∧ D ∧ Below w.heap.size w w1) (hb : Below w1.heap.size w1 w2) : Below w.heap.size w w2 := bnext h.2.2.2.2 hb
theorem sd {w w1 : World} {A B C D : Prop} (h : A ∧ B ∧ C ∧ D ∧ Below w.heap.size w w1) : Below w.heap.size w w1.drew := h.2.2.2.2.drew
theorem kA {w1 w2 : World} {a : Addr} {v : Value} {B : Prop} (h : w1.cell? a = some v ∧ B) (hb : Below w1.heap.size w1 w2) : w2.cell? a = some v := ck h.1 hb
theorem kB {w1 w2 : World} {a : Addr} {v : Value} {A B : Prop} (h : A ∧ w1.cell? a = some v ∧ B) (hb : Below w1.heap.size w1 w2) : w2.cell? a = some v := ck h.2.1 hb
theorem kC {w1 w2 : World} {a : Addr} {v : Value} {A B C : Prop} (h : A ∧ B ∧ w1.cell? a = some v ∧ C) (hb : Below w1.heap.size w1 w2) : w2.cell? a = some v := ck h.2.2.1 hb
theorem kD {w1 w2 : World} {a : Addr} {v : Value} {A B C D : Prop} (h : A ∧ B ∧ C ∧ w1.cell? a = some v ∧ D) (hb : Below w1.heap.size w1 w2) : w2.cell? a = some v := ck h.2.2.2.1 hb
theorem s5 {w w1 : World} {A B C D : Prop} (h : A ∧ B ∧ C ∧ D ∧ Below w.heap.size w w1) : Below w.heap.size w w1 := h.2.2.2.2
theorem vi {a b : Int} {k : IntKind} (h : a = b) : Value.int k a = .int k b := by rw [h]
/-- A call that leaves the world alone, as a region's step. -/
theorem st_of {P : Program} {f : FuncId} {args : Array Value} {w : World} {v : Value} (h : Calls P f args w fun e w' => e = .returned v ∧ w = w') : Calls P f args w fun e w' => e = .returned v ∧ w' = w := by
  refine h.mono ?_
  rintro e w' ⟨he, hw⟩
  exact ⟨he, hw.symm⟩
/-- A quiet call in a world that has drawn before. -/
theorem q_more {P : Program} {f : FuncId} {args : Array Value} {w : World} {a n : Nat} {v : Value} (h : Calls P f args (w.drewN (a + n)) fun e w' => e = .returned v ∧ ∃ q, w' = (w.drewN (a + n)).drewN q) :
    Calls P f args (w.drewN (a + n)) fun e w' => e = .returned v ∧ ∃ m, w' = w.drewN (a + m) := by
  refine h.mono ?_
  rintro e w' ⟨he, q, hq⟩
  exact ⟨he, n + q, by rw [hq, World.drewN_drewN, Nat.add_assoc]⟩
theorem q_more_s {P : Program} {f : FuncId} {args : Array Value} {w : World} {a n : Nat} {v : Value} (h : Calls P f args (w.drewN (a + n)) fun e w' => e = .returned v ∧ w.drewN (a + n) = w') :
    Calls P f args (w.drewN (a + n)) fun e w' => e = .returned v ∧ ∃ m, w' = w.drewN (a + m) := by
  refine h.mono ?_
  rintro e w' ⟨he, hq⟩
  exact ⟨he, n, hq.symm⟩
theorem q_one_s {P : Program} {f : FuncId} {args : Array Value} {w : World} {n : Nat} {v : Value} (h : Calls P f args (w.drewN n) fun e w' => e = .returned v ∧ w.drewN n = w') :
    Calls P f args (w.drewN n) fun e w' => e = .returned v ∧ ∃ m, w' = w.drewN m := by
  refine h.mono ?_
  rintro e w' ⟨he, hq⟩
  exact ⟨he, n, hq.symm⟩
end Go.Proofs.Ytobdgboejbbfiaa.V

namespace Go.Proofs.Ytobdgboejbbfiaa.V
open Go.RowKit

/-- What the walk is told of a slice of integers that came in (the shell's own words). -/
def IsRow (k : IntKind) (w : World) (a : Option Addr) (len cap : Nat) (zs : List Int) : Prop :=
  (a = none ∧ len = 0 ∧ cap = 0 ∧ zs = []) ∨
  ∃ x, a = some x ∧ len ≤ cap ∧ cap ≤ maxLen ∧ zs.length = cap ∧ (∀ i, i < zs.length → w.cell? (x.add i) = some (.int k (zs.getD i 0))) ∧ ∀ n ∈ zs, (Lit.int k n).wf = true

/-- A slice value (address a, length n) whose elements are the list l. -/
def Ints (k : IntKind) (w : World) (a : Option Addr) (n : Nat) (l : List Int) : Prop :=
  l.length = n ∧ n ≤ maxLen ∧ (n = 0 ∨ ∃ b off, a = some ⟨b, off, none⟩ ∧ b < w.heap.size ∧ ∀ i, i < n → w.cell? ⟨b, off + i, none⟩ = some (.int k (l.getD i 0)))

theorem cell_lt {w : World} {a : Addr} {v : Value} (h : w.cell? a = some v) : a.block < w.heap.size := by
  by_cases hl : a.block < w.heap.size
  · exact hl
  · exfalso
    have e : w.heap[a.block]? = none := by simp; omega
    simp [World.cell?, e] at h

theorem IsRow.ints {k : IntKind} {w : World} {a : Option Addr} {len cap : Nat} {zs : List Int} (h : IsRow k w a len cap zs) : Ints k w a len (zs.take len) := by
  rcases h with ⟨rfl, rfl, rfl, rfl⟩ | ⟨x, rfl, hl, hm, hz, hcell, _⟩
  · exact ⟨rfl, Nat.zero_le _, .inl rfl⟩
  · refine ⟨by simp; omega, by omega, ?_⟩
    by_cases h0 : len = 0
    · exact .inl h0
    · obtain ⟨b, off, rfl, hc⟩ := ints_at hcell (by omega)
      refine .inr ⟨b, off, rfl, cell_lt (hc 0 (by omega)), fun i hi => ?_⟩
      rw [hc i (by omega)]
      simp [hi]

theorem Ints.below {k : IntKind} {w w' : World} {a : Option Addr} {n : Nat} {l : List Int} (h : Ints k w a n l) (hb : Below w.heap.size w w') : Ints k w' a n l := by
  obtain ⟨h1, h2, h3⟩ := h
  refine ⟨h1, h2, ?_⟩
  rcases h3 with h3 | ⟨b, off, rfl, hlt, hc⟩
  · exact .inl h3
  · exact .inr ⟨b, off, rfl, by have := hb.size; omega, fun i hi => by rw [hb.cell (p := ⟨b, off + i, none⟩) hlt]; exact hc i hi⟩

end Go.Proofs.Ytobdgboejbbfiaa.V

namespace Go.Proofs.Ytobdgboejbbfiaa.V
open Go.RowKit

theorem info64 : (Try.prog.info? 2).map (fun i => (i.zero, i.size, i.bytes)) = some (some (.int .i64 0), 1, 8) := by kernel_rfl
theorem infoS64 : (Try.prog.info? 28).map (fun i => (i.zero, i.size, i.bytes)) = some (some (.slice none 0 0), 1, 24) := by kernel_rfl

/-- A slice that the call owns, in blocks from B on, holding the integers l. -/
def Own (w : World) (B : Nat) (v : Value) (l : List Int) : Prop := w.ownsRow B 2 1 v l.length (l.map (Value.int .i64))

theorem own_lt {w : World} {B : Nat} {T : TypeId} {v : Value} {n : Nat} {xs : List Value} (h : w.ownsRow B T 1 v n xs) {k : Nat} (hk : v.ownBlock = some k) : B ≤ k ∧ k < w.heap.size := World.ownsRow.lt h k hk

theorem ownsRow_keep {w w' : World} {B : Nat} {T : TypeId} {v : Value} {n : Nat} {xs : List Value} (h : w.ownsRow B T 1 v n xs) (hk : ∀ k, v.ownBlock = some k → w'.heap[k]? = w.heap[k]?) : w'.ownsRow B T 1 v n xs := by
  obtain ⟨h1, h2⟩ := h
  refine ⟨h1, ?_⟩
  rcases h2 with h2 | ⟨g, cap, cur, hv, hg, hh, r⟩
  · exact .inl h2
  · exact .inr ⟨g, cap, cur, hv, hg, by rw [hk g (by subst hv; rfl)]; exact hh, r⟩
theorem Own.keep {w w' : World} {B : Nat} {v : Value} {l : List Int} (h : Own w B v l) (hk : ∀ k, B ≤ k → k < w.heap.size → w'.heap[k]? = w.heap[k]?) : Own w' B v l :=
  ownsRow_keep h fun k hv => hk k (own_lt h hv).1 (own_lt h hv).2
theorem Own.below {w w' : World} {B : Nat} {v : Value} {l : List Int} (h : Own w B v l) (hb : Below w.heap.size w w') : Own w' B v l :=
  h.keep (fun k _ h2 => hb.block k h2)
theorem Own.mono {w : World} {B B' : Nat} {v : Value} {l : List Int} (h : Own w B v l) (hb : B' ≤ B) : Own w B' v l := World.ownsRow.mono h hb

/-- The form of an owned slice. -/
theorem own_form {w : World} {B : Nat} {T : TypeId} {v : Value} {n : Nat} {xs : List Value} (h : w.ownsRow B T 1 v n xs) : ∃ a cap, v = .slice a n cap ∧ n ≤ cap ∧ cap ≤ maxLen ∧ (0 < n → ∃ g, a = some ⟨g, 0, none⟩ ∧ B ≤ g ∧ g < w.heap.size) := by
  have h' := h
  obtain ⟨h1, h2⟩ := h
  rcases h2 with ⟨hv, h0⟩ | ⟨g, cap, cur, hv, hg, hh, hn, hc, r⟩
  · subst h0; exact ⟨none, 0, hv, Nat.le_refl _, Nat.zero_le _, fun h => by omega⟩
  · subst hv
    exact ⟨_, cap, rfl, hn, hc, fun _ => ⟨g, rfl, hg, (own_lt h' rfl).2⟩⟩

/-- What an owned slice is: a slice of the integers l. -/
theorem Own.ints {w : World} {B : Nat} {v : Value} {l : List Int} (h : Own w B v l) : ∃ a cap, v = .slice a l.length cap ∧ Ints .i64 w a l.length l := by
  have h' := h
  obtain ⟨h1, h2⟩ := h
  rcases h2 with ⟨hv, h0⟩ | ⟨g, cap, cur, hv, hg, hh, hn, hc, r⟩
  · refine ⟨none, 0, by rw [h0]; exact hv, rfl, by omega, .inl h0⟩
  · subst hv
    refine ⟨some ⟨g, 0, none⟩, cap, rfl, rfl, by omega, ?_⟩
    by_cases h0 : l.length = 0
    · exact .inl h0
    · refine .inr ⟨g, 0, rfl, (own_lt h' rfl).2, fun i hi => ?_⟩
      have := World.ownsRow.cellAt h' i (by omega)
      rw [Nat.zero_add, this]
      simp [hi]

theorem Own.ints' {w : World} {B : Nat} {a : Option Addr} {n cap : Nat} {l : List Int} (h : Own w B (.slice a n cap) l) : Ints .i64 w a n l := by
  obtain ⟨a', c', hv, hI⟩ := h.ints
  injection hv with e1 e2 e3
  subst e1 e2
  exact hI

theorem own_lit0 (w : World) (B : Nat) (hB : B ≤ w.heap.size) : Own (w.alloc (.cells #[] 2)) B (.slice (some ⟨w.heap.size, 0, none⟩) 0 0) [] :=
  World.ownsRow_lit w #[] 0 hB (by decide) rfl

theorem own_made (w : World) (B n : Nat) (hB : B ≤ w.heap.size) (hn : n ≤ maxLen) : Own (w.alloc (.cells (madeCells #[.int .i64 0] n) 2)) B (.slice (some ⟨w.heap.size, 0, none⟩) n n) ((List.range n).map fun _ => 0) := by
  have h := World.rowIs_made w (.int .i64 0) n 2
  obtain ⟨c, hb, hs, hc⟩ := h
  refine ⟨by simp, .inr ⟨w.heap.size, n, c, by simp, hB, hb, by simp, hn, by simp [hs], ?_⟩⟩
  apply List.ext_getElem
  · simp [hs]
  · intro i h1 h2
    simp only [List.length_map, List.length_range] at h2
    have := hc i h2
    simp [List.getElem_take]
    rw [Array.getElem?_eq_getElem (by omega)] at this
    exact Option.some.inj this

theorem Own.len {w : World} {B n cap : Nat} {a : Option Addr} {l : List Int} (h : Own w B (.slice a n cap) l) : n = l.length := by
  obtain ⟨a', c, hv, _⟩ := own_form h
  injection hv
theorem Own.frozenAt {w : World} {B g n cap : Nat} {l : List Int} (h : Own w B (.slice (some ⟨g, 0, none⟩) n cap) l) (j : Nat) : w.frozen? ⟨g, j, none⟩ = false := by
  have e := h.len
  subst e
  exact World.ownsRow.frozenAt h j
theorem Own.cellAt {w : World} {B g n cap : Nat} {l : List Int} (h : Own w B (.slice (some ⟨g, 0, none⟩) n cap) l) (j : Nat) (hj : j < n) : w.cell? ⟨g, j, none⟩ = some (.int .i64 (l.getD j 0)) := by
  have e := h.len
  subst e
  rw [World.ownsRow.cellAt h j (by omega)]
  simp [hj]

/-- A store into an owned slice. -/
theorem Own.set {w : World} {B g n cap : Nat} {l : List Int} (h : Own w B (.slice (some ⟨g, 0, none⟩) n cap) l) (i : Nat) (x : Int) : Own (w.setCell ⟨g, i, none⟩ (.int .i64 x)) B (.slice (some ⟨g, 0, none⟩) n cap) (l.set i x) := by
  have hn : n = l.length := by
    obtain ⟨a, c, hv, _⟩ := own_form h
    injection hv
  subst hn
  have := (World.ownsRow.stored h i (.int .i64 x)).1
  unfold Own
  simpa [List.map_set] using this
end Go.Proofs.Ytobdgboejbbfiaa.V

namespace Go.Proofs.Ytobdgboejbbfiaa.V
open Go.RowKit

/-- A slice value (address a, length n) whose elements are slices that read as the rows R. -/
def Mat (w : World) (a : Option Addr) (n : Nat) (R : List (List Int)) : Prop :=
  R.length = n ∧ n ≤ maxLen ∧ (n = 0 ∨ ∃ b off, a = some ⟨b, off, none⟩ ∧ b < w.heap.size ∧ ∀ i, i < n → ∃ ra rc, w.cell? ⟨b, off + i, none⟩ = some (.slice ra (R.getD i []).length rc) ∧ Ints .i64 w ra (R.getD i []).length (R.getD i []))

theorem Mat.below {w w' : World} {a : Option Addr} {n : Nat} {R : List (List Int)} (h : Mat w a n R) (hb : Below w.heap.size w w') : Mat w' a n R := by
  obtain ⟨h1, h2, h3⟩ := h
  refine ⟨h1, h2, ?_⟩
  rcases h3 with h3 | ⟨b, off, rfl, hlt, hc⟩
  · exact .inl h3
  · refine .inr ⟨b, off, rfl, by have := hb.size; omega, fun i hi => ?_⟩
    obtain ⟨ra, rc, hr, hI⟩ := hc i hi
    exact ⟨ra, rc, by rw [hb.cell (p := ⟨b, off + i, none⟩) hlt]; exact hr, hI.below hb⟩

/-- One row of a matrix that is read. -/
theorem Mat.at {w : World} {a : Option Addr} {n : Nat} {R : List (List Int)} (h : Mat w a n R) (i : Nat) (hi : i < n) :
    ∃ b off ra rc L l, a = some ⟨b, off, none⟩ ∧ b < w.heap.size ∧ l = R.getD i [] ∧ w.cell? ⟨b, off + i, none⟩ = some (.slice ra L rc) ∧ Ints .i64 w ra L l := by
  obtain ⟨h1, h2, h3⟩ := h
  rcases h3 with h3 | ⟨b, off, rfl, hlt, hc⟩
  · omega
  · obtain ⟨ra, rc, hr, hI⟩ := hc i hi
    exact ⟨b, off, ra, rc, _, _, rfl, hlt, rfl, hr, hI⟩

theorem Ints.at {k : IntKind} {w : World} {a : Option Addr} {n : Nat} {l : List Int} (h : Ints k w a n l) (i : Nat) (hi : i < n) :
    ∃ b off x, a = some ⟨b, off, none⟩ ∧ b < w.heap.size ∧ x = l.getD i 0 ∧ w.cell? ⟨b, off + i, none⟩ = some (.int k x) := by
  obtain ⟨h1, h2, h3⟩ := h
  rcases h3 with h3 | ⟨b, off, rfl, hlt, hc⟩
  · omega
  · exact ⟨b, off, _, rfl, hlt, rfl, hc i hi⟩

/-- One entry of a matrix that is read. -/
theorem Mat.ent {w : World} {a : Option Addr} {n : Nat} {R : List (List Int)} (h : Mat w a n R) (i j : Nat) (hi : i < n) (hj : j < (R.getD i []).length) :
    ∃ b off rb ro L rc x, a = some ⟨b, off, none⟩ ∧ L = (R.getD i []).length ∧ x = (R.getD i []).getD j 0 ∧ w.cell? ⟨b, off + i, none⟩ = some (.slice (some ⟨rb, ro, none⟩) L rc) ∧ w.cell? ⟨rb, ro + j, none⟩ = some (.int .i64 x) := by
  obtain ⟨b, off, ra, rc, L, l, rfl, _, rfl, hc, hI⟩ := h.at i hi
  have hL := hI.1
  obtain ⟨rb, ro, x, rfl, _, hx, hc2⟩ := hI.at j (by omega)
  exact ⟨b, off, rb, ro, L, rc, x, rfl, hL.symm, hx, hc, hc2⟩
/-- A rectangle: n rows of length L. -/
def Rect (R : List (List Int)) (n L : Nat) : Prop := R.length = n ∧ ∀ i, i < n → (R.getD i []).length = L
theorem rect_mk (m n : Nat) (f : Nat → Nat → Int) : Rect (M.mk m n f) m n := ⟨by simp, fun i hi => M.mk_rowlen m n f i hi⟩
theorem rect_mat {R : List (List Int)} (h : M.isMat R = true) : Rect R R.length (M.wid R) := ⟨rfl, fun _ hi => M.isMat_len h hi⟩
theorem Rect.wid {R : List (List Int)} {n L : Nat} (h : Rect R n L) (hn : 0 < n) : M.wid R = L := h.2 0 hn
/-- One row of a rectangle. -/
theorem Mat.rect_at {w : World} {a : Option Addr} {n L : Nat} {R : List (List Int)} (h : Mat w a n R) (hr : Rect R n L) (i : Nat) (hi : i < n) :
    ∃ b off ra rc, a = some ⟨b, off, none⟩ ∧ b < w.heap.size ∧ w.cell? ⟨b, off + i, none⟩ = some (.slice ra L rc) ∧ Ints .i64 w ra L (R.getD i []) := by
  obtain ⟨b, off, ra, rc, L', l, rfl, hb, rfl, hc, hI⟩ := h.at i hi
  have e : L' = L := by rw [← hI.1]; exact hr.2 i hi
  subst e
  exact ⟨b, off, ra, rc, rfl, hb, hc, hI⟩
theorem Mat.rect_first {w : World} {a : Option Addr} {n L : Nat} {R : List (List Int)} (h : Mat w a n R) (hr : Rect R n L) (hn : 0 < n) :
    ∃ b off ra rc, a = some ⟨b, off, none⟩ ∧ b < w.heap.size ∧ w.cell? ⟨b, off, none⟩ = some (.slice ra L rc) := by
  obtain ⟨b, off, ra, rc, rfl, hb, hc, _⟩ := h.rect_at hr 0 hn
  exact ⟨b, off, ra, rc, rfl, hb, by simpa using hc⟩
/-- One entry of a rectangle. -/
theorem Mat.rect_ent {w : World} {a : Option Addr} {n L : Nat} {R : List (List Int)} (h : Mat w a n R) (hr : Rect R n L) (i j : Nat) (hi : i < n) (hj : j < L) :
    ∃ b off rb ro rc x, a = some ⟨b, off, none⟩ ∧ x = M.ent R i j ∧ w.cell? ⟨b, off + i, none⟩ = some (.slice (some ⟨rb, ro, none⟩) L rc) ∧ w.cell? ⟨rb, ro + j, none⟩ = some (.int .i64 x) := by
  obtain ⟨b, off, rb, ro, L', rc, x, rfl, hL, hx, h1, h2⟩ := h.ent i j hi (by rw [hr.2 i hi]; exact hj)
  rw [hr.2 i hi] at hL
  subst hL
  exact ⟨b, off, rb, ro, rc, x, rfl, hx, h1, h2⟩

/-- The first row's length. -/
theorem Mat.first {w : World} {a : Option Addr} {n : Nat} {R : List (List Int)} (h : Mat w a n R) (hi : 0 < n) :
    ∃ b off ra L rc, a = some ⟨b, off, none⟩ ∧ L = M.wid R ∧ w.cell? ⟨b, off, none⟩ = some (.slice ra L rc) := by
  obtain ⟨b, off, ra, rc, L, l, rfl, _, hl, hc, hI⟩ := h.at 0 hi
  exact ⟨b, off, ra, L, rc, rfl, by rw [← hI.1, hl]; rfl, by simpa using hc⟩

/-- A slice of slices that the call owns, in blocks from B on, each in a block of its own, holding the rows R; V are the values of its rows. -/
def OwnV (w : World) (B : Nat) (v : Value) (R : List (List Int)) (V : List Value) : Prop :=
  V.length = R.length ∧ w.ownsRow B 28 1 v R.length V ∧ (∀ i, i < R.length → Own w B (V.getD i (.slice none 0 0)) (R.getD i [])) ∧
  (∀ i, i < R.length → ∀ k, (V.getD i (.slice none 0 0)).ownBlock = some k → v.ownBlock ≠ some k) ∧
  ∀ i j, i < R.length → j < R.length → i ≠ j → ∀ k, (V.getD i (.slice none 0 0)).ownBlock = some k → (V.getD j (.slice none 0 0)).ownBlock ≠ some k

def OwnM (w : World) (B : Nat) (v : Value) (R : List (List Int)) : Prop := ∃ V, OwnV w B v R V

theorem OwnM.keep {w w' : World} {B : Nat} {v : Value} {R : List (List Int)} (h : OwnM w B v R) (hk : ∀ k, B ≤ k → k < w.heap.size → w'.heap[k]? = w.heap[k]?) : OwnM w' B v R := by
  obtain ⟨V, h1, h2, h3, h4, h5⟩ := h
  exact ⟨V, h1, ownsRow_keep h2 (fun k hv => hk k (own_lt h2 hv).1 (own_lt h2 hv).2), fun i hi => (h3 i hi).keep hk, h4, h5⟩
theorem OwnM.below {w w' : World} {B : Nat} {v : Value} {R : List (List Int)} (h : OwnM w B v R) (hb : Below w.heap.size w w') : OwnM w' B v R :=
  h.keep (fun k _ h2 => hb.block k h2)
theorem OwnM.mono {w : World} {B B' : Nat} {v : Value} {R : List (List Int)} (h : OwnM w B v R) (hb : B' ≤ B) : OwnM w B' v R := by
  obtain ⟨V, h1, h2, h3, h4, h5⟩ := h
  exact ⟨V, h1, World.ownsRow.mono h2 hb, fun i hi => (h3 i hi).mono hb, h4, h5⟩

theorem OwnM.form {w : World} {B : Nat} {v : Value} {R : List (List Int)} (h : OwnM w B v R) : ∃ a cap, v = .slice a R.length cap ∧ R.length ≤ maxLen := by
  obtain ⟨V, h1, h2, _⟩ := h
  obtain ⟨a, cap, hv, h3, h4, _⟩ := own_form h2
  exact ⟨a, cap, hv, by omega⟩

theorem OwnM.mat {w : World} {B : Nat} {a : Option Addr} {n cap : Nat} {R : List (List Int)} (h : OwnM w B (.slice a n cap) R) : Mat w a n R := by
  obtain ⟨V, h1, h2, h3, h4, h5⟩ := h
  obtain ⟨a', c', hv, hc, hm, hg⟩ := own_form h2
  injection hv with e1 e2 e3
  subst e1 e2 e3
  refine ⟨rfl, by omega, ?_⟩
  by_cases h0 : R.length = 0
  · exact .inl h0
  · obtain ⟨g, rfl, hB, hlt⟩ := hg (by omega)
    refine .inr ⟨g, 0, rfl, hlt, fun i hi => ?_⟩
    obtain ⟨ra, rc, hv, hI⟩ := (h3 i hi).ints
    refine ⟨ra, rc, ?_, hI⟩
    have := World.ownsRow.cellAt h2 i (by omega)
    rw [Nat.zero_add, this, ← hv]
    simp [h1, hi]

theorem OwnM.lt {w : World} {B n cap g o : Nat} {R : List (List Int)} (h : OwnM w B (.slice (some ⟨g, o, none⟩) n cap) R) (_ : True = True) : g < w.heap.size := by
  obtain ⟨V, h1, h2, _⟩ := h
  exact (own_lt h2 (k := g) rfl).2
theorem OwnM.ge {w : World} {B n cap g o : Nat} {R : List (List Int)} (h : OwnM w B (.slice (some ⟨g, o, none⟩) n cap) R) : B ≤ g := by
  obtain ⟨V, h1, h2, _⟩ := h
  exact (own_lt h2 (k := g) rfl).1
theorem OwnM.len {w : World} {B n cap : Nat} {a : Option Addr} {R : List (List Int)} (h : OwnM w B (.slice a n cap) R) : n = R.length := by
  obtain ⟨a', c', hv, _⟩ := h.form
  injection hv
theorem OwnM.outer {w : World} {B n cap g : Nat} {R : List (List Int)} (h : OwnM w B (.slice (some ⟨g, 0, none⟩) n cap) R) (i : Nat) (hi : i < n) : ∃ v, w.cell? ⟨g, i, none⟩ = some v := by
  have e := h.len
  subst e
  obtain ⟨V, h1, h2, _⟩ := h
  rw [World.ownsRow.cellAt h2 i (by omega)]
  exact ⟨V[i]'(by omega), by simp [h1, hi]⟩
theorem OwnM.outerFz {w : World} {B n cap g : Nat} {R : List (List Int)} (h : OwnM w B (.slice (some ⟨g, 0, none⟩) n cap) R) (i : Nat) : w.frozen? ⟨g, i, none⟩ = false := by
  have e := h.len
  subst e
  obtain ⟨V, h1, h2, _⟩ := h
  exact World.ownsRow.frozenAt h2 i

theorem ownM_nil (w : World) (B : Nat) : OwnM w B (.slice none 0 0) [] :=
  ⟨[], rfl, World.ownsRow_nil _ _ _ _, (fun i hi => absurd hi (Nat.not_lt_zero i)), (fun i hi => absurd hi (Nat.not_lt_zero i)), (fun i j hi => absurd hi (Nat.not_lt_zero i))⟩
theorem ownM_lit0 (w : World) (B : Nat) (hB : B ≤ w.heap.size) : OwnM (w.alloc (.cells #[] 28)) B (.slice (some ⟨w.heap.size, 0, none⟩) 0 0) [] :=
  ⟨[], rfl, World.ownsRow_lit w #[] 0 hB (by decide) rfl, (fun i hi => absurd hi (Nat.not_lt_zero i)), (fun i hi => absurd hi (Nat.not_lt_zero i)), (fun i j hi => absurd hi (Nat.not_lt_zero i))⟩

theorem own_nil (w : World) (B : Nat) : Own w B (.slice none 0 0) [] := World.ownsRow_nil _ _ _ _

theorem ownM_made (w : World) (B n : Nat) (hB : B ≤ w.heap.size) (hn : n ≤ maxLen) : OwnM (w.alloc (.cells (madeCells #[.slice none 0 0] n) 28)) B (.slice (some ⟨w.heap.size, 0, none⟩) n n) (List.replicate n []) := by
  have h := World.rowIs_made w (.slice none 0 0) n 28
  obtain ⟨c, hb, hs, hc⟩ := h
  refine ⟨List.replicate n (.slice none 0 0), by simp, ⟨by simp, .inr ⟨w.heap.size, n, c, by simp, hB, hb, by simp, hn, by simp [hs], ?_⟩⟩, ?_, ?_, ?_⟩
  · apply List.ext_getElem
    · simp [hs]
    · intro i h1 h2
      simp only [List.length_replicate] at h2
      have := hc i h2
      simp [List.getElem_take]
      rw [Array.getElem?_eq_getElem (by omega)] at this
      exact Option.some.inj this
  · intro i hi
    simp only [List.length_replicate] at hi
    have e1 : (List.replicate n (Value.slice none 0 0)).getD i (.slice none 0 0) = .slice none 0 0 := by simp [hi]
    have e2 : (List.replicate n ([] : List Int)).getD i [] = [] := by simp [hi]
    rw [e1, e2]
    exact own_nil _ _
  · intro i hi k hk
    simp only [List.length_replicate] at hi
    have e1 : (List.replicate n (Value.slice none 0 0)).getD i (.slice none 0 0) = .slice none 0 0 := by simp [hi]
    rw [e1] at hk
    cases hk
  · intro i j hi hj _ k hk
    simp only [List.length_replicate] at hi
    have e1 : (List.replicate n (Value.slice none 0 0)).getD i (.slice none 0 0) = .slice none 0 0 := by simp [hi]
    rw [e1] at hk
    cases hk

theorem getD_set {α : Type} (l : List α) (i j : Nat) (x d : α) (h : i < l.length) : (l.set i x).getD j d = if j = i then x else l.getD j d := by
  simp only [List.getD_eq_getElem?_getD, List.getElem?_set]
  by_cases e : i = j
  · subst e; simp [h]
  · rw [if_neg e, if_neg (by omega)]

/-- A row of its own is stored into an owned matrix: v keeps its block, and the row lies in blocks that are newer. -/
theorem OwnM.setRow {w w1 : World} {B g n cap : Nat} {R : List (List Int)} {rv : Value} {l : List Int} (h : OwnM w B (.slice (some ⟨g, 0, none⟩) n cap) R) (hb : Below w.heap.size w w1) (hB : B ≤ w.heap.size) (ho : Own w1 w.heap.size rv l) (i : Nat) (hi : i < n) :
    OwnM (w1.setCell ⟨g, i, none⟩ rv) B (.slice (some ⟨g, 0, none⟩) n cap) (R.set i l) := by
  have hlt := h
  obtain ⟨V, h1, h2, h3, h4, h5⟩ := h
  obtain ⟨a', c', hv, hc, hm, hg⟩ := own_form h2
  injection hv with e1 e2 e3
  subst e2 e3
  have hgl := own_lt h2 (k := g) rfl
  have hk : ∀ k, k < w.heap.size → k ≠ g → (w1.setCell ⟨g, i, none⟩ rv).heap[k]? = w.heap[k]? := fun k hk hne => by
    rw [Below.heap_setCell _ _ _ _ hne]; exact hb.block k hk
  have hw1 : w1.ownsRow B 28 1 (.slice (some ⟨g, 0, none⟩) R.length cap) R.length V := ownsRow_keep h2 (fun k hv => hb.block k (own_lt h2 hv).2)
  refine ⟨V.set i rv, by simpa using h1, ?_, ?_, ?_, ?_⟩
  · have := (World.ownsRow.stored hw1 i rv).1
    simpa using this
  · intro j hj
    simp only [List.length_set] at hj
    rw [getD_set _ _ _ _ _ (by omega), getD_set _ _ _ _ _ (by omega)]
    by_cases e : j = i
    · rw [if_pos e, if_pos e]
      exact (ownsRow_keep ho (fun k hv => Below.heap_setCell _ _ _ _ (by have := (own_lt ho hv).1; show k ≠ g; omega)) : Own _ _ _ _).mono hB
    · rw [if_neg e, if_neg e]
      exact ownsRow_keep (h3 j hj) (fun k hv => hk k (own_lt (h3 j hj) hv).2 (fun e => h4 j hj k hv (by rw [e]; rfl)))
  · intro j hj k hk'
    simp only [List.length_set] at hj
    rw [getD_set _ _ _ _ _ (by omega)] at hk'
    by_cases e : j = i
    · rw [if_pos e] at hk'
      have := (own_lt ho hk').1
      intro e2
      simp only [Value.ownBlock, Option.some.injEq] at e2
      omega
    · rw [if_neg e] at hk'
      exact h4 j hj k hk'
  · intro j t hj ht hne k hk'
    simp only [List.length_set] at hj ht
    rw [getD_set _ _ _ _ _ (by omega)] at hk'
    rw [getD_set _ _ _ _ _ (by omega)]
    by_cases e : j = i
    · rw [if_pos e] at hk'
      have e' : ¬ t = i := by omega
      rw [if_neg e']
      intro e2
      have := (own_lt ho hk').1
      have := (own_lt (h3 t ht) e2).2
      omega
    · rw [if_neg e] at hk'
      by_cases e' : t = i
      · rw [if_pos e']
        intro e2
        have := (own_lt ho e2).1
        have := (own_lt (h3 j hj) hk').2
        omega
      · rw [if_neg e']
        exact h5 j t hj ht hne k hk'

/-- What is needed to read and to write the entry at i, j of an owned matrix. -/
theorem OwnM.at {w : World} {B n cap : Nat} {a : Option Addr} {R : List (List Int)} (h : OwnM w B (.slice a n cap) R) (i j : Nat) (hi : i < n) (hj : j < (R.getD i []).length) :
    ∃ g q L c x, a = some ⟨g, 0, none⟩ ∧ B ≤ g ∧ B ≤ q ∧ L = (R.getD i []).length ∧ x = (R.getD i []).getD j 0 ∧ w.cell? ⟨g, i, none⟩ = some (.slice (some ⟨q, 0, none⟩) L c) ∧ w.cell? ⟨q, j, none⟩ = some (.int .i64 x) ∧ w.frozen? ⟨q, j, none⟩ = false ∧
      ∀ y, OwnM (w.setCell ⟨q, j, none⟩ (.int .i64 y)) B (.slice a n cap) (R.set i ((R.getD i []).set j y)) := by
  obtain ⟨V, h1, h2, h3, h4, h5⟩ := h
  obtain ⟨a', c', hv, hc, hm, hg⟩ := own_form h2
  injection hv with e1 e2 e3
  subst e1 e2 e3
  obtain ⟨g, rfl, hBg, hlt⟩ := hg (by omega)
  have hrow := h3 i hi
  obtain ⟨ra, rc, hrv, hrc, hrm, hrg⟩ := own_form hrow
  obtain ⟨q, rfl, hBq, hqlt⟩ := hrg (by omega)
  have hcell := World.ownsRow.cellAt h2 i (by omega)
  have hVi : V[i]? = some (V.getD i (.slice none 0 0)) := by simp [h1, hi]
  have hrow' := hrow
  rw [hrv] at hrow'
  have hcell2 := World.ownsRow.cellAt hrow' j (by omega)
  refine ⟨g, q, _, rc, _, rfl, hBg, hBq, rfl, rfl, ?_, ?_, World.ownsRow.frozenAt hrow' j, fun y => ?_⟩
  · rw [hcell, hVi, hrv]
  · rw [hcell2]
    generalize R.getD i [] = l at hj
    simp [hj]
  · have hqg : q ≠ g := fun e => h4 i hi q (by rw [hrv]; rfl) (by rw [e]; rfl)
    refine ⟨V, by simpa using h1, ?_, ?_, ?_, ?_⟩
    · rw [List.length_set]
      exact ownsRow_keep h2 (fun k hv => Below.heap_setCell _ _ _ _ (by
        simp only [Value.ownBlock, Option.some.injEq] at hv; show k ≠ q; omega))
    · intro t ht
      simp only [List.length_set] at ht
      rw [getD_set _ _ _ _ _ (by omega)]
      by_cases e : t = i
      · subst e
        rw [if_pos rfl, hrv]
        exact Own.set hrow' j y
      · rw [if_neg e]
        refine ownsRow_keep (h3 t ht) (fun k hv => Below.heap_setCell _ _ _ _ ?_)
        show k ≠ q
        intro e2
        subst e2
        exact h5 t i ht hi e k hv (by rw [hrv]; rfl)
    · intro t ht
      simp only [List.length_set] at ht
      exact h4 t ht
    · intro t s ht hs
      simp only [List.length_set] at ht hs
      exact h5 t s ht hs

/-- A row of its own is appended to an owned matrix. -/
theorem OwnV.snoc {w w1 w2 : World} {B q : Nat} {v v' rv : Value} {R : List (List Int)} {V : List Value} {l : List Int} (h : OwnV w B v R V) (hb : Below w.heap.size w w1) (hB : B ≤ w.heap.size) (ho : Own w1 w.heap.size rv l)
    (hw2 : w2.ownsRow B 28 1 v' (R.length + 1) (V ++ [rv])) (hg : ∀ k, k < w1.heap.size → v.ownBlock ≠ some k → w2.heap[k]? = w1.heap[k]?)
    (hvb : v'.ownBlock = v.ownBlock ∨ v'.ownBlock = some q) (hq : w1.heap.size ≤ q) : OwnM w2 B v' (R ++ [l]) := by
  obtain ⟨h1, h2, h3, h4, h5⟩ := h
  have eV : ∀ j, j < R.length → (V ++ [rv]).getD j (.slice none 0 0) = V.getD j (.slice none 0 0) := fun j hj => by
    simp [List.getD_eq_getElem?_getD, List.getElem?_append_left, h1, hj]
  have eV1 : (V ++ [rv]).getD R.length (.slice none 0 0) = rv := by
    simp [List.getD_eq_getElem?_getD, ← h1]
  have eR : ∀ j, j < R.length → (R ++ [l]).getD j [] = R.getD j [] := fun j hj => by
    simp [List.getD_eq_getElem?_getD, List.getElem?_append_left, hj]
  have eR1 : (R ++ [l]).getD R.length [] = l := by
    simp [List.getD_eq_getElem?_getD]
  have hold : ∀ j, j < R.length → ∀ k, (V.getD j (.slice none 0 0)).ownBlock = some k → k < w.heap.size := fun j hj k hk => (own_lt (h3 j hj) hk).2
  have hvn : ∀ k, k < w1.heap.size → v.ownBlock ≠ some k → v'.ownBlock ≠ some k := fun k hk hne => by
    rcases hvb with e | e
    · rw [e]; exact hne
    · rw [e]; intro e2; simp only [Option.some.injEq] at e2; omega
  have hvold : ∀ k, v.ownBlock = some k → k < w.heap.size := fun k hk => (own_lt h2 hk).2
  have hs := hb.size
  refine ⟨V ++ [rv], by simp [h1], by simpa using hw2, ?_, ?_, ?_⟩
  · intro j hj
    simp only [List.length_append, List.length_singleton] at hj
    by_cases e : j < R.length
    · rw [eV j e, eR j e]
      exact ownsRow_keep (h3 j e) (fun k hv => by
        have := hold j e k hv
        rw [hg k (by omega) (h4 j e k hv)]; exact hb.block k this)
    · obtain rfl : j = R.length := by omega
      rw [eV1, eR1]
      refine (ownsRow_keep ho (fun k hv => hg k (own_lt ho hv).2 (fun e2 => ?_)) : Own _ _ _ _).mono hB
      have := (own_lt ho hv).1
      have := hvold k e2
      omega
  · intro j hj k hk
    simp only [List.length_append, List.length_singleton] at hj
    by_cases e : j < R.length
    · rw [eV j e] at hk
      have := hold j e k hk
      exact hvn k (by omega) (h4 j e k hk)
    · obtain rfl : j = R.length := by omega
      rw [eV1] at hk
      have := own_lt ho hk
      exact hvn k this.2 (fun e2 => by have := hvold k e2; omega)
  · intro i j hi hj hne k hk
    simp only [List.length_append, List.length_singleton] at hi hj
    by_cases e : i < R.length
    · rw [eV i e] at hk
      by_cases e2 : j < R.length
      · rw [eV j e2]; exact h5 i j e e2 hne k hk
      · obtain rfl : j = R.length := by omega
        rw [eV1]
        intro e3
        have := hold i e k hk
        have := (own_lt ho e3).1
        omega
    · obtain rfl : i = R.length := by omega
      rw [eV1] at hk
      have e2 : j < R.length := by omega
      rw [eV j e2]
      intro e3
      have := hold j e2 k e3
      have := (own_lt ho hk).1
      omega
end Go.Proofs.Ytobdgboejbbfiaa.V

namespace Go.Proofs.Ytobdgboejbbfiaa.V
open Go.RowKit

theorem retB {a b : Bool} (h : a = b) : Ending.returned (.bool a) = .returned (.bool b) := by rw [h]
theorem retI {a b : Int} {k : IntKind} (h : a = b) : Ending.returned (.int k a) = .returned (.int k b) := by rw [h]
theorem retI2 {a b c d : Int} {k l : IntKind} (h : a = c) (h' : b = d) : Ending.returned (.tuple #[.int k a, .int l b]) = .returned (.tuple #[.int k c, .int l d]) := by rw [h, h']
theorem retP {a b : Int} {p : Int × Int} {k l : IntKind} (h : p = (a, b)) : Ending.returned (.tuple #[.int k a, .int l b]) = .returned (.tuple #[.int k p.1, .int l p.2]) := by rw [h]

set_option maxRecDepth 100000 in
set_option maxHeartbeats 400000 in
theorem isFinite (a : Int) (w : World) : Calls Try.prog 189 #[.int .i64 a] w fun e w' => e = .returned (.bool (M.isFin a)) ∧ w = w' := by
  go_enter Try.func189, Try.ntmps189
  go_wp2
  all_goals
    go_ret
    refine ⟨retB ?_, rfl⟩
    unfold M.isFin
    grind

set_option maxRecDepth 100000 in
set_option maxHeartbeats 400000 in
theorem isValid (a : Int) (w : World) : Calls Try.prog 188 #[.int .i64 a] w fun e w' => e = .returned (.bool (M.isVal a)) ∧ w = w' := by
  go_enter Try.func188, Try.ntmps188
  go_wp2_with (first | (go_at_call 189; refine (isFinite _ _).mono ?_; rintro e w' ⟨rfl, rfl⟩))
  all_goals
    go_ret
    refine ⟨retB ?_, rfl⟩
    unfold M.isVal
    grind

set_option maxRecDepth 100000 in
set_option maxHeartbeats 400000 in
theorem isValue (a : Int) (w : World) : Calls Try.prog 186 #[.int .i64 a] w fun e w' => e = .returned (.bool (M.isVal a)) ∧ w = w' := by
  go_enter Try.func186, Try.ntmps186
  go_wp2_with (first | (go_at_call 188; refine (isValid _ _).mono ?_; rintro e w' ⟨rfl, rfl⟩))
  all_goals
    go_ret
    exact ⟨rfl, rfl⟩

set_option maxRecDepth 100000 in
set_option maxHeartbeats 400000 in
theorem sIn (a b c : Int) (w : World) : Calls Try.prog 85 #[.int .i64 a, .int .i64 b, .int .i64 c] w fun e w' => e = .returned (.bool (decide (b ≤ a) && decide (a ≤ c))) ∧ w = w' := by
  go_enter Try.func85, Try.ntmps85
  go_wp2
  all_goals
    go_ret
    refine ⟨retB ?_, rfl⟩
    grind

end Go.Proofs.Ytobdgboejbbfiaa.V

namespace Go.Proofs.Ytobdgboejbbfiaa.V
open Go.RowKit

set_option maxRecDepth 100000 in
set_option maxHeartbeats 400000 in
theorem times (a b : Int) (w : World) (ha : M.isVal a = true) (hb : M.isVal b = true) : Calls Try.prog 158 #[.int .i64 a, .int .i64 b] w fun e w' => e = .returned (.int .i64 (M.times a b)) ∧ w = w' := by
  have ba := M.isVal_bound ha
  have bb := M.isVal_bound hb
  clear ha hb
  obtain ⟨ba1, ba2⟩ := ba
  obtain ⟨bb1, bb2⟩ := bb
  by_cases h : a = -1000000000000000
  · subst h
    go_enter Try.func158, Try.ntmps158
    go_wp2
    all_goals go_ret; exact ⟨retI (by simp [M.times]), rfl⟩
  · have h' : (a == -1000000000000000) = false := by simpa using h
    by_cases h2 : b = -1000000000000000
    · subst h2
      go_enter Try.func158, Try.ntmps158
      go_wp2
      all_goals go_ret; exact ⟨retI (by simp [M.times]), rfl⟩
    · have h2' : (b == -1000000000000000) = false := by simpa using h2
      go_enter Try.func158, Try.ntmps158
      go_wp2
      all_goals go_ret; exact ⟨retI (by simp [M.times, h, h2]), rfl⟩

set_option maxRecDepth 100000 in
set_option maxHeartbeats 400000 in
theorem sTimes (a b : Int) (w : World) (ha : M.isVal a = true) (hb : M.isVal b = true) : Calls Try.prog 166 #[.int .i64 a, .int .i64 b] w fun e w' => e = .returned (.int .i64 (M.times a b)) ∧ w = w' := by
  have ba := M.isVal_bound ha
  have bb := M.isVal_bound hb
  clear ha hb
  obtain ⟨ba1, ba2⟩ := ba
  obtain ⟨bb1, bb2⟩ := bb
  by_cases h : a = -1000000000000000
  · subst h
    go_enter Try.func166, Try.ntmps166
    go_wp2
    all_goals go_ret; exact ⟨retI (by simp [M.times]), rfl⟩
  · have h' : (a == -1000000000000000) = false := by simpa using h
    by_cases h2 : b = -1000000000000000
    · subst h2
      go_enter Try.func166, Try.ntmps166
      go_wp2
      all_goals go_ret; exact ⟨retI (by simp [M.times]), rfl⟩
    · have h2' : (b == -1000000000000000) = false := by simpa using h2
      go_enter Try.func166, Try.ntmps166
      go_wp2
      all_goals go_ret; exact ⟨retI (by simp [M.times, h, h2]), rfl⟩
end Go.Proofs.Ytobdgboejbbfiaa.V

namespace Go.Proofs.Ytobdgboejbbfiaa.V
open Go.RowKit

theorem append1 (w : World) {ops : Array Oper} {rest : List Oper} {o : Oper} {a : Act} {Q : Exit → Act → World → Prop} (hgd : o.guard = none) (s x : Operand)
    (ho : o.op = .call { callee := .builtin .append, args := #[s, x], argTypes := #[28, 28] }) (B : Nat) (v : Value) (l : List Int) (y : Int) (n : Nat) (hn : l.length = n) (hs : a.eval s = v) (hown : Own w B v l)
    (hx : a.eval x = .slice (some ⟨w.heap.size, 0, none⟩) 1 1) (hlen : l.length ≤ 2000000) (hB : B ≤ w.heap.size)
    (h : ∀ b' c' w', Own w' B (.slice b' (n + 1) c') (l ++ [y]) → Below B w w' → (∀ k, k < w.heap.size → v.ownBlock ≠ some k → w'.heap[k]? = w.heap[k]?) → wpList Try.prog ops Q rest (a.put o.dst (.slice b' (n + 1) c')) w') :
    wpList Try.prog ops Q (o :: rest) a (w.alloc (.cells #[.int .i64 y] 2)) := by
  subst hn
  obtain ⟨i0, hi, hz0, hz1, hz2⟩ := info_parts info64
  have hown2 : (w.alloc (.cells #[.int .i64 y] 2)).ownsRow B 2 1 v l.length (l.map (Value.int .i64)) := World.ownsRow.alloc hown _
  refine wpList_append_own_at (w := w.alloc (.cells #[.int .i64 y] 2)) hgd s x 28 ho B 2 i0 (.int .i64 0) 1 8 Try.underlying28 hi hz0 hz1 hz2 rfl (by decide) v _ _ hs hown2 ⟨w.heap.size, 0, none⟩ 1 1 [.int .i64 y] hx rfl (cell_one_new _ _ _) ?c2 ?c3 ?c4 ?c5 ?_
  case c2 => intro u hu; simp at hu; subst hu; rfl
  case c3 => unfold maxLen; omega
  case c4 => omega
  case c5 => simp; omega
  · intro v' w' hown' hgrow hz hvb
    have ho' : Own w' B v' (l ++ [y]) := by
      show w'.ownsRow B _ 1 v' (l ++ [y]).length ((l ++ [y]).map (Value.int .i64))
      simpa using hown'
    obtain ⟨b', c', hv', _⟩ := own_form ho'
    rw [show (l ++ [y]).length = l.length + 1 by simp] at hv'
    subst hv'
    refine h b' c' w' ho' (((Below.refl B w).alloc hB _).grown hgrow (by simp; omega) (fun k hk => (own_lt hown hk).1)) (fun k hk hne => ?_)
    obtain ⟨g1, g2, g3, g4, g5⟩ := hgrow
    rw [g5 k (by simp; omega) (fun e => hne e.symm), Below.heap_alloc _ _ _ hk]

theorem appendRow (w0 w : World) {ops : Array Oper} {rest : List Oper} {o : Oper} {a : Act} {Q : Exit → Act → World → Prop} (hgd : o.guard = none) (s x : Operand)
    (ho : o.op = .call { callee := .builtin .append, args := #[s, x], argTypes := #[72, 72] }) (B : Nat) (v rv : Value) (R : List (List Int)) (l : List Int) (n : Nat) (hn : R.length = n) (hs : a.eval s = v) (hown : OwnM w0 B v R) (hb : Below w0.heap.size w0 w) (hro : Own w w0.heap.size rv l)
    (hx : a.eval x = .slice (some ⟨w.heap.size, 0, none⟩) 1 1) (hlen : R.length ≤ 2000000) (hB : B ≤ w0.heap.size)
    (h : ∀ b' c' w', OwnM w' B (.slice b' (n + 1) c') (R ++ [l]) → Below B w w' → (∀ k, k < w.heap.size → v.ownBlock ≠ some k → w'.heap[k]? = w.heap[k]?) → wpList Try.prog ops Q rest (a.put o.dst (.slice b' (n + 1) c')) w') :
    wpList Try.prog ops Q (o :: rest) a (w.alloc (.cells #[rv] 28)) := by
  subst hn
  obtain ⟨i0, hi, hz0, hz1, hz2⟩ := info_parts infoS64
  have hsz := hb.size
  obtain ⟨V, h1, h2, h3⟩ := hown
  have hwV : w.ownsRow B 28 1 v R.length V := ownsRow_keep h2 (fun k hv => hb.block k (own_lt h2 hv).2)
  have hown2 : (w.alloc (.cells #[rv] 28)).ownsRow B 28 1 v R.length V := World.ownsRow.alloc hwV _
  refine wpList_append_own_at (w := w.alloc (.cells #[rv] 28)) hgd s x 72 ho B 28 i0 (.slice none 0 0) 1 24 Try.underlying72 hi hz0 hz1 hz2 rfl (by decide) v _ _ hs hown2 ⟨w.heap.size, 0, none⟩ 1 1 [rv] hx rfl (cell_one_new _ _ _) ?c2 ?c3 ?c4 ?c5 ?_
  case c2 =>
    intro u hu; simp at hu; subst hu
    obtain ⟨b', c', hv', _⟩ := own_form hro
    rw [hv']; rfl
  case c3 => unfold maxLen; omega
  case c4 => omega
  case c5 => simp; omega
  · intro v' w' hownV' hgrow hz hvb
    obtain ⟨g1, g2, g3, g4, g5⟩ := hgrow
    have hg : ∀ k, k < w.heap.size → v.ownBlock ≠ some k → w'.heap[k]? = w.heap[k]? := fun k hk hne => by
      rw [g5 k (by simp; omega) (fun e => hne e.symm), Below.heap_alloc _ _ _ hk]
    have hM : OwnM w' B v' (R ++ [l]) := by
      exact OwnV.snoc (q := (w.alloc (.cells #[rv] 28)).heap.size) ⟨h1, h2, h3⟩ hb hB hro hownV' hg hvb (by simp)
    obtain ⟨b', c', hv', _⟩ := hM.form
    rw [show (R ++ [l]).length = R.length + 1 by simp] at hv'
    subst hv'
    exact h b' c' w' hM (((Below.refl B w).alloc (by omega) _).grown ⟨g1, g2, g3, g4, g5⟩ (by simp; omega) (fun k hk => (own_lt h2 hk).1)) hg
end Go.Proofs.Ytobdgboejbbfiaa.V
