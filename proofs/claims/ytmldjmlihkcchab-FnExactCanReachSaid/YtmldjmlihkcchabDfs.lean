/- Plain facts on a search that goes deep first: what it has found when a node is left. -/
import Derived.Test.YtmldjmlihkcchabCmp
namespace Go.Proofs.Ytmldjmlihkcchab
namespace M
variable {A : Nat → Nat → Int} {n : Nat}
def upd (S : Nat → Bool) (v i : Nat) : Bool := decide (i = v) || S i
/-- What a visit of v makes of the found nodes. -/
def Dfs (A : Nat → Nat → Int) (n v : Nat) (S S' : Nat → Bool) : Prop :=
  (∀ i, S i = true → S' i = true) ∧ S' v = true ∧ (∀ i, S' i = true → S i = true ∨ Rch A n v i) ∧ ∀ j i, j < n → S' j = true → S j = false → i < n → A i j ≠ -1000000000000000 → S' i = true
/-- .. and what it has made of them when k arcs have been looked at. -/
def Part (A : Nat → Nat → Int) (n v : Nat) (S : Nat → Bool) (k : Nat) (S' : Nat → Bool) : Prop :=
  (∀ i, S i = true → S' i = true) ∧ S' v = true ∧ (∀ i, S' i = true → S i = true ∨ Rch A n v i) ∧ (∀ j i, j < n → j ≠ v → S' j = true → S j = false → i < n → A i j ≠ -1000000000000000 → S' i = true) ∧ ∀ i, i < k → A i v ≠ -1000000000000000 → S' i = true
theorem dfs_start {v : Nat} {S : Nat → Bool} (hv : v < n) : Part A n v S 0 (upd S v) := by
  refine ⟨fun i h => by unfold upd; rw [h, Bool.or_true], by unfold upd; simp, fun i h => ?_, fun j i _ hne h hn => ?_, fun i h => absurd h (Nat.not_lt_zero i)⟩
  · unfold upd at h
    rw [Bool.or_eq_true, decide_eq_true_eq] at h
    rcases h with h | h
    · subst h; exact .inr (rch_self hv)
    · exact .inl h
  · unfold upd at h
    rw [hn, Bool.or_false, decide_eq_true_eq] at h
    exact absurd h hne
theorem dfs_skip {v k : Nat} {S S' : Nat → Bool} (h : Part A n v S k S') (hk : A k v = -1000000000000000 ∨ S' k = true) : Part A n v S (k + 1) S' := by
  obtain ⟨h1, h2, h3, h4, h5⟩ := h
  refine ⟨h1, h2, h3, h4, fun i hi ha => ?_⟩
  by_cases e : i = k
  · subst e
    rcases hk with hk | hk
    · exact absurd hk ha
    · exact hk
  · exact h5 i (by omega) ha
theorem dfs_call {v k : Nat} {S S' S'' : Nat → Bool} (hv : v < n) (hk : k < n) (ha : A k v ≠ -1000000000000000) (h : Part A n v S k S') (hd : Dfs A n k S' S'') : Part A n v S (k + 1) S'' := by
  obtain ⟨h1, h2, h3, h4, h5⟩ := h
  obtain ⟨d1, d2, d3, d4⟩ := hd
  refine ⟨fun i hi => d1 i (h1 i hi), d1 v h2, fun i hi => ?_, fun j i hj hne hs hn hi ha' => ?_, fun i hi ha' => ?_⟩
  · rcases d3 i hi with q | q
    · exact h3 i q
    · exact .inr (rch_trans (rch_step (rch_self hv) hk ha) q)
  · cases e : S' j with
    | true => exact d1 i (h4 j i hj hne e hn hi ha')
    | false => exact d4 j i hj hs e hi ha'
  · by_cases e : i = k
    · subst e; exact d2
    · exact d1 i (h5 i (by omega) ha')
theorem dfs_end {v : Nat} {S S' : Nat → Bool} (h : Part A n v S n S') : Dfs A n v S S' := by
  obtain ⟨h1, h2, h3, h4, h5⟩ := h
  refine ⟨h1, h2, h3, fun j i hj hs hn hi ha => ?_⟩
  by_cases e : j = v
  · subst e; exact h5 i hi ha
  · exact h4 j i hj e hs hn hi ha
theorem dfs_mono {v k : Nat} {S S' : Nat → Bool} (h : Part A n v S k S') : ∀ i, upd S v i = true → S' i = true := fun i hi => by
  unfold upd at hi
  rw [Bool.or_eq_true, decide_eq_true_eq] at hi
  rcases hi with q | q
  · subst q; exact h.2.1
  · exact h.1 i q
theorem cnt_le {p q : Nat → Bool} {k : Nat} (h : ∀ i, i < k → p i = true → q i = true) : cnt p k ≤ cnt q k := by
  induction k with
  | zero => exact Nat.le_refl _
  | succ k ih =>
    rw [cnt_next, cnt_next]
    have := ih fun i hi => h i (by omega)
    have h1 := h k (by omega)
    cases e1 : p k <;> cases e2 : q k <;> simp_all <;> omega
theorem cnt_max (p : Nat → Bool) (k : Nat) : cnt p k ≤ k := by
  induction k with
  | zero => exact Nat.le_refl _
  | succ k ih => rw [cnt_next]; split <;> omega
theorem cnt_lt {p q : Nat → Bool} {k v : Nat} (hv : v < k) (hp : p v = false) (hq : q v = true) (h : ∀ i, i < k → p i = true → q i = true) : cnt p k < cnt q k := by
  induction k with
  | zero => omega
  | succ k ih =>
    rw [cnt_next, cnt_next]
    by_cases e : v = k
    · subst e
      have := cnt_le (p := p) (q := q) (k := v) fun i hi => h i (by omega)
      rw [hp, hq]; simp; omega
    · have := ih (by omega) fun i hi => h i (by omega)
      have h1 := h k (by omega)
      cases e1 : p k <;> cases e2 : q k <;> simp_all <;> omega
theorem cnt_upd {S : Nat → Bool} {v : Nat} (hv : v < n) (h : S v = false) : cnt (upd S v) n = cnt S n + 1 := by
  have e := cnt_or (p := S) (q := fun i => decide (i = v)) (r := upd S v) (k := n) (fun i _ => by unfold upd; rw [Bool.or_comm]) (fun i _ hi => by
    rw [decide_eq_false_iff_not]; intro e; subst e; rw [h] at hi; cases hi)
  rw [e]
  congr 1
  clear e h
  induction n with
  | zero => omega
  | succ n ih =>
    rw [cnt_next]
    by_cases e : n = v
    · subst e
      rw [cnt_none fun i hi => decide_eq_false (by omega)]; simp
    · rw [ih (by omega)]; simp [e]
/-- Fewer nodes are left behind a visit's start. -/
theorem cnt_left {v f : Nat} {S S' : Nat → Bool} (hv : v < n) (hs : S v = false) (hm : ∀ i, upd S v i = true → S' i = true) (h : cnt (fun i => !S i) n ≤ f + 1) : cnt (fun i => !S' i) n ≤ f := by
  have := cnt_lt (p := fun i => !S' i) (q := fun i => !S i) (k := n) hv (by
    have := hm v (by unfold upd; simp)
    simp [this]) (by simp [hs]) (fun i _ hi => by
    cases e : S i with
    | false => rfl
    | true =>
      have := hm i (by unfold upd; rw [e, Bool.or_true])
      simp [this] at hi)
  omega
theorem dfs_all {v : Nat} {S' : Nat → Bool} (hv : v < n) (h : Dfs A n v (fun _ => false) S') (i : Nat) : S' i = rchB A n v i := by
  obtain ⟨-, h2, h3, h4⟩ := h
  exact rch_set hv h2 (fun i hi => by
    rcases h3 i hi with q | q
    · cases q
    · exact q) (fun k i hk hs hi ha => h4 k i hk hs rfl hi ha) i
end M
end Go.Proofs.Ytmldjmlihkcchab
