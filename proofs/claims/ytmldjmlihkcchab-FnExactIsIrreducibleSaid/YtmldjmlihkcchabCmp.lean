/- Plain facts on components: they divide the nodes. -/
import Derived.Test.YtmldjmlihkcchabRea
namespace Go.Proofs.Ytmldjmlihkcchab
namespace M
variable {A : Nat → Nat → Int} {n : Nat}
def relB (A : Nat → Nat → Int) (n v w : Nat) : Bool := rchB A n v w && rchB A n w v
theorem relB_t {v w : Nat} : relB A n v w = true ↔ Rch A n v w ∧ Rch A n w v := by
  unfold relB
  rw [Bool.and_eq_true, rchB_t, rchB_t]
theorem relB_self {v : Nat} (h : v < n) : relB A n v v = true := relB_t.2 ⟨rch_self h, rch_self h⟩
theorem relB_symm (v w : Nat) : relB A n v w = relB A n w v := by unfold relB; rw [Bool.and_comm]
theorem relB_eq {v w : Nat} (h : relB A n v w = true) (u : Nat) : relB A n v u = relB A n w u := by
  obtain ⟨h1, h2⟩ := relB_t.1 h
  rw [Bool.eq_iff_iff, relB_t, relB_t]
  exact ⟨fun ⟨k1, k2⟩ => ⟨rch_trans h2 k1, rch_trans k2 h1⟩, fun ⟨k1, k2⟩ => ⟨rch_trans h1 k1, rch_trans k2 h2⟩⟩
/-- The component of v among the first k nodes. -/
def compP (A : Nat → Nat → Int) (n v k : Nat) : List Int := ((List.range k).filter (relB A n v)).map fun i : Nat => (i : Int)
def compL (A : Nat → Nat → Int) (n v : Nat) : List Int := compP A n v n
theorem compP_next (A : Nat → Nat → Int) (n v k : Nat) : compP A n v (k + 1) = compP A n v k ++ (if relB A n v k then [(k : Int)] else []) := by
  unfold compP
  rw [List.range_succ, List.filter_append, List.map_append]
  congr 1
  cases h : relB A n v k <;> simp [h]
theorem compP_len (A : Nat → Nat → Int) (n v k : Nat) : (compP A n v k).length ≤ k := by
  unfold compP
  rw [List.length_map]
  have := List.length_filter_le (relB A n v) (List.range k)
  rw [List.length_range] at this
  exact this
theorem mem_compP {v k : Nat} {x : Int} : x ∈ compP A n v k ↔ ∃ w : Nat, w < k ∧ relB A n v w = true ∧ x = w := by
  unfold compP
  simp only [List.mem_map, List.mem_filter, List.mem_range]
  exact ⟨fun ⟨w, ⟨h1, h2⟩, h3⟩ => ⟨w, h1, h2, h3.symm⟩, fun ⟨w, h1, h2, h3⟩ => ⟨w, ⟨h1, h2⟩, h3.symm⟩⟩
theorem compL_eq {v w : Nat} (h : relB A n v w = true) : compL A n v = compL A n w := by
  unfold compL compP
  congr 1
  exact List.filter_congr fun u _ => relB_eq h u
theorem compL_pos {v : Nat} (h : v < n) : 1 ≤ (compL A n v).length := List.length_pos_of_mem (mem_compP.2 ⟨v, h, relB_self h, rfl⟩)
theorem compL_at {v k : Nat} (h : k < (compL A n v).length) : ∃ w : Nat, w < n ∧ relB A n v w = true ∧ (compL A n v).getD k 0 = w := by
  have hm : (compL A n v).getD k 0 ∈ compL A n v := by
    rw [List.getD_eq_getElem?_getD, List.getElem?_eq_getElem h]; exact List.getElem_mem h
  exact mem_compP.1 hm
/-- The first node of the component. -/
def repN (A : Nat → Nat → Int) (n v : Nat) : Nat := ((compL A n v).getD 0 0).toNat
theorem rep_t {v : Nat} (h : v < n) : repN A n v < n ∧ relB A n v (repN A n v) = true ∧ (compL A n v).getD 0 0 = (repN A n v : Int) := by
  obtain ⟨w, h1, h2, h3⟩ := compL_at (A := A) (k := 0) (compL_pos h)
  unfold repN
  rw [h3]
  exact ⟨h1, h2, rfl⟩
theorem rep_eq {v w : Nat} (h : relB A n v w = true) : repN A n v = repN A n w := by unfold repN; rw [compL_eq h]
def compsP (A : Nat → Nat → Int) (n m : Nat) : List (List Int) := (List.range m).flatMap fun v => if repN A n v = v then [compL A n v] else []
def compsL (A : Nat → Nat → Int) (n : Nat) : List (List Int) := compsP A n n
theorem compsP_next (A : Nat → Nat → Int) (n m : Nat) : compsP A n (m + 1) = compsP A n m ++ (if repN A n m = m then [compL A n m] else []) := by
  unfold compsP
  rw [List.range_succ, List.flatMap_append]
  simp
theorem compsP_len (A : Nat → Nat → Int) (n m : Nat) : (compsP A n m).length ≤ m := by
  induction m with
  | zero => exact Nat.le_refl _
  | succ m ih => rw [compsP_next, List.length_append]; split <;> simp <;> omega
theorem mem_compsP {m : Nat} {l : List Int} : l ∈ compsP A n m ↔ ∃ v, v < m ∧ repN A n v = v ∧ l = compL A n v := by
  unfold compsP
  simp only [List.mem_flatMap, List.mem_range]
  constructor
  · rintro ⟨v, hv, h⟩
    split at h
    · next e => exact ⟨v, hv, e, by simpa using h⟩
    · simp at h
  · rintro ⟨v, hv, e, h⟩
    exact ⟨v, hv, by rw [if_pos e]; simp [h]⟩
def sumLen (L : List (List Int)) : Nat := L.foldr (fun l s => l.length + s) 0
theorem sumLen_app (L K : List (List Int)) : sumLen (L ++ K) = sumLen L + sumLen K := by
  induction L with
  | nil => simp [sumLen]
  | cons l L ih =>
    show l.length + sumLen (L ++ K) = l.length + sumLen L + sumLen K
    rw [ih]; omega
/-- How many of the first k nodes pass a test. -/
def cnt (p : Nat → Bool) (k : Nat) : Nat := ((List.range k).filter p).length
theorem cnt_next (p : Nat → Bool) (k : Nat) : cnt p (k + 1) = cnt p k + (if p k then 1 else 0) := by
  unfold cnt
  rw [List.range_succ, List.filter_append, List.length_append]
  cases h : p k <;> simp [h]
theorem cnt_congr {p q : Nat → Bool} {k : Nat} (h : ∀ i, i < k → p i = q i) : cnt p k = cnt q k := by
  unfold cnt
  rw [List.filter_congr fun i hi => h i (List.mem_range.1 hi)]
theorem cnt_or {p q r : Nat → Bool} {k : Nat} (h : ∀ i, i < k → r i = (p i || q i)) (hd : ∀ i, i < k → p i = true → q i = false) : cnt r k = cnt p k + cnt q k := by
  induction k with
  | zero => rfl
  | succ k ih =>
    rw [cnt_next, cnt_next, cnt_next, ih (fun i hi => h i (by omega)) (fun i hi => hd i (by omega)), h k (by omega)]
    have := hd k (by omega)
    cases e1 : p k <;> cases e2 : q k <;> simp_all <;> omega
theorem cnt_all (k : Nat) : cnt (fun _ => true) k = k := by
  unfold cnt
  rw [List.filter_eq_self.2 fun _ _ => rfl, List.length_range]
theorem cnt_none {p : Nat → Bool} {k : Nat} (h : ∀ i, i < k → p i = false) : cnt p k = 0 := by
  unfold cnt
  rw [List.filter_eq_nil_iff.2 fun i hi => by rw [h i (List.mem_range.1 hi)]; exact Bool.false_ne_true]
  rfl
theorem sum_comps (m : Nat) (hm : m ≤ n) : sumLen (compsP A n m) = cnt (fun w => decide (repN A n w < m)) n := by
  induction m with
  | zero =>
    rw [cnt_none fun i _ => decide_eq_false (Nat.not_lt_zero _)]
    rfl
  | succ m ih =>
    rw [compsP_next, sumLen_app, ih (by omega), cnt_or (p := fun w => decide (repN A n w < m)) (q := fun w => decide (repN A n w = m)) (r := fun w => decide (repN A n w < m + 1)) (fun i _ => by
      rw [Bool.eq_iff_iff, Bool.or_eq_true, decide_eq_true_eq, decide_eq_true_eq, decide_eq_true_eq]; omega) (fun i _ h => by rw [decide_eq_true_eq] at h; rw [decide_eq_false_iff_not]; omega)]
    congr 1
    by_cases e : repN A n m = m
    · rw [if_pos e]
      show (compL A n m).length + 0 = _
      unfold compL compP
      rw [List.length_map]
      show cnt (relB A n m) n + 0 = _
      rw [Nat.add_zero]
      refine cnt_congr fun w hw => ?_
      rw [Bool.eq_iff_iff, decide_eq_true_eq]
      constructor
      · intro h; rw [← rep_eq h, e]
      · intro h
        have := (rep_t (A := A) hw).2.1
        rw [h, relB_symm] at this; exact this
    · rw [if_neg e]
      refine (cnt_none fun w hw => ?_).symm
      rw [decide_eq_false_iff_not]
      intro h
      apply e
      have := (rep_t (A := A) hw).2.1
      rw [h] at this
      rw [← rep_eq this, h]
/-- The components divide the nodes. -/
theorem sum_compsL : sumLen (compsL A n) = n := by
  unfold compsL
  rw [sum_comps n (Nat.le_refl _), cnt_congr (q := fun _ => true) fun w hw => by simpa using (rep_t (A := A) hw).1, cnt_all]
theorem compsL_first (h : 1 ≤ n) : ∃ L, compsL A n = compL A n 0 :: L ∧ ∀ l, l ∈ L → 1 ≤ l.length := by
  obtain ⟨m, rfl⟩ : ∃ m, n = m + 1 := ⟨n - 1, by omega⟩
  have h0 : repN A (m + 1) 0 = 0 := by
    have hm : (0 : Int) ∈ compL A (m + 1) 0 := mem_compP.2 ⟨0, by omega, relB_self (by omega), rfl⟩
    unfold repN compL compP
    rw [List.range_succ_eq_map, List.filter_cons, if_pos (relB_self (by omega))]
    rfl
  have e : compsL A (m + 1) = compL A (m + 1) 0 :: (List.map Nat.succ (List.range m)).flatMap fun v => if repN A (m + 1) v = v then [compL A (m + 1) v] else [] := by
    unfold compsL compsP
    rw [List.range_succ_eq_map, List.flatMap_cons, if_pos h0]
    rfl
  refine ⟨_, e, fun l hl => ?_⟩
  have : l ∈ compsP A (m + 1) (m + 1) := by
    show l ∈ compsL A (m + 1)
    rw [e]; exact List.mem_cons_of_mem _ hl
  obtain ⟨v, hv, -, rfl⟩ := mem_compsP.1 this
  exact compL_pos hv
/-- One component alone: the first one holds all nodes. -/
theorem irr_eq (h : 1 ≤ n) : decide ((compL A n 0).length = n) = decide ((compsL A n).length = 1) := by
  obtain ⟨L, e, hL⟩ := compsL_first (A := A) h
  have hs := sum_compsL (A := A) (n := n)
  rw [e] at hs ⊢
  have hs : (compL A n 0).length + sumLen L = n := hs
  rw [Bool.eq_iff_iff, decide_eq_true_eq, decide_eq_true_eq]
  cases L with
  | nil =>
    have : sumLen ([] : List (List Int)) = 0 := rfl
    constructor
    · intro _; rfl
    · intro _; omega
  | cons l L =>
    have hl := hL l List.mem_cons_self
    have : sumLen (l :: L) = l.length + sumLen L := rfl
    constructor
    · intro h; omega
    · intro h; simp at h
end M
end Go.Proofs.Ytmldjmlihkcchab
