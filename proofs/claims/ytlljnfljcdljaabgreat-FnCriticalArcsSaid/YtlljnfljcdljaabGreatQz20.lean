/- Texts laid together: Ndp. -/
import Derived.Test.YtlljnfljcdljaabGreatQz4
import Derived.Lib.SlicesCompact
set_option linter.unusedSimpArgs false
set_option linter.unusedVariables false
set_option linter.unusedSectionVars false
namespace Go.Proofs.YtlljnfljcdljaabGreat
namespace M
theorem uniq_lt : ∀ {l k : List Int}, l.Pairwise (fun x y => x < y) → k.Pairwise (fun x y => x < y) → (∀ x, x ∈ l ↔ x ∈ k) → l = k := by
  intro l
  induction l with
  | nil =>
    intro k _ _ h
    cases k with
    | nil => rfl
    | cons y k => exact absurd ((h y).2 (List.mem_cons_self ..)) (List.not_mem_nil)
  | cons x l ih =>
    intro k hl hk h
    cases k with
    | nil => exact absurd ((h x).1 (List.mem_cons_self ..)) (List.not_mem_nil)
    | cons y k =>
      obtain ⟨l1, l2⟩ := List.pairwise_cons.1 hl
      obtain ⟨k1, k2⟩ := List.pairwise_cons.1 hk
      have hxy : x = y := by
        rcases List.mem_cons.1 ((h x).1 (List.mem_cons_self ..)) with e | e
        · exact e
        · rcases List.mem_cons.1 ((h y).2 (List.mem_cons_self ..)) with e2 | e2
          · exact e2.symm
          · have := k1 x e; have := l1 y e2; omega
      subst hxy
      rw [ih l2 k2 fun z => ?_]
      constructor
      · intro hz
        rcases List.mem_cons.1 ((h z).1 (List.mem_cons_of_mem _ hz)) with e | e
        · have := l1 z hz; omega
        · exact e
      · intro hz
        rcases List.mem_cons.1 ((h z).2 (List.mem_cons_of_mem _ hz)) with e | e
        · have := k1 z hz; omega
        · exact e
theorem cmp_mem (d : Array Int) (m : Nat) (x : Int) : x ∈ Lib.compactUpTo d m ↔ ∃ j, j < m ∧ d[j]! = x := by
  induction m with
  | zero => simp [Lib.compactUpTo]
  | succ m ih =>
    rw [Lib.compactUpTo_succ, List.mem_append, ih]
    constructor
    · rintro (⟨j, hj, e⟩ | h)
      · exact ⟨j, by omega, e⟩
      · split at h
        · exact ⟨m, by omega, (List.mem_singleton.1 h).symm⟩
        · exact absurd h (List.not_mem_nil)
    · rintro ⟨j, hj, e⟩
      by_cases hjm : j < m
      · exact .inl ⟨j, hjm, e⟩
      · obtain rfl : j = m := by omega
        by_cases hk : Lib.keeps d j = true
        · right; rw [if_pos hk, e]; exact List.mem_singleton.2 rfl
        · left
          simp only [Lib.keeps, decide_eq_true_eq, not_or, Decidable.not_not] at hk
          exact ⟨j - 1, by omega, by rw [← hk.2, e]⟩
theorem cmp_lt (d : Array Int) (m : Nat) (hm : m ≤ d.size) (hs : ∀ j, j + 1 < d.size → d[j]! ≤ d[j + 1]!) : (Lib.compactUpTo d m).Pairwise (fun x y => x < y) ∧ ∀ x, x ∈ Lib.compactUpTo d m → x ≤ d[m - 1]! := by
  induction m with
  | zero => exact ⟨by simp [Lib.compactUpTo], fun x h => by simp [Lib.compactUpTo] at h⟩
  | succ m ih =>
    obtain ⟨i1, i2⟩ := ih (by omega)
    have hstep : ∀ x, x ∈ Lib.compactUpTo d m → x ≤ d[m]! := fun x hx => by
      have h1 := i2 x hx
      obtain ⟨j, hj, -⟩ := (cmp_mem d m x).1 hx
      have h2 := hs (m - 1) (by omega)
      rw [show m - 1 + 1 = m by omega] at h2
      omega
    rw [Lib.compactUpTo_succ, Nat.add_sub_cancel]
    by_cases hk : Lib.keeps d m = true
    · rw [if_pos hk]
      refine ⟨List.pairwise_append.2 ⟨i1, List.pairwise_singleton .., fun x hx y hy => ?_⟩, fun x hx => ?_⟩
      · obtain rfl := List.mem_singleton.1 hy
        have h1 := i2 x hx
        obtain ⟨j, hj, -⟩ := (cmp_mem d m x).1 hx
        have h2 := hs (m - 1) (by omega)
        rw [show m - 1 + 1 = m by omega] at h2
        simp only [Lib.keeps, decide_eq_true_eq] at hk
        rcases hk with hk | hk
        · omega
        · omega
      · rcases List.mem_append.1 hx with h | h
        · exact hstep x h
        · rw [List.mem_singleton.1 h]; exact Int.le_refl _
    · rw [if_neg hk, List.append_nil]
      exact ⟨i1, hstep⟩
theorem srt_mem (ss : List Int) (x : Int) : x ∈ Lib.compact (ss.mergeSort fun x y => decide (x ≤ y)) ↔ x ∈ ss := by
  unfold Lib.compact
  rw [cmp_mem, ← (List.mergeSort_perm ss fun x y => decide (x ≤ y)).mem_iff]
  generalize (ss.mergeSort fun x y => decide (x ≤ y)) = l
  rw [List.mem_iff_getElem]
  constructor
  · rintro ⟨j, hj, e⟩
    exact ⟨j, hj, by rw [← e]; simp [hj]⟩
  · rintro ⟨j, hj, e⟩
    exact ⟨j, hj, by rw [← e]; simp [hj]⟩
theorem srt_lt (ss : List Int) : (Lib.compact (ss.mergeSort fun x y => decide (x ≤ y))).Pairwise (fun x y => x < y) := by
  have hp : (ss.mergeSort fun x y => decide (x ≤ y)).Pairwise (fun x y => decide (x ≤ y) = true) :=
    List.pairwise_mergeSort (fun a b c h1 h2 => by simp only [decide_eq_true_eq] at *; omega) (fun a b => by simp only [Bool.or_eq_true, decide_eq_true_eq]; omega) ss
  unfold Lib.compact
  generalize (ss.mergeSort fun x y => decide (x ≤ y)) = l at *
  refine (cmp_lt l.toArray l.length (by simp) fun j hj => ?_).1
  have hj' : j + 1 < l.length := by simpa using hj
  have := List.pairwise_iff_getElem.1 hp j (j + 1) (by omega) hj' (by omega)
  simp only [decide_eq_true_eq] at this
  simpa [hj', show j < l.length by omega] using this
theorem nodesL_lt (R : List (List Int)) : (nodesL R).Pairwise (fun x y => x < y) := by
  unfold nodesL nodesP
  rw [List.pairwise_map]
  exact (List.pairwise_lt_range.filter _).imp fun h => by omega
theorem mem_nodesL {R : List (List Int)} {x : Int} : x ∈ nodesL R ↔ ∃ f : Nat, f < R.length ∧ crN R f = true ∧ x = f := by
  unfold nodesL nodesP
  rw [List.mem_map]
  constructor
  · rintro ⟨f, hf, rfl⟩
    obtain ⟨h1, h2⟩ := List.mem_filter.1 hf
    exact ⟨f, List.mem_range.1 h1, h2, rfl⟩
  · rintro ⟨f, h1, h2, rfl⟩
    exact ⟨f, List.mem_filter.2 ⟨List.mem_range.2 h1, h2⟩, rfl⟩
/-- The first nodes of all arcs, sorted and without repeats. -/
theorem srt_nodes {R : List (List Int)} {ss : List Int} (h : ∀ x, x ∈ ss ↔ ∃ f t : Nat, f < R.length ∧ t < R.length ∧ crB R f t = true ∧ x = f) : Lib.compact (ss.mergeSort fun x y => decide (x ≤ y)) = nodesL R := by
  refine uniq_lt (srt_lt ss) (nodesL_lt R) fun x => ?_
  rw [srt_mem, h, mem_nodesL]
  unfold crN
  constructor
  · rintro ⟨f, t, hf, ht, hc, e⟩
    exact ⟨f, hf, List.any_eq_true.2 ⟨t, List.mem_range.2 ht, hc⟩, e⟩
  · rintro ⟨f, hf, hc, e⟩
    obtain ⟨t, ht, hc⟩ := List.any_eq_true.1 hc
    exact ⟨f, t, hf, List.mem_range.1 ht, hc, e⟩
theorem nodesL_len (R : List (List Int)) : (nodesL R).length ≤ R.length := by
  unfold nodesL nodesP
  rw [List.length_map]
  have := List.length_filter_le (crN R) (List.range R.length)
  simpa using this
end M
end Go.Proofs.YtlljnfljcdljaabGreat
