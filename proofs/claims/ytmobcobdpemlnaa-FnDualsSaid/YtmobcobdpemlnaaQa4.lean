/- Texts laid together: Pme. -/
import Derived.Test.YtmobcobdpemlnaaQa3
set_option linter.unusedSimpArgs false
set_option linter.unusedVariables false
set_option linter.unusedSectionVars false
namespace Go.Proofs.Ytmobcobdpemlnaa
namespace M
theorem relF_sm {R : List (List Int)} (h : Sq R) {p : Nat → Nat} (hp : ∀ i, i < R.length → p i < R.length ∧ -1000000 ≤ ent R i (p i) ∧ ent R i (p i) ≤ 1000000) {i k : Nat} (hi : i < R.length) (hk : k < R.length) : Sm 2000000 (relF R p i k) := by
  have h1 := h.2 i hi _ (hp k hk).1
  have h2 := (hp k hk).2
  have := sm_times (a := ent R i (p k)) (b := -(ent R k (p k))) h1 (B := 1000000) (.inr (by omega)) (by omega) (by omega) (by omega) (by omega)
  exact sm_up this (by omega)
theorem relF_fin {R : List (List Int)} {p : Nat → Nat} {i k : Nat} (hk : -1000000 ≤ ent R k (p k) ∧ ent R k (p k) ≤ 1000000) (h : relF R p i k ≠ -1000000000000000) : ent R i (p k) ≠ -1000000000000000 ∧ relF R p i k = ent R i (p k) - ent R k (p k) := by
  unfold relF times at h ⊢
  by_cases q : ent R i (p k) = -1000000000000000 ∨ -(ent R k (p k)) = -1000000000000000
  · rw [if_pos q] at h; exact absurd rfl h
  · rw [if_neg q]
    exact ⟨fun z => q (.inl z), by omega⟩
theorem owk_sum {A : Nat → Nat → Int} {v : Nat → Nat} : ∀ (s : Nat) (w : Int), owk (fun i j => o (A i j)) v s = some w → w = sumY s (fun t => A (v (t + 1)) (v t)) ∧ ∀ t, t < s → A (v (t + 1)) (v t) ≠ -1000000000000000
  | 0, w, h => by
    have h : some 0 = some w := h
    injection h with h
    exact ⟨h.symm, fun t ht => absurd ht (Nat.not_lt_zero _)⟩
  | s + 1, w, h => by
    have h : omul (o (A (v (s + 1)) (v s))) (owk (fun i j => o (A i j)) v s) = some w := h
    cases h1 : owk (fun i j => o (A i j)) v s with
    | none => rw [h1] at h; unfold omul at h; cases o (A (v (s + 1)) (v s)) <;> simp at h
    | some x =>
      obtain ⟨i1, i2⟩ := owk_sum s x h1
      rw [h1] at h
      by_cases q : A (v (s + 1)) (v s) = -1000000000000000
      · rw [q, o_bot] at h; unfold omul at h; simp at h
      · have e : o (A (v (s + 1)) (v s)) = some (A (v (s + 1)) (v s)) := by unfold o; rw [if_neg q]
        rw [e] at h
        unfold omul at h
        simp at h
        rw [sumY_s, ← i1]
        refine ⟨by omega, fun t ht => ?_⟩
        by_cases z : t = s
        · subst z; exact q
        · exact i2 t (by omega)
theorem best_noPos {R : List (List Int)} (h : Sq R) {p : Nat → Nat} (hp : ∀ i, i < R.length → p i < R.length ∧ -1000000 ≤ ent R i (p i) ∧ ent R i (p i) ≤ 1000000) (hinj : ∀ a b, a < R.length → b < R.length → p a = p b → a = b)
    (hbest : ∀ q : Nat → Nat, (∀ i, i < R.length → q i < R.length ∧ ent R i (q i) ≠ -1000000000000000) → (∀ a b, a < R.length → b < R.length → q a = q b → a = b) → sumY R.length (fun i => ent R i (q i)) ≤ sumY R.length (fun i => ent R i (p i))) : noPos (relF R p) R.length = true := by
  cases hc : noPos (relF R p) R.length with
  | true => rfl
  | false =>
    exfalso
    obtain ⟨v0, s0, hg0⟩ := gain_of (A := relF R p) h.1 (fun i j hi hj => sm_up (relF_sm h hp hi hj) (by omega)) hc
    obtain ⟨s, v, hg, hleast⟩ := gain_least hg0
    have hsimple : ∀ a b, a < b → b < s → v a ≠ v b := fun a b h1 h2 => gain_simple hg hleast h1 h2
    obtain ⟨g1, g2, g3, g4⟩ := hg
    have hd : ∀ a b, a < b → b < s → v (a + 1) ≠ v (b + 1) := fun a b h1 h2 => by
      by_cases e : b + 1 = s
      · rw [e, g2]; exact fun q => hsimple 0 (a + 1) (by omega) (by omega) q.symm
      · exact hsimple (a + 1) (b + 1) (by omega) (by omega)
    cases hw : owk (fun i j => o (relF R p i j)) v s with
    | none => rw [hw] at g4; exact g4 (ole_none _)
    | some w =>
      obtain ⟨w1, w2⟩ := owk_sum s w hw
      rw [hw] at g4
      have hpos : 0 < w := by
        apply Classical.byContradiction
        intro q
        exact g4 (by show w ≤ 0; omega)
      -- the nodes of the cycle take each the column of the node before
      obtain ⟨q, hq1, hq2⟩ : ∃ q : Nat → Nat, (∀ t, t < s → q (v (t + 1)) = p (v t)) ∧ ∀ i, (∀ t, t < s → v (t + 1) ≠ i) → q i = p i := by
        refine ⟨fun i => match (List.range s).find? (fun t => decide (v (t + 1) = i)) with | some t => p (v t) | none => p i, fun t ht => ?_, fun i hi => ?_⟩
        · show (match (List.range s).find? (fun t' => decide (v (t' + 1) = v (t + 1))) with | some t => p (v t) | none => p (v (t + 1))) = _
          cases hf : (List.range s).find? (fun t' => decide (v (t' + 1) = v (t + 1))) with
          | none =>
            rw [List.find?_eq_none] at hf
            have := hf t (List.mem_range.2 ht)
            simp at this
          | some t' =>
            obtain ⟨f1, f2, -⟩ := find_range hf
            rw [decide_eq_true_iff] at f2
            have : t' = t := by
              apply Classical.byContradiction
              intro hne
              rcases Nat.lt_or_gt_of_ne hne with z | z
              · exact hd t' t z ht f2
              · exact hd t t' z f1 f2.symm
            rw [this]
        · show (match (List.range s).find? (fun t' => decide (v (t' + 1) = i)) with | some t => p (v t) | none => p i) = _
          cases hf : (List.range s).find? (fun t' => decide (v (t' + 1) = i)) with
          | none => rfl
          | some t' =>
            obtain ⟨f1, f2, -⟩ := find_range hf
            rw [decide_eq_true_iff] at f2
            exact absurd f2 (hi t' f1)
      have onoff : ∀ i, (∃ t, t < s ∧ v (t + 1) = i) ∨ ∀ t, t < s → v (t + 1) ≠ i := fun i => by
        by_cases e : ∃ t, t < s ∧ v (t + 1) = i
        · exact .inl e
        · exact .inr fun t ht z => e ⟨t, ht, z⟩
      -- a node of the cycle is met behind the first step
      have met : ∀ t, t < s → ∃ t', t' < s ∧ v (t' + 1) = v t := fun t ht => by
        by_cases e : t = 0
        · subst e; exact ⟨s - 1, by omega, by rw [show s - 1 + 1 = s by omega, g2]⟩
        · exact ⟨t - 1, by omega, by rw [show t - 1 + 1 = t by omega]⟩
      have hqok : ∀ i, i < R.length → q i < R.length ∧ ent R i (q i) ≠ -1000000000000000 := fun i hi => by
        rcases onoff i with ⟨t, ht, rfl⟩ | e
        · rw [hq1 t ht]
          have hvt := g3 t (by omega)
          exact ⟨(hp _ hvt).1, (relF_fin (hp _ hvt).2 (w2 t ht)).1⟩
        · rw [hq2 i e]
          have := hp i hi
          exact ⟨this.1, by omega⟩
      have hqinj : ∀ a b, a < R.length → b < R.length → q a = q b → a = b := fun a b ha hb e => by
        rcases onoff a with ⟨t, ht, rfl⟩ | ea <;> rcases onoff b with ⟨t', ht', rfl⟩ | eb
        · rw [hq1 t ht, hq1 t' ht'] at e
          have e2 := hinj _ _ (g3 t (by omega)) (g3 t' (by omega)) e
          have : t = t' := by
            apply Classical.byContradiction
            intro hne
            rcases Nat.lt_or_gt_of_ne hne with z | z
            · exact hsimple t t' z ht' e2
            · exact hsimple t' t z ht e2.symm
          rw [this]
        · rw [hq1 t ht, hq2 b eb] at e
          have e2 := hinj _ _ (g3 t (by omega)) hb e
          obtain ⟨t', ht', h3⟩ := met t ht
          exact absurd (h3.trans e2) (eb t' ht')
        · rw [hq2 a ea, hq1 t' ht'] at e
          have e2 := hinj _ _ ha (g3 t' (by omega)) e
          obtain ⟨t, ht, h3⟩ := met t' ht'
          exact absurd (h3.trans e2.symm) (ea t ht)
        · rw [hq2 a ea, hq2 b eb] at e
          exact hinj a b ha hb e
      have hle := hbest q hqok hqinj
      have e1 := sumY_sub (fun i => ent R i (q i)) (fun i => ent R i (p i)) R.length
      have e2 : sumY R.length (fun i => ent R i (q i) - ent R i (p i)) = w := by
        have e3 := sumY_img (n := R.length) (v := fun t => v (t + 1)) (h := fun i => ent R i (q i) - ent R i (p i)) s hd (fun t ht => g3 (t + 1) (by omega))
        have e4 : sumY R.length (fun i => if (List.range s).any (fun t => decide (v (t + 1) = i)) then ent R i (q i) - ent R i (p i) else 0) = sumY R.length (fun i => ent R i (q i) - ent R i (p i)) := sumY_congr _ fun i hi => by
          by_cases z : (List.range s).any (fun t => decide (v (t + 1) = i)) = true
          · rw [if_pos z]
          · rw [if_neg z]
            have : q i = p i := hq2 i fun t ht q2 => z (by rw [List.any_eq_true]; exact ⟨t, List.mem_range.2 ht, by rw [decide_eq_true_iff]; exact q2⟩)
            rw [this]; omega
        rw [← e4, ← e3, w1]
        have e5 : sumY s (fun t => ent R (v (t + 1)) (q (v (t + 1))) - ent R (v (t + 1)) (p (v (t + 1)))) = sumY s (fun t => ent R (v (t + 1)) (p (v t))) - sumY s (fun t => ent R (v t) (p (v t))) := by
          rw [← sumY_turn (fun t => ent R (v t) (p (v t))) (s := s) (by rw [g2]), ← sumY_sub]
          exact sumY_congr s fun t ht => by rw [hq1 t ht]
        have e6 : sumY s (fun t => relF R p (v (t + 1)) (v t)) = sumY s (fun t => ent R (v (t + 1)) (p (v t))) - sumY s (fun t => ent R (v t) (p (v t))) := by
          rw [← sumY_sub]
          exact sumY_congr s fun t ht => (relF_fin (hp _ (g3 t (by omega))).2 (w2 t ht)).2
        rw [e6, ← e5]
      omega
end M
end Go.Proofs.Ytmobcobdpemlnaa
