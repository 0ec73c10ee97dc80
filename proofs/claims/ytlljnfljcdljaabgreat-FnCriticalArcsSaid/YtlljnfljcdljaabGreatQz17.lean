/- Texts laid together: Gcd. -/
import Derived.Test.YtlljnfljcdljaabGreatQz2
set_option linter.unusedSimpArgs false
set_option linter.unusedVariables false
set_option linter.unusedSectionVars false
namespace Go.Proofs.YtlljnfljcdljaabGreat
namespace M
def gI (a b : Int) : Int := ((Int.gcd a b : Nat) : Int)
theorem gI_iff {d a b : Int} : d ∣ gI a b ↔ d ∣ a ∧ d ∣ b := by
  unfold gI
  constructor
  · intro h; exact ⟨Int.dvd_trans h (Int.gcd_dvd_left _ _), Int.dvd_trans h (Int.gcd_dvd_right _ _)⟩
  · rintro ⟨h1, h2⟩; exact Int.dvd_coe_gcd h1 h2
/-- What the model's search for cycles has found behind a path. -/
def lenG (A : Nat → Nat → Int) (n : Nat) : Nat → List Int → Int → Int
  | 0, _, g => g
  | f + 1, p, g => (List.range n).foldl (fun g v => if vx p 0 < v ∧ A v (lastV p) ≠ -1000000000000000 ∧ hasB p (v : Int) = false then lenG A n f (p ++ [(v : Int)]) g else g) (if A (vx p 0) (lastV p) ≠ -1000000000000000 then gI g p.length else g)
def stepL (A : Nat → Nat → Int) (n f : Nat) (p : List Int) (g : Int) (v : Nat) : Int := if vx p 0 < v ∧ A v (lastV p) ≠ -1000000000000000 ∧ hasB p (v : Int) = false then lenG A n f (p ++ [(v : Int)]) g else g
def lenV (A : Nat → Nat → Int) (n f : Nat) (p : List Int) (g : Int) (k : Nat) : Int := (List.range k).foldl (stepL A n f p) (if A (vx p 0) (lastV p) ≠ -1000000000000000 then gI g p.length else g)
theorem lenG_eq (A : Nat → Nat → Int) (n f : Nat) (p : List Int) (g : Int) : lenG A n (f + 1) p g = lenV A n f p g n := rfl
theorem lenV_next (A : Nat → Nat → Int) (n f : Nat) (p : List Int) (g : Int) (k : Nat) : lenV A n f p g (k + 1) = stepL A n f p (lenV A n f p g k) k := by
  unfold lenV; rw [List.range_succ, List.foldl_append]; rfl
theorem lenV_zero (A : Nat → Nat → Int) (n f : Nat) (p : List Int) (g : Int) : lenV A n f p g 0 = if A (vx p 0) (lastV p) ≠ -1000000000000000 then gI g p.length else g := rfl
theorem lenV_low {A : Nat → Nat → Int} {n f : Nat} {p : List Int} {g : Int} : ∀ {k : Nat}, k ≤ vx p 0 + 1 → lenV A n f p g k = lenV A n f p g 0
  | 0, _ => rfl
  | k + 1, h => by
    rw [lenV_next, stepL, if_neg (by omega)]
    exact lenV_low (by omega)
theorem foldl_dvd {α : Type} {d : Int} (s : Int → α → Int) (hs : ∀ g v, d ∣ s g v → d ∣ g) : ∀ (l : List α) (g : Int), d ∣ l.foldl s g → d ∣ g
  | [], _, h => h
  | v :: l, g, h => hs g v (foldl_dvd s hs l (s g v) h)
theorem lenG_mono {A : Nat → Nat → Int} {n : Nat} {d : Int} : ∀ (f : Nat) (p : List Int) (g : Int), d ∣ lenG A n f p g → d ∣ g
  | 0, _, _, h => h
  | f + 1, p, g, h => by
    rw [lenG_eq] at h
    have h2 := foldl_dvd (stepL A n f p) (fun g v hg => by
      unfold stepL at hg
      split at hg
      · exact lenG_mono f _ _ hg
      · exact hg) _ _ h
    split at h2
    · exact (gI_iff.1 h2).1
    · exact h2
theorem lenV_mono {A : Nat → Nat → Int} {n f : Nat} {p : List Int} {g d : Int} {k : Nat} : ∀ {m : Nat}, k ≤ m → d ∣ lenV A n f p g m → d ∣ lenV A n f p g k
  | 0, hk, h => by obtain rfl : k = 0 := by omega
                   exact h
  | m + 1, hk, h => by
    by_cases e : k = m + 1
    · subst e; exact h
    · rw [lenV_next] at h
      refine lenV_mono (m := m) (by omega) ?_
      unfold stepL at h
      split at h
      · exact lenG_mono f _ _ h
      · exact h
/-- A cycle that is written: its first node is the smallest. -/
def Wr (A : Nat → Nat → Int) (n : Nat) (q : List Int) : Prop :=
  1 ≤ q.length ∧ (∀ i, i < q.length → q.getD i 0 = (vx q i : Int) ∧ vx q i < n) ∧ (∀ i j, i < q.length → j < q.length → vx q i = vx q j → i = j) ∧
  (∀ i, i + 1 < q.length → A (vx q (i + 1)) (vx q i) ≠ -1000000000000000) ∧ A (vx q 0) (vx q (q.length - 1)) ≠ -1000000000000000 ∧ ∀ i, 1 ≤ i → i < q.length → vx q 0 < vx q i
theorem vx_take {q : List Int} {t i : Nat} (h : i < t) : vx (q.take t) i = vx q i := by
  unfold vx; rw [List.getD_eq_getElem?_getD, List.getD_eq_getElem?_getD, List.getElem?_take_of_lt h]
theorem hasB_take {q : List Int} {A : Nat → Nat → Int} {n t : Nat} (h : Wr A n q) (ht : t < q.length) : hasB (q.take t) ((vx q t : Nat) : Int) = false := by
  cases e : hasB (q.take t) ((vx q t : Nat) : Int) with
  | false => rfl
  | true =>
    unfold hasB at e
    rw [List.contains_iff_mem] at e
    obtain ⟨i, hi, e2⟩ := List.mem_iff_getElem.1 e
    have hi2 : i < t := by rw [List.length_take] at hi; omega
    have e3 : q.getD i 0 = (vx q t : Int) := by
      rw [← e2]
      simp [show i < q.length by omega]
    rw [(h.2.1 i (by omega)).1] at e3
    have := h.2.2.1 i t (by omega) ht (by omega)
    omega
theorem wr_dvd {A : Nat → Nat → Int} {n : Nat} {q : List Int} {d : Int} (h : Wr A n q) : ∀ (f t : Nat) (g : Int), 1 ≤ t → t ≤ q.length → q.length ≤ f + t → d ∣ lenG A n (f + 1) (q.take t) g → d ∣ (q.length : Int) := by
  intro f
  induction f with
  | zero =>
    intro t g h1 h2 h3 hd
    obtain rfl : t = q.length := by omega
    rw [List.take_length, lenG_eq] at hd
    have := lenV_mono (Nat.zero_le _) hd
    rw [lenV_zero, if_pos (show A (vx q 0) (lastV q) ≠ _ from h.2.2.2.2.1)] at this
    exact (gI_iff.1 this).2
  | succ f ih =>
    intro t g h1 h2 h3 hd
    by_cases e : t = q.length
    · subst e
      rw [List.take_length, lenG_eq] at hd
      have := lenV_mono (Nat.zero_le _) hd
      rw [lenV_zero, if_pos (show A (vx q 0) (lastV q) ≠ _ from h.2.2.2.2.1)] at this
      exact (gI_iff.1 this).2
    · have ht : t < q.length := by omega
      have hv := h.2.1 t ht
      rw [lenG_eq] at hd
      have hd2 := lenV_mono (k := vx q t + 1) (by omega) hd
      rw [lenV_next, stepL] at hd2
      have hl : lastV (q.take t) = vx q (t - 1) := by
        unfold lastV
        rw [List.length_take, Nat.min_eq_left (by omega), vx_take (by omega)]
      rw [if_pos (by
        refine ⟨?_, ?_, hasB_take h ht⟩
        · rw [vx_take (by omega)]; exact h.2.2.2.2.2 t h1 ht
        · rw [hl]
          have := h.2.2.2.1 (t - 1) (by omega)
          rw [show t - 1 + 1 = t by omega] at this
          exact this)] at hd2
      have e2 : q.take t ++ [((vx q t : Nat) : Int)] = q.take (t + 1) := by rw [take_snoc _ _ ht, hv.1]
      rw [e2] at hd2
      exact ih (t + 1) _ (by omega) (by omega) (by omega) hd2
/-- What divides the lengths of all cycles that are written divides what the search has found. -/
theorem lenG_sub {A : Nat → Nat → Int} {n : Nat} {d : Int} {c : Nat} (H : ∀ q, Wr A n q → vx q 0 = c → d ∣ (q.length : Int)) : ∀ (f : Nat) (p : List Int) (g : Int), d ∣ g →
    (1 ≤ p.length ∧ (∀ i, i < p.length → p.getD i 0 = (vx p i : Int) ∧ vx p i < n) ∧ (∀ i j, i < p.length → j < p.length → vx p i = vx p j → i = j) ∧
      (∀ i, i + 1 < p.length → A (vx p (i + 1)) (vx p i) ≠ -1000000000000000) ∧ ∀ i, 1 ≤ i → i < p.length → vx p 0 < vx p i) → vx p 0 = c → d ∣ lenG A n f p g
  | 0, _, _, hg, _, _ => hg
  | f + 1, p, g, hg, hp, hc => by
    obtain ⟨p1, p2, p3, p4, p5⟩ := hp
    have h0 : d ∣ lenV A n f p g 0 := by
      rw [lenV_zero]
      split
      · next e => exact gI_iff.2 ⟨hg, H p ⟨p1, p2, p3, p4, e, p5⟩ hc⟩
      · exact hg
    have : ∀ k, k ≤ n → d ∣ lenV A n f p g k := by
      intro k
      induction k with
      | zero => intro _; exact h0
      | succ k ih =>
        intro hk
        rw [lenV_next, stepL]
        split
        · next e =>
          obtain ⟨e1, e2, e3⟩ := e
          have old : ∀ i, i < p.length → (p ++ [(k : Int)]).getD i 0 = p.getD i 0 := fun i hi => by
            rw [List.getD_eq_getElem?_getD, List.getElem?_append_left hi, ← List.getD_eq_getElem?_getD]
          have new : (p ++ [(k : Int)]).getD p.length 0 = (k : Int) := by simp
          have vold : ∀ i, i < p.length → vx (p ++ [(k : Int)]) i = vx p i := fun i hi => by unfold vx; rw [old i hi]
          have vnew : vx (p ++ [(k : Int)]) p.length = k := by unfold vx; rw [new]; simp
          have hne : ∀ i, i < p.length → vx p i ≠ k := fun i hi e => by
            have : hasB p (k : Int) = true := by
              unfold hasB
              rw [List.contains_iff_mem]
              have := (p2 i hi).1
              rw [e] at this
              rw [← this]
              rw [List.getD_eq_getElem?_getD, List.getElem?_eq_getElem hi]; exact List.getElem_mem hi
            rw [e3] at this; cases this
          have hlen : (p ++ [(k : Int)]).length = p.length + 1 := by simp
          refine lenG_sub H f _ _ (ih (by omega)) ⟨by omega, fun i hi => ?_, fun i j hi hj e => ?_, fun i hi => ?_, fun i h1 hi => ?_⟩ (by rw [vold 0 (by omega)]; exact hc)
          · by_cases q : i < p.length
            · rw [old i q, vold i q]; exact p2 i q
            · obtain rfl : i = p.length := by omega
              rw [new, vnew]; exact ⟨rfl, by omega⟩
          · by_cases q : i < p.length <;> by_cases r : j < p.length
            · rw [vold i q, vold j r] at e; exact p3 i j q r e
            · obtain rfl : j = p.length := by omega
              rw [vold i q, vnew] at e; exact absurd e (hne i q)
            · obtain rfl : i = p.length := by omega
              rw [vold j r, vnew] at e; exact absurd e.symm (hne j r)
            · omega
          · by_cases q : i + 1 < p.length
            · rw [vold _ q, vold i (by omega)]; exact p4 i q
            · obtain rfl : i = p.length - 1 := by omega
              rw [show p.length - 1 + 1 = p.length by omega, vnew, vold _ (by omega)]
              exact e2
          · rw [vold 0 (by omega)]
            by_cases q : i < p.length
            · rw [vold i q]; exact p5 i h1 q
            · obtain rfl : i = p.length := by omega
              rw [vnew]; exact e1
        · exact ih (by omega)
    rw [lenG_eq]
    exact this n (Nat.le_refl _)
/-- A closed walk is made of cycles: what divides their lengths divides its length. -/
theorem closed_dvd {A : Nat → Nat → Int} {n : Nat} {d : Int} {C : Nat → Prop} (H : ∀ q, Wr A n q → C (vx q 0) → d ∣ (q.length : Int)) :
    ∀ (m : Nat) (f : Nat → Nat), f m = f 0 → (∀ i, i < m → A (f (i + 1)) (f i) ≠ -1000000000000000) → (∀ i, i ≤ m → f i < n ∧ C (f i)) → d ∣ (m : Int) := by
  intro m
  induction m using Nat.strongRecOn with
  | ind m ih =>
    intro f h0 h1 h2
    by_cases hm : m = 0
    · subst hm; exact Int.dvd_zero _
    by_cases hd : ∃ i j, i < j ∧ j < m ∧ f i = f j
    · obtain ⟨i, j, hij, hj, e⟩ := hd
      have a := ih (j - i) (by omega) (fun t => f (i + t)) (by show f (i + (j - i)) = f (i + 0); rw [show i + (j - i) = j by omega, Nat.add_zero, e]) (fun t ht => by
        show A (f (i + (t + 1))) (f (i + t)) ≠ _
        rw [← Nat.add_assoc]; exact h1 (i + t) (by omega)) (fun t ht => h2 (i + t) (by omega))
      have b := ih (m - (j - i)) (by omega) (fun t => if t ≤ i then f t else f (t + (j - i))) (by
        show (if m - (j - i) ≤ i then f (m - (j - i)) else f (m - (j - i) + (j - i))) = if 0 ≤ i then f 0 else _
        rw [if_neg (by omega), if_pos (Nat.zero_le _), show m - (j - i) + (j - i) = m by omega, h0]) (fun t ht => by
        show A (if t + 1 ≤ i then f (t + 1) else f (t + 1 + (j - i))) (if t ≤ i then f t else f (t + (j - i))) ≠ _
        by_cases q : t + 1 ≤ i
        · rw [if_pos q, if_pos (by omega)]; exact h1 t (by omega)
        · rw [if_neg q]
          by_cases r : t ≤ i
          · rw [if_pos r]
            obtain rfl : t = i := by omega
            rw [e, show t + 1 + (j - t) = j + 1 by omega]
            exact h1 j hj
          · rw [if_neg r, show t + 1 + (j - i) = t + (j - i) + 1 by omega]
            exact h1 (t + (j - i)) (by omega)) (fun t ht => by
        show (if t ≤ i then f t else f (t + (j - i))) < n ∧ C (if t ≤ i then f t else f (t + (j - i)))
        split
        · exact h2 t (by omega)
        · exact h2 _ (by omega))
      have : (m : Int) = ((j - i : Nat) : Int) + ((m - (j - i) : Nat) : Int) := by omega
      rw [this]
      exact Int.dvd_add a b
    · have hinj : ∀ i j, i < m → j < m → f i = f j → i = j := fun i j hi hj e => by
        rcases Nat.lt_trichotomy i j with q | q | q
        · exact absurd ⟨i, j, q, hj, e⟩ hd
        · exact q
        · exact absurd ⟨j, i, q, hi, e.symm⟩ hd
      obtain ⟨s, hs, hmin⟩ : ∃ s, s < m ∧ ∀ i, i < m → f s ≤ f i := by
        clear ih h0 h1 h2 hd hinj
        have : ∀ k, k < m → ∃ s, s < m ∧ ∀ i, i ≤ k → f s ≤ f i := by
          intro k
          induction k with
          | zero => intro hk; exact ⟨0, hk, fun i hi => by obtain rfl : i = 0 := by omega
                                                           exact Nat.le_refl _⟩
          | succ k ih =>
            intro hk
            obtain ⟨s, hs, h⟩ := ih (by omega)
            by_cases q : f s ≤ f (k + 1)
            · exact ⟨s, hs, fun i hi => by
                by_cases r : i = k + 1
                · subst r; exact q
                · exact h i (by omega)⟩
            · exact ⟨k + 1, hk, fun i hi => by
                by_cases r : i = k + 1
                · subst r; exact Nat.le_refl _
                · have := h i (by omega); omega⟩
        obtain ⟨s, hs, h⟩ := this (m - 1) (by omega)
        exact ⟨s, hs, fun i hi => h i (by omega)⟩
      have hlt : ∀ t, (s + t) % m < m := fun t => Nat.mod_lt _ (by omega)
      let q : List Int := (List.range m).map fun t => ((f ((s + t) % m) : Nat) : Int)
      have hql : q.length = m := by simp [q]
      have hqg : ∀ t, t < m → q.getD t 0 = ((f ((s + t) % m) : Nat) : Int) := fun t ht => by simp [q, ht]
      have hqv : ∀ t, t < m → vx q t = f ((s + t) % m) := fun t ht => by unfold vx; rw [hqg t ht]; simp
      have harc : ∀ u, u < m → A (f ((u + 1) % m)) (f u) ≠ -1000000000000000 := fun u hu => by
        by_cases e : u + 1 = m
        · rw [e, Nat.mod_self, ← h0, ← e]; exact h1 u hu
        · rw [Nat.mod_eq_of_lt (by omega)]; exact h1 u hu
      have hW : Wr A n q := by
        refine ⟨by omega, fun i hi => ?_, fun i j hi hj e => ?_, fun i hi => ?_, ?_, fun i h hi => ?_⟩
        · rw [hqg i (by omega), hqv i (by omega)]
          exact ⟨rfl, (h2 _ (Nat.le_of_lt (hlt i))).1⟩
        · rw [hqv i (by omega), hqv j (by omega)] at e
          have e2 := hinj _ _ (hlt i) (hlt j) e
          have hi2 : i < m := by omega
          have hj2 : j < m := by omega
          have c1 : (s + i) % m = if s + i < m then s + i else s + i - m := by
            split
            · exact Nat.mod_eq_of_lt (by assumption)
            · rw [Nat.mod_eq_sub_mod (by omega), Nat.mod_eq_of_lt (by omega)]
          have c2 : (s + j) % m = if s + j < m then s + j else s + j - m := by
            split
            · exact Nat.mod_eq_of_lt (by assumption)
            · rw [Nat.mod_eq_sub_mod (by omega), Nat.mod_eq_of_lt (by omega)]
          rw [c1, c2] at e2
          split at e2 <;> split at e2 <;> omega
        · rw [hqv (i + 1) (by omega), hqv i (by omega)]
          have := harc _ (hlt i)
          rw [Nat.mod_add_mod, Nat.add_assoc] at this
          exact this
        · rw [hqv 0 (by omega), hqv (q.length - 1) (by omega), hql]
          have := harc _ (hlt (m - 1))
          rw [Nat.mod_add_mod, show s + (m - 1) + 1 = s + m by omega, Nat.add_mod_right] at this
          exact this
        · rw [hqv 0 (by omega), hqv i (by omega), Nat.add_zero, Nat.mod_eq_of_lt hs]
          have h3 := hmin _ (hlt i)
          rcases Nat.lt_or_eq_of_le h3 with h4 | h4
          · exact h4
          · exfalso
            have e2 := hinj _ _ hs (hlt i) h4
            have hi2 : i < m := by omega
            have c1 : (s + i) % m = if s + i < m then s + i else s + i - m := by
              split
              · exact Nat.mod_eq_of_lt (by assumption)
              · rw [Nat.mod_eq_sub_mod (by omega), Nat.mod_eq_of_lt (by omega)]
            rw [c1] at e2
            split at e2 <;> omega
      have := H q hW (by rw [hqv 0 (by omega), Nat.add_zero, Nat.mod_eq_of_lt hs]; exact (h2 s (by omega)).2)
      rw [hql] at this
      exact this
end M
end Go.Proofs.YtlljnfljcdljaabGreat
