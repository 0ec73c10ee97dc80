/- Texts laid together: Gcd, Per, Pes, Len. -/
import Derived.Test.YtmhpgnndjagogaaGreatQz1
import Derived.Test.YtmhpgnndjagogaaGreatQz15
import Derived.Test.YtmhpgnndjagogaaGreatQz17
import Derived.Test.YtmhpgnndjagogaaGreatQz11
import Derived.Test.YtmhpgnndjagogaaGreatQz16
import Derived.Test.YtmhpgnndjagogaaGreatQz7
set_option linter.unusedSimpArgs false
set_option linter.unusedVariables false
set_option linter.unusedSectionVars false
namespace Go.Proofs.YtmhpgnndjagogaaGreat
namespace M
def gI (a b : Int) : Int := ((Int.gcd a b : Nat) : Int)
theorem gI_iff {d a b : Int} : d ∣ gI a b ↔ d ∣ a ∧ d ∣ b := by
  unfold gI
  constructor
  · intro h; exact ⟨Int.dvd_trans h (Int.gcd_dvd_left _ _), Int.dvd_trans h (Int.gcd_dvd_right _ _)⟩
  · rintro ⟨h1, h2⟩; exact Int.dvd_coe_gcd h1 h2
/-- What the model's search for cycles has found behind a path. -/
def lenG (A : Nat → Nat → Int) (n : Nat) : Nat → List Int → Int → Int
  | 0, _, g => g
  | f + 1, p, g => (List.range n).foldl (fun g v => if vx p 0 < v ∧ A v (lastV p) ≠ -1000000000000000 ∧ hasB p (v : Int) = false then lenG A n f (p ++ [(v : Int)]) g else g) (if A (vx p 0) (lastV p) ≠ -1000000000000000 then gI g p.length else g)
def stepL (A : Nat → Nat → Int) (n f : Nat) (p : List Int) (g : Int) (v : Nat) : Int := if vx p 0 < v ∧ A v (lastV p) ≠ -1000000000000000 ∧ hasB p (v : Int) = false then lenG A n f (p ++ [(v : Int)]) g else g
def lenV (A : Nat → Nat → Int) (n f : Nat) (p : List Int) (g : Int) (k : Nat) : Int := (List.range k).foldl (stepL A n f p) (if A (vx p 0) (lastV p) ≠ -1000000000000000 then gI g p.length else g)
theorem lenG_eq (A : Nat → Nat → Int) (n f : Nat) (p : List Int) (g : Int) : lenG A n (f + 1) p g = lenV A n f p g n := rfl
theorem lenV_next (A : Nat → Nat → Int) (n f : Nat) (p : List Int) (g : Int) (k : Nat) : lenV A n f p g (k + 1) = stepL A n f p (lenV A n f p g k) k := by
  unfold lenV; rw [List.range_succ, List.foldl_append]; rfl
theorem lenV_zero (A : Nat → Nat → Int) (n f : Nat) (p : List Int) (g : Int) : lenV A n f p g 0 = if A (vx p 0) (lastV p) ≠ -1000000000000000 then gI g p.length else g := rfl
theorem lenV_low {A : Nat → Nat → Int} {n f : Nat} {p : List Int} {g : Int} : ∀ {k : Nat}, k ≤ vx p 0 + 1 → lenV A n f p g k = lenV A n f p g 0
  | 0, _ => rfl
  | k + 1, h => by
    rw [lenV_next, stepL, if_neg (by omega)]
    exact lenV_low (by omega)
theorem foldl_dvd {α : Type} {d : Int} (s : Int → α → Int) (hs : ∀ g v, d ∣ s g v → d ∣ g) : ∀ (l : List α) (g : Int), d ∣ l.foldl s g → d ∣ g
  | [], _, h => h
  | v :: l, g, h => hs g v (foldl_dvd s hs l (s g v) h)
theorem lenG_mono {A : Nat → Nat → Int} {n : Nat} {d : Int} : ∀ (f : Nat) (p : List Int) (g : Int), d ∣ lenG A n f p g → d ∣ g
  | 0, _, _, h => h
  | f + 1, p, g, h => by
    rw [lenG_eq] at h
    have h2 := foldl_dvd (stepL A n f p) (fun g v hg => by
      unfold stepL at hg
      split at hg
      · exact lenG_mono f _ _ hg
      · exact hg) _ _ h
    split at h2
    · exact (gI_iff.1 h2).1
    · exact h2
theorem lenV_mono {A : Nat → Nat → Int} {n f : Nat} {p : List Int} {g d : Int} {k : Nat} : ∀ {m : Nat}, k ≤ m → d ∣ lenV A n f p g m → d ∣ lenV A n f p g k
  | 0, hk, h => by obtain rfl : k = 0 := by omega
                   exact h
  | m + 1, hk, h => by
    by_cases e : k = m + 1
    · subst e; exact h
    · rw [lenV_next] at h
      refine lenV_mono (m := m) (by omega) ?_
      unfold stepL at h
      split at h
      · exact lenG_mono f _ _ h
      · exact h
/-- A cycle that is written: its first node is the smallest. -/
def Wr (A : Nat → Nat → Int) (n : Nat) (q : List Int) : Prop :=
  1 ≤ q.length ∧ (∀ i, i < q.length → q.getD i 0 = (vx q i : Int) ∧ vx q i < n) ∧ (∀ i j, i < q.length → j < q.length → vx q i = vx q j → i = j) ∧
  (∀ i, i + 1 < q.length → A (vx q (i + 1)) (vx q i) ≠ -1000000000000000) ∧ A (vx q 0) (vx q (q.length - 1)) ≠ -1000000000000000 ∧ ∀ i, 1 ≤ i → i < q.length → vx q 0 < vx q i
theorem vx_take {q : List Int} {t i : Nat} (h : i < t) : vx (q.take t) i = vx q i := by
  unfold vx; rw [List.getD_eq_getElem?_getD, List.getD_eq_getElem?_getD, List.getElem?_take_of_lt h]
theorem hasB_take {q : List Int} {A : Nat → Nat → Int} {n t : Nat} (h : Wr A n q) (ht : t < q.length) : hasB (q.take t) ((vx q t : Nat) : Int) = false := by
  cases e : hasB (q.take t) ((vx q t : Nat) : Int) with
  | false => rfl
  | true =>
    unfold hasB at e
    rw [List.contains_iff_mem] at e
    obtain ⟨i, hi, e2⟩ := List.mem_iff_getElem.1 e
    have hi2 : i < t := by rw [List.length_take] at hi; omega
    have e3 : q.getD i 0 = (vx q t : Int) := by
      rw [← e2]
      simp [show i < q.length by omega]
    rw [(h.2.1 i (by omega)).1] at e3
    have := h.2.2.1 i t (by omega) ht (by omega)
    omega
theorem wr_dvd {A : Nat → Nat → Int} {n : Nat} {q : List Int} {d : Int} (h : Wr A n q) : ∀ (f t : Nat) (g : Int), 1 ≤ t → t ≤ q.length → q.length ≤ f + t → d ∣ lenG A n (f + 1) (q.take t) g → d ∣ (q.length : Int) := by
  intro f
  induction f with
  | zero =>
    intro t g h1 h2 h3 hd
    obtain rfl : t = q.length := by omega
    rw [List.take_length, lenG_eq] at hd
    have := lenV_mono (Nat.zero_le _) hd
    rw [lenV_zero, if_pos (show A (vx q 0) (lastV q) ≠ _ from h.2.2.2.2.1)] at this
    exact (gI_iff.1 this).2
  | succ f ih =>
    intro t g h1 h2 h3 hd
    by_cases e : t = q.length
    · subst e
      rw [List.take_length, lenG_eq] at hd
      have := lenV_mono (Nat.zero_le _) hd
      rw [lenV_zero, if_pos (show A (vx q 0) (lastV q) ≠ _ from h.2.2.2.2.1)] at this
      exact (gI_iff.1 this).2
    · have ht : t < q.length := by omega
      have hv := h.2.1 t ht
      rw [lenG_eq] at hd
      have hd2 := lenV_mono (k := vx q t + 1) (by omega) hd
      rw [lenV_next, stepL] at hd2
      have hl : lastV (q.take t) = vx q (t - 1) := by
        unfold lastV
        rw [List.length_take, Nat.min_eq_left (by omega), vx_take (by omega)]
      rw [if_pos (by
        refine ⟨?_, ?_, hasB_take h ht⟩
        · rw [vx_take (by omega)]; exact h.2.2.2.2.2 t h1 ht
        · rw [hl]
          have := h.2.2.2.1 (t - 1) (by omega)
          rw [show t - 1 + 1 = t by omega] at this
          exact this)] at hd2
      have e2 : q.take t ++ [((vx q t : Nat) : Int)] = q.take (t + 1) := by rw [take_snoc _ _ ht, hv.1]
      rw [e2] at hd2
      exact ih (t + 1) _ (by omega) (by omega) (by omega) hd2
/-- What divides the lengths of all cycles that are written divides what the search has found. -/
theorem lenG_sub {A : Nat → Nat → Int} {n : Nat} {d : Int} {c : Nat} (H : ∀ q, Wr A n q → vx q 0 = c → d ∣ (q.length : Int)) : ∀ (f : Nat) (p : List Int) (g : Int), d ∣ g →
    (1 ≤ p.length ∧ (∀ i, i < p.length → p.getD i 0 = (vx p i : Int) ∧ vx p i < n) ∧ (∀ i j, i < p.length → j < p.length → vx p i = vx p j → i = j) ∧
      (∀ i, i + 1 < p.length → A (vx p (i + 1)) (vx p i) ≠ -1000000000000000) ∧ ∀ i, 1 ≤ i → i < p.length → vx p 0 < vx p i) → vx p 0 = c → d ∣ lenG A n f p g
  | 0, _, _, hg, _, _ => hg
  | f + 1, p, g, hg, hp, hc => by
    obtain ⟨p1, p2, p3, p4, p5⟩ := hp
    have h0 : d ∣ lenV A n f p g 0 := by
      rw [lenV_zero]
      split
      · next e => exact gI_iff.2 ⟨hg, H p ⟨p1, p2, p3, p4, e, p5⟩ hc⟩
      · exact hg
    have : ∀ k, k ≤ n → d ∣ lenV A n f p g k := by
      intro k
      induction k with
      | zero => intro _; exact h0
      | succ k ih =>
        intro hk
        rw [lenV_next, stepL]
        split
        · next e =>
          obtain ⟨e1, e2, e3⟩ := e
          have old : ∀ i, i < p.length → (p ++ [(k : Int)]).getD i 0 = p.getD i 0 := fun i hi => by
            rw [List.getD_eq_getElem?_getD, List.getElem?_append_left hi, ← List.getD_eq_getElem?_getD]
          have new : (p ++ [(k : Int)]).getD p.length 0 = (k : Int) := by simp
          have vold : ∀ i, i < p.length → vx (p ++ [(k : Int)]) i = vx p i := fun i hi => by unfold vx; rw [old i hi]
          have vnew : vx (p ++ [(k : Int)]) p.length = k := by unfold vx; rw [new]; simp
          have hne : ∀ i, i < p.length → vx p i ≠ k := fun i hi e => by
            have : hasB p (k : Int) = true := by
              unfold hasB
              rw [List.contains_iff_mem]
              have := (p2 i hi).1
              rw [e] at this
              rw [← this]
              rw [List.getD_eq_getElem?_getD, List.getElem?_eq_getElem hi]; exact List.getElem_mem hi
            rw [e3] at this; cases this
          have hlen : (p ++ [(k : Int)]).length = p.length + 1 := by simp
          refine lenG_sub H f _ _ (ih (by omega)) ⟨by omega, fun i hi => ?_, fun i j hi hj e => ?_, fun i hi => ?_, fun i h1 hi => ?_⟩ (by rw [vold 0 (by omega)]; exact hc)
          · by_cases q : i < p.length
            · rw [old i q, vold i q]; exact p2 i q
            · obtain rfl : i = p.length := by omega
              rw [new, vnew]; exact ⟨rfl, by omega⟩
          · by_cases q : i < p.length <;> by_cases r : j < p.length
            · rw [vold i q, vold j r] at e; exact p3 i j q r e
            · obtain rfl : j = p.length := by omega
              rw [vold i q, vnew] at e; exact absurd e (hne i q)
            · obtain rfl : i = p.length := by omega
              rw [vold j r, vnew] at e; exact absurd e.symm (hne j r)
            · omega
          · by_cases q : i + 1 < p.length
            · rw [vold _ q, vold i (by omega)]; exact p4 i q
            · obtain rfl : i = p.length - 1 := by omega
              rw [show p.length - 1 + 1 = p.length by omega, vnew, vold _ (by omega)]
              exact e2
          · rw [vold 0 (by omega)]
            by_cases q : i < p.length
            · rw [vold i q]; exact p5 i h1 q
            · obtain rfl : i = p.length := by omega
              rw [vnew]; exact e1
        · exact ih (by omega)
    rw [lenG_eq]
    exact this n (Nat.le_refl _)
/-- A closed walk is made of cycles: what divides their lengths divides its length. -/
theorem closed_dvd {A : Nat → Nat → Int} {n : Nat} {d : Int} {C : Nat → Prop} (H : ∀ q, Wr A n q → C (vx q 0) → d ∣ (q.length : Int)) :
    ∀ (m : Nat) (f : Nat → Nat), f m = f 0 → (∀ i, i < m → A (f (i + 1)) (f i) ≠ -1000000000000000) → (∀ i, i ≤ m → f i < n ∧ C (f i)) → d ∣ (m : Int) := by
  intro m
  induction m using Nat.strongRecOn with
  | ind m ih =>
    intro f h0 h1 h2
    by_cases hm : m = 0
    · subst hm; exact Int.dvd_zero _
    by_cases hd : ∃ i j, i < j ∧ j < m ∧ f i = f j
    · obtain ⟨i, j, hij, hj, e⟩ := hd
      have a := ih (j - i) (by omega) (fun t => f (i + t)) (by show f (i + (j - i)) = f (i + 0); rw [show i + (j - i) = j by omega, Nat.add_zero, e]) (fun t ht => by
        show A (f (i + (t + 1))) (f (i + t)) ≠ _
        rw [← Nat.add_assoc]; exact h1 (i + t) (by omega)) (fun t ht => h2 (i + t) (by omega))
      have b := ih (m - (j - i)) (by omega) (fun t => if t ≤ i then f t else f (t + (j - i))) (by
        show (if m - (j - i) ≤ i then f (m - (j - i)) else f (m - (j - i) + (j - i))) = if 0 ≤ i then f 0 else _
        rw [if_neg (by omega), if_pos (Nat.zero_le _), show m - (j - i) + (j - i) = m by omega, h0]) (fun t ht => by
        show A (if t + 1 ≤ i then f (t + 1) else f (t + 1 + (j - i))) (if t ≤ i then f t else f (t + (j - i))) ≠ _
        by_cases q : t + 1 ≤ i
        · rw [if_pos q, if_pos (by omega)]; exact h1 t (by omega)
        · rw [if_neg q]
          by_cases r : t ≤ i
          · rw [if_pos r]
            obtain rfl : t = i := by omega
            rw [e, show t + 1 + (j - t) = j + 1 by omega]
            exact h1 j hj
          · rw [if_neg r, show t + 1 + (j - i) = t + (j - i) + 1 by omega]
            exact h1 (t + (j - i)) (by omega)) (fun t ht => by
        show (if t ≤ i then f t else f (t + (j - i))) < n ∧ C (if t ≤ i then f t else f (t + (j - i)))
        split
        · exact h2 t (by omega)
        · exact h2 _ (by omega))
      have : (m : Int) = ((j - i : Nat) : Int) + ((m - (j - i) : Nat) : Int) := by omega
      rw [this]
      exact Int.dvd_add a b
    · have hinj : ∀ i j, i < m → j < m → f i = f j → i = j := fun i j hi hj e => by
        rcases Nat.lt_trichotomy i j with q | q | q
        · exact absurd ⟨i, j, q, hj, e⟩ hd
        · exact q
        · exact absurd ⟨j, i, q, hi, e.symm⟩ hd
      obtain ⟨s, hs, hmin⟩ : ∃ s, s < m ∧ ∀ i, i < m → f s ≤ f i := by
        clear ih h0 h1 h2 hd hinj
        have : ∀ k, k < m → ∃ s, s < m ∧ ∀ i, i ≤ k → f s ≤ f i := by
          intro k
          induction k with
          | zero => intro hk; exact ⟨0, hk, fun i hi => by obtain rfl : i = 0 := by omega
                                                           exact Nat.le_refl _⟩
          | succ k ih =>
            intro hk
            obtain ⟨s, hs, h⟩ := ih (by omega)
            by_cases q : f s ≤ f (k + 1)
            · exact ⟨s, hs, fun i hi => by
                by_cases r : i = k + 1
                · subst r; exact q
                · exact h i (by omega)⟩
            · exact ⟨k + 1, hk, fun i hi => by
                by_cases r : i = k + 1
                · subst r; exact Nat.le_refl _
                · have := h i (by omega); omega⟩
        obtain ⟨s, hs, h⟩ := this (m - 1) (by omega)
        exact ⟨s, hs, fun i hi => h i (by omega)⟩
      have hlt : ∀ t, (s + t) % m < m := fun t => Nat.mod_lt _ (by omega)
      let q : List Int := (List.range m).map fun t => ((f ((s + t) % m) : Nat) : Int)
      have hql : q.length = m := by simp [q]
      have hqg : ∀ t, t < m → q.getD t 0 = ((f ((s + t) % m) : Nat) : Int) := fun t ht => by simp [q, ht]
      have hqv : ∀ t, t < m → vx q t = f ((s + t) % m) := fun t ht => by unfold vx; rw [hqg t ht]; simp
      have harc : ∀ u, u < m → A (f ((u + 1) % m)) (f u) ≠ -1000000000000000 := fun u hu => by
        by_cases e : u + 1 = m
        · rw [e, Nat.mod_self, ← h0, ← e]; exact h1 u hu
        · rw [Nat.mod_eq_of_lt (by omega)]; exact h1 u hu
      have hW : Wr A n q := by
        refine ⟨by omega, fun i hi => ?_, fun i j hi hj e => ?_, fun i hi => ?_, ?_, fun i h hi => ?_⟩
        · rw [hqg i (by omega), hqv i (by omega)]
          exact ⟨rfl, (h2 _ (Nat.le_of_lt (hlt i))).1⟩
        · rw [hqv i (by omega), hqv j (by omega)] at e
          have e2 := hinj _ _ (hlt i) (hlt j) e
          have hi2 : i < m := by omega
          have hj2 : j < m := by omega
          have c1 : (s + i) % m = if s + i < m then s + i else s + i - m := by
            split
            · exact Nat.mod_eq_of_lt (by assumption)
            · rw [Nat.mod_eq_sub_mod (by omega), Nat.mod_eq_of_lt (by omega)]
          have c2 : (s + j) % m = if s + j < m then s + j else s + j - m := by
            split
            · exact Nat.mod_eq_of_lt (by assumption)
            · rw [Nat.mod_eq_sub_mod (by omega), Nat.mod_eq_of_lt (by omega)]
          rw [c1, c2] at e2
          split at e2 <;> split at e2 <;> omega
        · rw [hqv (i + 1) (by omega), hqv i (by omega)]
          have := harc _ (hlt i)
          rw [Nat.mod_add_mod, Nat.add_assoc] at this
          exact this
        · rw [hqv 0 (by omega), hqv (q.length - 1) (by omega), hql]
          have := harc _ (hlt (m - 1))
          rw [Nat.mod_add_mod, show s + (m - 1) + 1 = s + m by omega, Nat.add_mod_right] at this
          exact this
        · rw [hqv 0 (by omega), hqv i (by omega), Nat.add_zero, Nat.mod_eq_of_lt hs]
          have h3 := hmin _ (hlt i)
          rcases Nat.lt_or_eq_of_le h3 with h4 | h4
          · exact h4
          · exfalso
            have e2 := hinj _ _ hs (hlt i) h4
            have hi2 : i < m := by omega
            have c1 : (s + i) % m = if s + i < m then s + i else s + i - m := by
              split
              · exact Nat.mod_eq_of_lt (by assumption)
              · rw [Nat.mod_eq_sub_mod (by omega), Nat.mod_eq_of_lt (by omega)]
            rw [c1] at e2
            split at e2 <;> omega
      have := H q hW (by rw [hqv 0 (by omega), Nat.add_zero, Nat.mod_eq_of_lt hs]; exact (h2 s (by omega)).2)
      rw [hql] at this
      exact this
end M
end Go.Proofs.YtmhpgnndjagogaaGreat

namespace Go.Proofs.YtmhpgnndjagogaaGreat
namespace M
theorem walk_join {P : Nat → Nat → Prop} {x y : Nat → Nat} {s t : Nat} (e : x s = y 0) (hx : ∀ u, u < s → P (x u) (x (u + 1))) (hy : ∀ u, u < t → P (y u) (y (u + 1))) :
    ∃ z : Nat → Nat, z 0 = x 0 ∧ z (s + t) = y t ∧ (∀ u, u < s + t → P (z u) (z (u + 1))) ∧ ∀ Q : Nat → Prop, (∀ u, u ≤ s → Q (x u)) → (∀ u, u ≤ t → Q (y u)) → ∀ u, u ≤ s + t → Q (z u) := by
  have q : ∀ u, (if s + u ≤ s then x (s + u) else y (s + u - s)) = y u := fun u => by
    split
    · obtain rfl : u = 0 := by omega
      rw [Nat.add_zero, e]
    · rw [show s + u - s = u by omega]
  refine ⟨fun u => if u ≤ s then x u else y (u - s), by simp, q t, fun u hu => ?_, fun Q h1 h2 u hu => ?_⟩
  · show P (if u ≤ s then x u else y (u - s)) (if u + 1 ≤ s then x (u + 1) else y (u + 1 - s))
    by_cases h : u + 1 ≤ s
    · rw [if_pos h, if_pos (by omega)]; exact hx u (by omega)
    · rw [if_neg h]
      by_cases h2 : u ≤ s
      · rw [if_pos h2]
        obtain rfl : u = s := by omega
        rw [e, show u + 1 - u = 0 + 1 by omega]
        exact hy 0 (by omega)
      · rw [if_neg h2, show u + 1 - s = u - s + 1 by omega]
        exact hy (u - s) (by omega)
  · show Q (if u ≤ s then x u else y (u - s))
    split
    · exact h1 u (by assumption)
    · exact h2 (u - s) (by omega)
theorem crM_iff {R : List (List Int)} (_ : sqB R = true) (_ : hasCyc (ent R) R.length = true) {i j : Nat} (hi : i < R.length) (hj : j < R.length) : ent (crM R) i j ≠ -1000000000000000 ↔ crB R j i = true := by
  unfold crM
  rw [ent_mk _ _ _ _ _ hi hj]
  unfold crF
  by_cases h : crB R j i = true
  · rw [if_pos h]
    refine ⟨fun _ => h, fun _ e => ?_⟩
    have hn := (times0 (of_decide_eq_true h)).1
    refine hn ?_
    unfold crS shf
    rw [e]
    simp
  · rw [if_neg h]
    exact ⟨fun e => absurd rfl e, fun e => absurd e h⟩
section
variable {R : List (List Int)} (h1 : sqB R = true) (h2 : hasCyc (ent R) R.length = true)
include h1 h2
/-- From the end of a critical arc there is a way back to its beginning. -/
theorem crit_back {i j : Nat} (hi : i < R.length) (hj : j < R.length) (h : crB R j i = true) : Rch (ent (crM R)) R.length i j := by
  obtain ⟨n1, n2, -⟩ := sq_sm h1
  obtain ⟨-, hS, hp⟩ := cr_t h1 h2
  have hd := o_diag n2 hS hp
  have hc := (crB_o h1 h2 hi hj).1 h
  rcases obm_att (f := fun i j => o (crS R i j)) (n := R.length) R.length j i hj hi with z | ⟨x, s, -, x0, xs, hx, z⟩
  · rw [z, omul_none] at hc; cases hc
  · -- the closed walk: from i to j by x, then the arc from j to i
    have hw : owk (fun i j => o (crS R i j)) (fun u => if u ≤ s then x u else i) (s + 1) = some 0 := by
      show omul (o (crS R (if s + 1 ≤ s then x (s + 1) else i) (if s ≤ s then x s else i))) (owk _ _ s) = some 0
      rw [if_neg (by omega), if_pos (Nat.le_refl _), xs]
      have e : owk (fun i j => o (crS R i j)) (fun u => if u ≤ s then x u else i) s = owk (fun i j => o (crS R i j)) x s := owk_congr fun u hu => by simp [hu]
      rw [e, ← z]
      exact hc
    refine ⟨s, x, x0, xs, hx, fun u hu => ?_⟩
    rw [crM_iff h1 h2 (hx _ (by omega)) (hx _ (by omega)), crB_o h1 h2 (hx _ (by omega)) (hx _ (by omega))]
    have := arc_back hd (v := fun u => if u ≤ s then x u else i) (s := s + 1) (by omega) (by show (if s + 1 ≤ s then _ else i) = if 0 ≤ s then x 0 else i; rw [if_neg (by omega), if_pos (Nat.zero_le _), x0]) (fun u _ => by
      show (if u ≤ s then x u else i) < _
      split
      · exact hx u (by assumption)
      · exact hi) (by rw [hw]; exact Int.le_refl _) (u := u) (by omega)
    simp only [show u + 1 ≤ s by omega, show u ≤ s by omega, if_true] at this
    exact this
theorem crit_symm {u v : Nat} (h : Rch (ent (crM R)) R.length u v) : Rch (ent (crM R)) R.length v u := by
  refine Rch.ind (P := fun v => Rch (ent (crM R)) R.length v u) h (fun hu => rch_self hu) fun k i hk hP hi ha => ?_
  have hkl := hk.lt.2
  exact rch_trans (crit_back h1 h2 hi hkl ((crM_iff h1 h2 hi hkl).1 ha)) hP
omit h1 h2
/-- The arcs, counted. -/
def cntF (R : List (List Int)) (i j : Nat) : Int := if crB R j i then -1 else -1000000000000000
def cntM (R : List (List Int)) : List (List Int) := mk R.length R.length (cntF R)
def st (R : List (List Int)) (v u : Nat) : Int := starF (cntF R) R.length u v
theorem cntF_o (R : List (List Int)) (i j : Nat) : o (cntF R i j) = if crB R j i then some (-1) else none := by
  unfold cntF
  split <;> rfl
theorem cnt_sm (R : List (List Int)) (i j : Nat) : Sm 1000000 (cntF R i j) := by
  unfold cntF Sm
  split <;> omega
theorem cnt_wide (R : List (List Int)) : ∀ i j, i < R.length → j < R.length → Sm 1000001000000 (cntF R i j) := fun i j _ _ => sm_wide (cnt_sm R i j)
theorem cnt_walk (R : List (List Int)) (x : Nat → Nat) : ∀ (s : Nat) (w : Int), owk (fun i j => o (cntF R i j)) x s = some w → w = -(s : Int) ∧ ∀ u, u < s → crB R (x u) (x (u + 1)) = true
  | 0, w, h => ⟨(Option.some.inj h).symm, fun u hu => absurd hu (Nat.not_lt_zero u)⟩
  | s + 1, w, h => by
    have h : omul (o (cntF R (x (s + 1)) (x s))) (owk (fun i j => o (cntF R i j)) x s) = some w := h
    rw [cntF_o] at h
    by_cases hc : crB R (x s) (x (s + 1)) = true
    · rw [if_pos hc] at h
      cases e : owk (fun i j => o (cntF R i j)) x s with
      | none => rw [e] at h; cases h
      | some z =>
        rw [e] at h
        have hz : -1 + z = w := Option.some.inj h
        obtain ⟨e1, e2⟩ := cnt_walk R x s z e
        refine ⟨by omega, fun u hu => ?_⟩
        by_cases q : u = s
        · subst q; exact hc
        · exact e2 u (by omega)
    · rw [if_neg hc] at h; cases h
theorem cnt_of (R : List (List Int)) (x : Nat → Nat) : ∀ s : Nat, (∀ u, u < s → crB R (x u) (x (u + 1)) = true) → owk (fun i j => o (cntF R i j)) x s = some (-(s : Int))
  | 0, _ => rfl
  | s + 1, h => by
    show omul (o (cntF R (x (s + 1)) (x s))) (owk (fun i j => o (cntF R i j)) x s) = _
    rw [cntF_o, if_pos (h s (by omega)), cnt_of R x s fun u hu => h u (by omega)]
    show some (-1 + -(s : Int)) = _
    congr 1; omega
theorem cnt_noPos {R : List (List Int)} (n2 : R.length ≤ 10) : noPos (cntF R) R.length = true := by
  cases e : noPos (cntF R) R.length with
  | true => rfl
  | false =>
    obtain ⟨v, s, g1, g2, g3, g4⟩ := gain_of n2 (cnt_wide R) e
    cases ew : owk (fun i j => o (cntF R i j)) v s with
    | none => rw [ew] at g4; exact absurd (ole_none _) g4
    | some w =>
      rw [ew] at g4
      have := (cnt_walk R v s w ew).1
      exact absurd (show w ≤ 0 by omega) g4
/-- A finite number of steps is that of a walk of critical arcs. -/
theorem st_walk {R : List (List Int)} (n2 : R.length ≤ 10) {v u : Nat} (hv : v < R.length) (hu : u < R.length) (h : st R v u ≠ -1000000000000000) :
    ∃ (s : Nat) (x : Nat → Nat), st R v u = -(s : Int) ∧ x 0 = v ∧ x s = u ∧ (∀ i, i ≤ s → x i < R.length) ∧ (∀ i, i < s → crB R (x i) (x (i + 1)) = true) ∧ s ≤ R.length := by
  have e1 : o (st R v u) = obm (fun i j => o (cntF R i j)) R.length R.length u v := by
    unfold st starF
    rw [← clo_star n2 (cnt_wide R) (cnt_noPos n2) hu hv, o_cbm (cnt_wide R) R.length (by omega) u v hu hv]
  rcases obm_att (f := fun i j => o (cntF R i j)) (n := R.length) R.length u v hu hv with z | ⟨x, s, hsn, x0, xs, hx, z⟩
  · rw [z] at e1; unfold o at e1; rw [if_neg h] at e1; cases e1
  · rw [z] at e1
    unfold o at e1
    rw [if_neg h] at e1
    obtain ⟨e2, e3⟩ := cnt_walk R x s _ e1.symm
    exact ⟨s, x, e2, x0, xs, hx, e3, hsn⟩
theorem st_of_rch {R : List (List Int)} (h1 : sqB R = true) (h2 : hasCyc (ent R) R.length = true) {v u : Nat} (h : Rch (ent (crM R)) R.length v u) : st R v u ≠ -1000000000000000 := by
  obtain ⟨n1, n2, -⟩ := sq_sm h1
  obtain ⟨hv, hu⟩ := h.lt
  obtain ⟨s, x, x0, xs, hx, ha⟩ := h
  have e1 : o (st R v u) = obm (fun i j => o (cntF R i j)) R.length R.length u v := by
    unfold st starF
    rw [← clo_star n2 (cnt_wide R) (cnt_noPos n2) hu hv, o_cbm (cnt_wide R) R.length (by omega) u v hu hv]
  have hw := cnt_of R x s fun u hu => (crM_iff h1 h2 (hx _ (by omega)) (hx _ (by omega))).1 (ha u hu)
  have hle := owk_star (o_diag n2 (cnt_wide R) (cnt_noPos n2)) x s hx
  rw [hw, xs, x0, ← e1] at hle
  intro e
  rw [e] at hle
  exact hle
theorem rch_of_st {R : List (List Int)} (h1 : sqB R = true) (h2 : hasCyc (ent R) R.length = true) {v u : Nat} (hv : v < R.length) (hu : u < R.length) (h : st R v u ≠ -1000000000000000) : Rch (ent (crM R)) R.length v u := by
  obtain ⟨n1, n2, -⟩ := sq_sm h1
  obtain ⟨s, x, -, x0, xs, hx, ha, -⟩ := st_walk n2 hv hu h
  exact ⟨s, x, x0, xs, hx, fun i hi => (crM_iff h1 h2 (hx _ (by omega)) (hx _ (by omega))).2 (ha i hi)⟩
end
/-- The model's period of a component. -/
def perL (R : List (List Int)) (l : List Int) : Int := l.foldl (fun g k => lenG (ent (crM R)) R.length R.length [k] g) 0
def perP (R : List (List Int)) (l : List Int) (k : Nat) : Int := (l.take k).foldl (fun g k => lenG (ent (crM R)) R.length R.length [k] g) 0
theorem perP_next {R : List (List Int)} {l : List Int} {k : Nat} (hk : k < l.length) : perP R l (k + 1) = lenG (ent (crM R)) R.length R.length [l.getD k 0] (perP R l k) := by
  unfold perP; rw [take_snoc _ _ hk, List.foldl_append]; rfl
theorem lenG_nonneg {A : Nat → Nat → Int} {n : Nat} : ∀ (f : Nat) (p : List Int) (g : Int), 0 ≤ g → 0 ≤ lenG A n f p g
  | 0, _, _, h => h
  | f + 1, p, g, h => by
    rw [lenG_eq]
    have : ∀ k, 0 ≤ lenV A n f p g k := by
      intro k
      induction k with
      | zero =>
        rw [lenV_zero]
        split
        · unfold gI; omega
        · exact h
      | succ k ih =>
        rw [lenV_next, stepL]
        split
        · exact lenG_nonneg f _ _ ih
        · exact ih
    exact this n
theorem perF_nonneg (R : List (List Int)) : ∀ (l : List Int) (g : Int), 0 ≤ g → 0 ≤ l.foldl (fun g k => lenG (ent (crM R)) R.length R.length [k] g) g
  | [], _, h => h
  | k :: l, g, h => perF_nonneg R l _ (lenG_nonneg _ _ _ h)
theorem perL_nonneg (R : List (List Int)) (l : List Int) : 0 ≤ perL R l := perF_nonneg R l 0 (Int.le_refl 0)
theorem wr_len {A : Nat → Nat → Int} {n : Nat} {q : List Int} (hq : Wr A n q) : q.length ≤ n := by
  refine diffB_len (n := n) ?_ ?_
  · unfold nodesB
    refine List.all_eq_true.2 fun x hx => ?_
    obtain ⟨i, hi, e⟩ := List.mem_iff_getElem.1 hx
    have hg := hq.2.1 i hi
    have e2 : q.getD i 0 = x := by rw [← e]; simp [hi]
    rw [e2] at hg
    rw [hg.1]
    unfold inN
    simp [hg.2]
  · unfold diffB
    refine List.all_eq_true.2 fun i hi => ?_
    have hi := List.mem_range.1 hi
    have := hasB_take hq hi
    rw [(hq.2.1 i hi).1, this]; rfl
/-- What divides the model's period: what divides the lengths of all cycles in the component. -/
theorem perL_iff {R : List (List Int)} (n1 : 1 ≤ R.length) {v : Nat} {d : Int} :
    d ∣ perL R (compL (ent (crM R)) R.length v) ↔ ∀ q, Wr (ent (crM R)) R.length q → relB (ent (crM R)) R.length v (vx q 0) = true → d ∣ (q.length : Int) := by
  obtain ⟨f, hf⟩ : ∃ f, R.length = f + 1 := ⟨R.length - 1, by omega⟩
  have hmono : ∀ (l : List Int) (g : Int), d ∣ l.foldl (fun g k => lenG (ent (crM R)) R.length R.length [k] g) g → d ∣ g := fun l g h => foldl_dvd _ (fun g k hk => lenG_mono _ _ _ hk) l g h
  constructor
  · intro h q hq hc
    have hmem : ((vx q 0 : Nat) : Int) ∈ compL (ent (crM R)) R.length v := mem_compP.2 ⟨vx q 0, (hq.2.1 0 (by have := hq.1; omega)).2, hc, rfl⟩
    have q1 := hq.1
    have hlen := wr_len hq
    have key : ∀ (l : List Int) (g : Int), ((vx q 0 : Nat) : Int) ∈ l → d ∣ l.foldl (fun g k => lenG (ent (crM R)) R.length R.length [k] g) g → d ∣ (q.length : Int) := by
      intro l
      induction l with
      | nil => intro g hm; exact absurd hm (by simp)
      | cons k l ih =>
        intro g hm hd
        rcases List.mem_cons.1 hm with e | hm
        · have hd2 : d ∣ lenG (ent (crM R)) R.length R.length [k] g := hmono l _ hd
          rw [← e] at hd2
          have e3 : [((vx q 0 : Nat) : Int)] = q.take 1 := by
            have := take_snoc q 0 (by omega)
            rw [this, (hq.2.1 0 (by omega)).1]; rfl
          rw [e3] at hd2
          have hd3 : d ∣ lenG (ent (crM R)) R.length (f + 1) (q.take 1) g := by rw [← hf]; exact hd2
          exact wr_dvd hq f 1 _ (Nat.le_refl _) (by omega) (by omega) hd3
        · exact ih _ hm hd
    exact key _ _ hmem h
  · intro H
    have hfold : ∀ (l : List Int) (g : Int), (∀ x, x ∈ l → ∃ w : Nat, w < R.length ∧ relB (ent (crM R)) R.length v w = true ∧ x = w) → d ∣ g → d ∣ l.foldl (fun g k => lenG (ent (crM R)) R.length R.length [k] g) g := by
      intro l
      induction l with
      | nil => intro g _ hg; exact hg
      | cons k l ih =>
        intro g hl hg
        refine ih _ (fun x hx => hl x (List.mem_cons_of_mem _ hx)) ?_
        obtain ⟨w, hw, hr, rfl⟩ := hl k List.mem_cons_self
        refine lenG_sub (fun q hq e => H q hq ?_) _ _ _ hg ⟨by simp, fun i hi => ?_, fun i j hi hj _ => ?_, fun i hi => ?_, fun i h1 hi => ?_⟩ rfl
        · rw [e]; show relB _ _ v (vx [(w : Int)] 0) = true; unfold vx; simpa using hr
        · obtain rfl : i = 0 := by simp at hi; omega
          unfold vx; simp; exact hw
        · simp at hi hj; omega
        · simp at hi
        · simp at hi; omega
    exact hfold _ 0 (fun x hx => mem_compP.1 hx) (Int.dvd_zero _)
/-- What the program's period is made of: the steps along each arc. -/
def ArcP (R : List (List Int)) (v : Nat) (d : Int) : Prop := ∀ u w, u < R.length → w < R.length → crB R u w = true → st R v u ≠ -1000000000000000 → d ∣ st R v u - 1 - st R v w
section
variable {R : List (List Int)} (h1 : sqB R = true) (h2 : hasCyc (ent R) R.length = true)
include h1 h2
theorem closed_v {v : Nat} {d : Int} (H : ∀ q, Wr (ent (crM R)) R.length q → relB (ent (crM R)) R.length v (vx q 0) = true → d ∣ (q.length : Int)) {m : Nat} {f : Nat → Nat} (h0 : f 0 = v) (hm : f m = v)
    (ha : ∀ i, i < m → ent (crM R) (f (i + 1)) (f i) ≠ -1000000000000000) (hl : ∀ i, i ≤ m → f i < R.length) : d ∣ (m : Int) := by
  refine closed_dvd (A := ent (crM R)) (n := R.length) (C := fun x => relB (ent (crM R)) R.length v x = true) H m f (by rw [h0, hm]) ha fun i hi => ⟨hl i hi, ?_⟩
  have hr : Rch (ent (crM R)) R.length v (f i) := ⟨i, f, h0, rfl, fun u hu => hl u (by omega), fun u hu => ha u (by omega)⟩
  exact relB_t.2 ⟨hr, crit_symm h1 h2 hr⟩
theorem arcP_iff {v : Nat} (hv : v < R.length) {d : Int} : ArcP R v d ↔ ∀ q, Wr (ent (crM R)) R.length q → relB (ent (crM R)) R.length v (vx q 0) = true → d ∣ (q.length : Int) := by
  obtain ⟨n1, n2, -⟩ := sq_sm h1
  constructor
  · intro H q hq hc
    obtain ⟨q1, q2, q3, q4, q5, q6⟩ := hq
    have hrc : ∀ k, k < q.length → Rch (ent (crM R)) R.length v (vx q k) := by
      intro k
      induction k with
      | zero => intro _; exact (relB_t.1 hc).1
      | succ k ih => intro hk; exact rch_step (ih (by omega)) (q2 _ hk).2 (q4 k hk)
    have hst : ∀ k, k < q.length → st R v (vx q k) ≠ -1000000000000000 := fun k hk => st_of_rch h1 h2 (hrc k hk)
    have hs : ∀ k, k < q.length → d ∣ st R v (vx q 0) - (k : Int) - st R v (vx q k) := by
      intro k
      induction k with
      | zero => intro _; rw [show st R v (vx q 0) - ((0 : Nat) : Int) - st R v (vx q 0) = 0 by omega]; exact Int.dvd_zero _
      | succ k ih =>
        intro hk
        have a := ih (by omega)
        have b := H (vx q k) (vx q (k + 1)) (q2 k (by omega)).2 (q2 _ hk).2 ((crM_iff h1 h2 (q2 _ hk).2 (q2 k (by omega)).2).1 (q4 k hk)) (hst k (by omega))
        have := Int.dvd_add a b
        rw [show st R v (vx q 0) - (k : Int) - st R v (vx q k) + (st R v (vx q k) - 1 - st R v (vx q (k + 1))) = st R v (vx q 0) - ((k + 1 : Nat) : Int) - st R v (vx q (k + 1)) by omega] at this
        exact this
    have a := hs (q.length - 1) (by omega)
    have b := H (vx q (q.length - 1)) (vx q 0) (q2 _ (by omega)).2 (q2 0 (by omega)).2 ((crM_iff h1 h2 (q2 0 (by omega)).2 (q2 _ (by omega)).2).1 q5) (hst _ (by omega))
    have := Int.dvd_add a b
    rw [show st R v (vx q 0) - ((q.length - 1 : Nat) : Int) - st R v (vx q (q.length - 1)) + (st R v (vx q (q.length - 1)) - 1 - st R v (vx q 0)) = -(q.length : Int) by omega] at this
    exact Int.dvd_neg.1 this
  · intro H u w hu hw hc hs
    obtain ⟨s, x, e1, x0, xs, xl, xa, -⟩ := st_walk n2 hv hu hs
    have hru := rch_of_st h1 h2 hv hu hs
    have harc := (crM_iff h1 h2 hw hu).2 hc
    have hrw := rch_step hru hw harc
    obtain ⟨t, y, e2, y0, yt, yl, ya, -⟩ := st_walk n2 hv hw (st_of_rch h1 h2 hrw)
    obtain ⟨r, z, z0, zr, zl, za⟩ := crit_symm h1 h2 hrw
    -- v to w by y, back by z
    have A1 : d ∣ ((t + r : Nat) : Int) := by
      obtain ⟨f, f0, fe, fa, fq⟩ := walk_join (P := fun a b => ent (crM R) b a ≠ -1000000000000000) (x := y) (y := z) (s := t) (t := r) (by rw [yt, z0]) (fun i hi => (crM_iff h1 h2 (yl _ (by omega)) (yl _ (by omega))).2 (ya i hi)) za
      exact closed_v h1 h2 H (by rw [f0, y0]) (by rw [fe, zr]) fa (fq (fun a => a < R.length) yl zl)
    -- v to u by x, the arc, back by z
    have A2 : d ∣ ((s + (1 + r) : Nat) : Int) := by
      obtain ⟨g, g0, ge, ga, gq⟩ := walk_join (P := fun a b => ent (crM R) b a ≠ -1000000000000000) (x := fun i => if i = 0 then u else w) (y := z) (s := 1) (t := r) (by simp [z0]) (fun i hi => by
        obtain rfl : i = 0 := by omega
        simpa using harc) za
      obtain ⟨f, f0, fe, fa, fq⟩ := walk_join (P := fun a b => ent (crM R) b a ≠ -1000000000000000) (x := x) (y := g) (s := s) (t := 1 + r) (by rw [xs, g0]; rfl) (fun i hi => (crM_iff h1 h2 (xl _ (by omega)) (xl _ (by omega))).2 (xa i hi)) ga
      refine closed_v h1 h2 H (by rw [f0, x0]) (by rw [fe, ge, zr]) fa (fq (fun a => a < R.length) xl (gq (fun a => a < R.length) (fun i hi => ?_) zl))
      show (if i = 0 then u else w) < R.length
      split
      · exact hu
      · exact hw
    have := Int.dvd_sub A1 A2
    rw [show ((t + r : Nat) : Int) - ((s + (1 + r) : Nat) : Int) = st R v u - 1 - st R v w by rw [e1, e2]; omega] at this
    exact this
theorem arc_bd {v u w : Nat} (hv : v < R.length) (hu : u < R.length) (hw : w < R.length) (hc : crB R u w = true) (hs : st R v u ≠ -1000000000000000) : -10 ≤ st R v u ∧ st R v u ≤ 0 ∧ -10 ≤ st R v w ∧ st R v w ≤ 0 := by
  obtain ⟨n1, n2, -⟩ := sq_sm h1
  obtain ⟨s, -, e1, -, -, -, -, l1⟩ := st_walk n2 hv hu hs
  have hrw := rch_step (rch_of_st h1 h2 hv hu hs) hw ((crM_iff h1 h2 hw hu).2 hc)
  obtain ⟨t, -, e2, -, -, -, -, l2⟩ := st_walk n2 hv hw (st_of_rch h1 h2 hrw)
  omega
/-- The program's period is the model's. -/
theorem per_eq {v : Nat} (hv : v < R.length) {x : Int} (hx : 0 ≤ x) (H : ∀ d, d ∣ x ↔ ArcP R v d) : x = perL R (compL (ent (crM R)) R.length v) := by
  obtain ⟨n1, n2, -⟩ := sq_sm h1
  have hd : ∀ d, d ∣ x ↔ d ∣ perL R (compL (ent (crM R)) R.length v) := fun d => by rw [H, arcP_iff h1 h2 hv, perL_iff n1]
  have a : x ∣ perL R (compL (ent (crM R)) R.length v) := (hd x).1 (Int.dvd_refl _)
  have b : perL R (compL (ent (crM R)) R.length v) ∣ x := (hd _).2 (Int.dvd_refl _)
  exact Int.dvd_antisymm hx (perL_nonneg _ _) a b
theorem per_pos {v : Nat} (hv : v < R.length) (hc : crN R v = true) : 1 ≤ perL R (compL (ent (crM R)) R.length v) ∧ perL R (compL (ent (crM R)) R.length v) ≤ R.length := by
  obtain ⟨n1, n2, -⟩ := sq_sm h1
  have hex : ∃ q, Wr (ent (crM R)) R.length q ∧ relB (ent (crM R)) R.length v (vx q 0) = true := by
    refine Classical.byContradiction fun hno => ?_
    unfold crN at hc
    obtain ⟨w, hw, hvw⟩ := List.any_eq_true.1 hc
    have hw := List.mem_range.1 hw
    obtain ⟨r, z, z0, zr, zl, za⟩ := crit_back h1 h2 hw hv hvw
    obtain ⟨g, g0, ge, ga, gq⟩ := walk_join (P := fun a b => ent (crM R) b a ≠ -1000000000000000) (x := fun i => if i = 0 then v else w) (y := z) (s := 1) (t := r) (by simp [z0]) (fun i hi => by
      obtain rfl : i = 0 := by omega
      simpa using (crM_iff h1 h2 hw hv).2 hvw) za
    have := closed_v h1 h2 (v := v) (d := 0) (fun q a b => absurd ⟨q, a, b⟩ hno) (by rw [g0]; rfl) (by rw [ge, zr]) ga (gq (fun a => a < R.length) (fun i hi => by
      show (if i = 0 then v else w) < R.length
      split
      · exact hv
      · exact hw) zl)
    have := Int.zero_dvd.1 this
    omega
  obtain ⟨q, hq, hr⟩ := hex
  have hdv := (perL_iff (R := R) n1 (v := v) (d := perL R (compL (ent (crM R)) R.length v))).1 (Int.dvd_refl _) q hq hr
  have hnn := perL_nonneg R (compL (ent (crM R)) R.length v)
  have q1 := hq.1
  have hle := Int.le_of_dvd (by omega) hdv
  have hlen := wr_len hq
  refine ⟨?_, by omega⟩
  rcases Int.lt_or_eq_of_le hnn with h | h
  · omega
  · rw [← h] at hdv
    have := Int.zero_dvd.1 hdv
    omega
end
end M
end Go.Proofs.YtmhpgnndjagogaaGreat

namespace Go.Proofs.YtmhpgnndjagogaaGreat
namespace M
def cycP (R : List (List Int)) (k : Nat) : Int := ((crComps R).take k).foldl (fun c l => c.tdiv (gI c (perL R l)) * perL R l) 1
def perRes (R : List (List Int)) (x : Int) : Int × Int := if crCode R = 0 then (if inN R.length x then (if crN R x.toNat then (perL R (compL (ent (crM R)) R.length x.toNat), 0) else (0, 5)) else (0, 2)) else (0, crCode R)
def cycloRes (R : List (List Int)) : Int × Int := if crCode R = 0 then (cycP R (crComps R).length, 0) else (0, crCode R)
theorem cycP_zero (R : List (List Int)) : cycP R 0 = 1 := rfl
theorem cycP_next {R : List (List Int)} {k : Nat} (hk : k < (crComps R).length) : cycP R (k + 1) = (cycP R k).tdiv (gI (cycP R k) (perL R ((crComps R).getD k []))) * perL R ((crComps R).getD k []) := by
  unfold cycP
  rw [List.take_succ_eq_append_getElem hk, List.foldl_append]
  simp [hk]
theorem gI_pos {a b : Int} (h : 1 ≤ a) : 1 ≤ gI a b := by
  have : 0 < Int.gcd a b := Int.gcd_pos_of_ne_zero_left b (by omega)
  unfold gI; omega
theorem gI_le {a b : Int} (h : 1 ≤ b) : gI a b ≤ b := by
  have := Int.le_of_dvd (a := gI a b) (b := b) (by omega) (Int.gcd_dvd_right a b)
  exact this
/-- Both ways of reckoning the least common multiple. -/
theorem lcm_two {c p : Int} (hc : 1 ≤ c) (hp : 1 ≤ p) : c * p.tdiv (gI c p) = c.tdiv (gI c p) * p ∧ 1 ≤ c.tdiv (gI c p) * p ∧ c.tdiv (gI c p) * p ≤ c * p ∧ 1 ≤ p.tdiv (gI c p) ∧ p.tdiv (gI c p) ≤ p ∧ 1 ≤ c.tdiv (gI c p) ∧ c.tdiv (gI c p) ≤ c := by
  have hg := gI_pos (b := p) hc
  obtain ⟨a, ha⟩ : gI c p ∣ c := Int.gcd_dvd_left c p
  obtain ⟨b, hb⟩ : gI c p ∣ p := Int.gcd_dvd_right c p
  have e1 : c.tdiv (gI c p) = a := by
    have : (gI c p * a).tdiv (gI c p) = a := Int.mul_tdiv_cancel_left _ (by omega)
    rw [← ha] at this; exact this
  have e2 : p.tdiv (gI c p) = b := by
    have : (gI c p * b).tdiv (gI c p) = b := Int.mul_tdiv_cancel_left _ (by omega)
    rw [← hb] at this; exact this
  generalize gI c p = g at *
  have a1 : 1 ≤ a := by
    rcases Int.lt_or_le 0 a with h | h
    · omega
    · have := Int.mul_nonpos_of_nonneg_of_nonpos (show (0 : Int) ≤ g by omega) h
      omega
  have b1 : 1 ≤ b := by
    rcases Int.lt_or_le 0 b with h | h
    · omega
    · have := Int.mul_nonpos_of_nonneg_of_nonpos (show (0 : Int) ≤ g by omega) h
      omega
  have hac : a ≤ c := by
    have := Int.mul_le_mul_of_nonneg_right (show (1 : Int) ≤ g by omega) (show (0 : Int) ≤ a by omega)
    omega
  have hbp : b ≤ p := by
    have := Int.mul_le_mul_of_nonneg_right (show (1 : Int) ≤ g by omega) (show (0 : Int) ≤ b by omega)
    omega
  rw [e1, e2]
  refine ⟨?_, ?_, ?_, b1, hbp, a1, hac⟩
  · rw [ha, hb]; ac_rfl
  · have := Int.mul_le_mul_of_nonneg_right a1 (show (0 : Int) ≤ p by omega)
    omega
  · exact Int.mul_le_mul_of_nonneg_right hac (by omega)
section
variable {R : List (List Int)} (h1 : sqB R = true) (h2 : hasCyc (ent R) R.length = true)
include h1 h2
omit h1 h2 in
theorem comp_at {k : Nat} (hk : k < (crComps R).length) : ∃ v, v < R.length ∧ crN R v = true ∧ (crComps R).getD k [] = compL (ent (crM R)) R.length v ∧ ((crComps R).getD k []).getD 0 0 = (v : Int) ∧ 1 ≤ ((crComps R).getD k []).length := by
  have hm : (crComps R).getD k [] ∈ crComps R := by rw [List.getD_eq_getElem?_getD, List.getElem?_eq_getElem hk]; exact List.getElem_mem hk
  generalize (crComps R).getD k [] = l at *
  obtain ⟨hm1, hm2⟩ := List.mem_filter.1 hm
  obtain ⟨v, hv, hr, rfl⟩ := mem_compsP.1 hm1
  have e : vx (compL (ent (crM R)) R.length v) 0 = v := hr
  rw [e] at hm2
  exact ⟨v, hv, hm2, rfl, by rw [(rep_t hv).2.2, hr], compL_pos hv⟩
theorem comp_per {k : Nat} (hk : k < (crComps R).length) : 1 ≤ perL R ((crComps R).getD k []) ∧ perL R ((crComps R).getD k []) ≤ R.length := by
  obtain ⟨v, hv, hc, e, -⟩ := comp_at hk
  rw [e]
  exact per_pos h1 h2 hv hc
theorem cycP_bd : ∀ k, k ≤ (crComps R).length → 1 ≤ cycP R k ∧ cycP R k ≤ (10 : Int) ^ k := by
  obtain ⟨n1, n2, -⟩ := sq_sm h1
  intro k
  induction k with
  | zero => intro _; rw [cycP_zero]; exact ⟨Int.le_refl _, by simp⟩
  | succ k ih =>
    intro hk
    obtain ⟨i1, i2⟩ := ih (by omega)
    obtain ⟨p1, p2⟩ := comp_per h1 h2 (k := k) (by omega)
    obtain ⟨-, q1, q2, -⟩ := lcm_two i1 p1
    rw [cycP_next (by omega)]
    refine ⟨q1, Int.le_trans q2 ?_⟩
    have a := Int.mul_le_mul i2 (show perL R ((crComps R).getD k []) ≤ 10 by omega) (by omega) (by omega)
    rw [show (10 : Int) ^ (k + 1) = 10 ^ k * 10 from Int.pow_succ _ _]
    exact a
theorem cycP_big {k : Nat} (hk : k ≤ (crComps R).length) (h10 : (crComps R).length ≤ 10) : 1 ≤ cycP R k ∧ cycP R k ≤ 10000000000 := by
  obtain ⟨a, b⟩ := cycP_bd h1 h2 k hk
  refine ⟨a, Int.le_trans b ?_⟩
  have : ∀ k : Nat, k ≤ 10 → (10 : Int) ^ k ≤ 10000000000 := by decide
  exact this k (by omega)
end
end M
end Go.Proofs.YtmhpgnndjagogaaGreat

namespace Go.Proofs.YtmhpgnndjagogaaGreat
namespace M
theorem comp_has {R : List (List Int)} {k v : Nat} (hk : k < (crComps R).length) (hv : v < R.length) (h : hasB ((crComps R).getD k []) (v : Int) = true) : (crComps R).getD k [] = compL (ent (crM R)) R.length v ∧ crN R v = true := by
  obtain ⟨u, hu, hc, e, -, -⟩ := comp_at hk
  rw [e] at h ⊢
  unfold hasB at h
  rw [List.contains_iff_mem] at h
  obtain ⟨w, hw, hr, ew⟩ := mem_compP.1 h
  obtain rfl : w = v := by omega
  exact ⟨compL_eq hr, crN_rch rfl (relB_t.1 hr).2 hc⟩
theorem comp_no {R : List (List Int)} {v : Nat} (hv : v < R.length) (h : ∀ k, k < (crComps R).length → hasB ((crComps R).getD k []) (v : Int) = false) : crN R v = false := by
  cases hcn : crN R v with
  | false => rfl
  | true =>
    obtain ⟨r1, r2, r3⟩ := rep_t (A := ent (crM R)) hv
    have hrn := crN_rch rfl (relB_t.1 r2).2 hcn
    have he := compL_eq r2
    have hrr : repN (ent (crM R)) R.length (repN (ent (crM R)) R.length v) = repN (ent (crM R)) R.length v := by
      show ((compL (ent (crM R)) R.length (repN (ent (crM R)) R.length v)).getD 0 0).toNat = _
      rw [← he]; rfl
    have hm : compL (ent (crM R)) R.length (repN (ent (crM R)) R.length v) ∈ crComps R := by
      refine List.mem_filter.2 ⟨mem_compsP.2 ⟨_, r1, hrr, rfl⟩, ?_⟩
      have : vx (compL (ent (crM R)) R.length (repN (ent (crM R)) R.length v)) 0 = repN (ent (crM R)) R.length v := hrr
      rw [this]
      exact hrn
    obtain ⟨k, hk, e⟩ := List.mem_iff_getElem.1 hm
    have := h k hk
    rw [List.getD_eq_getElem?_getD, List.getElem?_eq_getElem hk, Option.getD_some, e, ← he] at this
    unfold hasB at this
    have hin : ((v : Nat) : Int) ∈ compL (ent (crM R)) R.length v := mem_compP.2 ⟨v, hv, relB_self hv, rfl⟩
    rw [List.contains_iff_mem.2 hin] at this
    cases this
end M
namespace V
set_option maxRecDepth 100000
open Go.RowKit
theorem own_lit1b (w : World) (B : Nat) (x : Int) (hB : B ≤ w.heap.size) : Own (w.alloc (.cells #[.int .i64 x] 2)) B (.slice (some ⟨w.heap.size, 0, none⟩) 1 1) [x] := World.ownsRow_lit w #[.int .i64 x] 1 hB (by decide) rfl
theorem lenV_step {A : Nat → Nat → Int} {n f k : Nat} {p : List Int} {g : Int} (h : M.vx p 0 < k) (ha : A k (M.lastV p) ≠ -1000000000000000) (hb : M.hasB p (k : Int) = false) : M.lenV A n f p g (k + 1) = M.lenG A n f (p ++ [(k : Int)]) (M.lenV A n f p g k) := by
  rw [M.lenV_next, M.stepL, if_pos ⟨h, ha, hb⟩]
theorem lenV_skip {A : Nat → Nat → Int} {n f k : Nat} {p : List Int} {g : Int} (h : A k (M.lastV p) = -1000000000000000 ∨ M.hasB p (k : Int) = true) : M.lenV A n f p g (k + 1) = M.lenV A n f p g k := by
  rw [M.lenV_next, M.stepL, if_neg]
  rintro ⟨-, h2, h3⟩
  rcases h with h | h
  · exact h2 h
  · rw [h] at h3; cases h3
theorem gI_bd {g : Int} {m : Nat} (h0 : 0 ≤ g) (h1 : 1 ≤ m) (h2 : m ≤ 10) : 0 ≤ M.gI g m ∧ M.gI g m ≤ 10 := by
  have := M.gI_le (a := g) (b := (m : Int)) (by omega)
  refine ⟨?_, by omega⟩
  unfold M.gI; omega
set_option maxRecDepth 100000 in
set_option maxHeartbeats 4000000 in
theorem sLengths (a : Option Addr) (n cap : Nat) (R : List (List Int)) (f : Nat) : ∀ (b : Option Addr) (N c : Nat) (p : List Int) (g : Int) (B : Nat) (w : World), Sq w a n R → Own w B (.slice b N c) p → M.nodesB n p = true → M.diffB p = true → 1 ≤ N → n + 1 ≤ f + N → 0 ≤ g → g ≤ 10 → B ≤ w.heap.size →
    Calls Tryz.prog 151 #[.slice a n cap, .slice b N c, .int .i64 g] w fun e w' => e = .returned (.int .i64 (M.lenG (M.ent R) n f p g)) ∧ 0 ≤ M.lenG (M.ent R) n f p g ∧ M.lenG (M.ent R) n f p g ≤ 10 ∧ Below w.heap.size w w' := by
  induction f with
  | zero =>
    intro b N c p g B w hS hO hn hd h1 hf hg1 hg2 hB
    have := M.diffB_len hn hd
    have := hO.len
    omega
  | succ f IH =>
    intro b N c p g B w hS hO hn hd h1 hf hg1 hg2 hB
    obtain ⟨N, rfl⟩ : ∃ m, N = m + 1 := ⟨N - 1, by omega⟩
    have HIH := Lib.hid IH
    have hpl : p.length = N + 1 := hO.len.symm
    have hle := M.diffB_len hn hd
    have hn10 := hS.2.2.2.2
    have h0 := M.nodesB_at hn (k := 0) (by omega)
    have hN := M.nodesB_at hn (k := N) (by omega)
    obtain ⟨pb, po, x0, rfl, -, hx0, c0⟩ := hO.ints'.at 0 (by omega)
    obtain ⟨pb2, po2, x1, hpe, -, hx1, c1⟩ := hO.ints'.at N (by omega)
    injection hpe with hpe
    injection hpe with e1 e2 e3
    subst e1 e2
    rw [← hx0] at h0
    rw [← hx1] at hN
    obtain ⟨i, rfl⟩ := Int.eq_ofNat_of_zero_le h0.1
    obtain ⟨j, rfl⟩ := Int.eq_ofNat_of_zero_le hN.1
    have hi : i < n := by omega
    have hj : j < n := by omega
    have hvi : M.vx p 0 = i := by unfold M.vx; rw [← hx0]; simp
    have hvj : M.lastV p = j := by unfold M.lastV M.vx; rw [hpl, Nat.add_sub_cancel, ← hx1]; simp
    obtain ⟨ab, ao, ra, rc, L, lr, rfl, -, hlr, cr, hIr⟩ := hS.1.at i hi
    have hL : L = n := by rw [← hIr.1, hlr]; exact hS.2.1.2 i hi
    subst hL
    obtain ⟨rb, ro, z, rfl, -, hz, cz⟩ := hIr.at j hj
    have hze : z = M.ent R i j := by rw [hz, hlr]; rfl
    have HS := Lib.hid hS
    have HO := Lib.hid hO
    have HNd := Lib.hid hn
    have HDf := Lib.hid hd
    have HPl := Lib.hid hpl
    have HVi := Lib.hid hvi
    have HVj := Lib.hid hvj
    have ht1 : ((N : Int) + 1 - 1) = (N : Int) := by omega
    have hNb : N + 1 ≤ 10 := by omega
    simp only [Nat.add_zero] at c0
    have HGd := Lib.hid (gI_bd (g := g) (m := N + 1) hg1 (by omega) hNb)
    have HV0 : Hid (M.lenV (M.ent R) L f p g (i + 1) = if z = -1000000000000000 then g else M.gI g ((N + 1 : Nat) : Int)) := by
      show _ = _
      rw [M.lenV_low (by omega), M.lenV_zero, hvi, hvj, ← hze, hpl]
      by_cases q : z = -1000000000000000
      · rw [if_pos q, if_neg (by omega)]
      · rw [if_neg q, if_pos q]
    have HEnd : Hid (M.lenG (M.ent R) L (f + 1) p g = M.lenV (M.ent R) L f p g L) := M.lenG_eq _ _ _ _ _
    have hi1 : IntKind.i64.wrap ((i : Int) + 1) = (i : Int) + 1 := IntWalk.i64_in _ (by omega)
    obtain ⟨F, hF⟩ : ∃ F, F = M.lenV (M.ent R) L f p g := ⟨_, rfl⟩
    have HF := Lib.hid hF
    rw [← hF] at HV0 HEnd
    clear hlr hIr hz hze hx0 hx1 h0 hN hvi hvj hn hd IH e3 hpl hS hO hF
    have HCR := Lib.hid cr
    have HCZ := Lib.hid cz
    clear cr cz
    go_enter Tryz.func151, Tryz.ntmps151
    go_wp2
    go_quiet (fail)
    generalize hwq : World.drewN w _ = wq
    have hbq : Below w.heap.size w wq := by rw [← hwq]; exact b_draws w _
    have cr := (hbq.cell (cell_lt HCR.out)).trans HCR.out
    have cz := (hbq.cell (cell_lt HCZ.out)).trans HCZ.out
    have HBq := Lib.hid hbq
    clear hwq c0 c1 hbq
    by_cases hzb : z = -1000000000000000
    · subst hzb
      have HQ : Hid (F (i + 1) = g) := by show _ = _; rw [HV0.out, if_pos rfl]
      clear HV0
      have HG0 : Hid (0 ≤ g ∧ g ≤ 10) := ⟨hg1, hg2⟩
      go_wp2
      go_loopw [2, 9] (fun gv v wr => ∃ (k : Nat) (q : Int), i + 1 ≤ k ∧ k ≤ L ∧ v = .int .i64 k ∧ gv = .int .i64 q ∧ Hid (F k = q) ∧ 0 ≤ q ∧ q ≤ 10 ∧ Below w.heap.size w wr) (fun _ v _ => L - (intOf v).toNat)
      case atStart => exact ⟨i + 1, _, by omega, by omega, by go_num, rfl, HQ, HG0.out.1, HG0.out.2, HBq.out⟩
      case round =>
        obtain ⟨k, q, hk1, hk2, rfl, rfl, HK, q1, q2, hb⟩ := hrel
        have HB1 := Lib.hid hb
        have hz1 : w.heap.size ≤ wr.heap.size := hb.size
        clear hb HQ HG0
        by_cases hk : k < L
        · have hki : (k : Int) < (L : Int) := by omega
          obtain ⟨ab', ao', ra', rc', L', lr, e', -, hlr, ck, hIr⟩ := (HS.out.below HB1.out).1.at k hk
          injection e' with e'
          injection e' with e1 e2 e3
          subst e1 e2
          have hL' : L' = L := by rw [← hIr.1, hlr]; exact HS.out.2.1.2 k hk
          subst hL'
          obtain ⟨rb', ro', y, rfl, -, hy, cy⟩ := hIr.at j hj
          have hye : y = M.ent R k j := by rw [hy, hlr]; rfl
          have HYe := Lib.hid hye
          clear hlr hIr hy hye e3
          by_cases hyb : y = -1000000000000000
          · have HKn : Hid (F (k + 1) = q) := by show _ = _; rw [← HK.out, HF.out]; exact lenV_skip (.inl (by rw [HVj.out, ← HYe.out]; exact hyb))
            subst hyb
            go_wp2
            go_roundw
            case rel => exact ⟨k + 1, q, by omega, by omega, by go_num, rfl, HKn, q1, q2, HB1.out⟩
            case measure => simp [intOf]; omega
          · have gy : (y != -1000000000000000) = true := by simpa using hyb
            have HIr := Lib.hid (HO.out.below HB1.out).ints'
            obtain ⟨hb0, hhb⟩ : ∃ hb0, hb0 = M.hasB p (k : Int) := ⟨_, rfl⟩
            have HHb := Lib.hid hhb
            clear hhb
            cases hb0 with
            | true =>
              have HKn : Hid (F (k + 1) = q) := by show _ = _; rw [← HK.out, HF.out]; exact lenV_skip (.inr HHb.out.symm)
              go_wp2_with (go_at_call 92; refine (sHas _ _ _ p _ _ (by exact HIr.out)).mono ?_; rintro e w' ⟨rfl, rfl⟩; rw [← HHb.out])
              go_roundw
              case rel => exact ⟨k + 1, q, by omega, by omega, by go_num, rfl, HKn, q1, q2, HB1.out⟩
              case measure => simp [intOf]; omega
            | false =>
              obtain ⟨t, ht⟩ : ∃ t, t = M.lenG (M.ent R) L' f (p ++ [(k : Int)]) q := ⟨_, rfl⟩
              have HTt := Lib.hid ht
              have HKn : Hid (F (k + 1) = t) := by
                show _ = _
                have h1 := HK.out
                rw [HF.out] at h1 ⊢
                rw [lenV_step (by rw [HVi.out]; omega) (by rw [HVj.out, ← HYe.out]; exact hyb) HHb.out.symm, h1]
                exact ht.symm
              have HN2 := Lib.hid (M.nodesB_snoc HNd.out hk)
              have HD2 := Lib.hid (M.diffB_snoc HDf.out HHb.out.symm)
              clear ht
              go_wp2_with (first | (go_at_call 92; refine (sHas _ _ _ p _ _ (by exact HIr.out)).mono ?_; rintro e w' ⟨rfl, rfl⟩; rw [← HHb.out]) | (go_at_call 100; refine (sOwn _ _ _ p _ HIr.out (by omega) (by omega)).mono ?_; rintro e w1 ⟨b1, c1, rfl, ho, hb⟩; have HO1 := Lib.hid ho; have HBo := Lib.hid hb; clear ho hb) | (at_builtin; refine append1 _ rfl (.tmp 55) (.tmp 57) rfl wr.heap.size _ p (k : Int) (N + 1) HPl.out rfl HO1.out rfl (by have := HPl.out; omega) HBo.out.size ?_))
              intro b2 c2 w2 ho2 hb2 _
              have HO2 := Lib.hid ho2
              have HB2 := Lib.hid (HBo.out.trans hb2)
              have hz2 : wr.heap.size ≤ w2.heap.size := HB2.out.size
              have HB3 := Lib.hid (HB1.out.trans (HB2.out.mono hz1))
              clear ho2 hb2
              go_wp2_with fail
              refine (HIH.out _ (N + 1 + 1) _ _ q wr.heap.size _ (HS.out.below HB3.out) HO2.out HN2.out HD2.out (by omega) (by omega) q1 q2 hz2).mono ?_
              rintro e w3 ⟨rfl, t1, t2, hb⟩
              rw [← HTt.out] at t1 t2 ⊢
              have HB4 := Lib.hid (HB3.out.trans (hb.mono HB3.out.size))
              clear hb
              go_wp2
              go_roundw
              case rel => exact ⟨k + 1, t, by omega, by omega, by go_num, rfl, HKn, t1, t2, HB4.out⟩
              case measure => simp [intOf]; omega
        · obtain rfl : k = L := by omega
          have HE : Hid (M.lenG (M.ent R) k (f + 1) p g = q) := HEnd.out.trans HK.out
          go_wp2
          go_ret
          rw [HE.out]
          exact ⟨rfl, q1, q2, HB1.out⟩
    · have HQ : Hid (F (i + 1) = M.gI g ((N + 1 : Nat) : Int)) := by show _ = _; rw [HV0.out, if_neg hzb]
      have g3 : (z != -1000000000000000) = true := by simpa using hzb
      clear HV0 hzb
      have HG0 := HGd
      go_wp2_with fail
      refine (sDivisor g ((N : Int) + 1) _ (by omega) (by omega) (by omega) (by omega)).mono ?_
      rintro e w' ⟨rfl, qn, rfl⟩
      go_wp2
      go_loopw [2, 9] (fun gv v wr => ∃ (k : Nat) (q : Int), i + 1 ≤ k ∧ k ≤ L ∧ v = .int .i64 k ∧ gv = .int .i64 q ∧ Hid (F k = q) ∧ 0 ≤ q ∧ q ≤ 10 ∧ Below w.heap.size w wr) (fun _ v _ => L - (intOf v).toNat)
      case atStart => exact ⟨i + 1, _, by omega, by omega, by go_num, rfl, HQ, HG0.out.1, HG0.out.2, below_drewN HBq.out _⟩
      case round =>
        obtain ⟨k, q, hk1, hk2, rfl, rfl, HK, q1, q2, hb⟩ := hrel
        have HB1 := Lib.hid hb
        have hz1 : w.heap.size ≤ wr.heap.size := hb.size
        clear hb HQ HG0
        by_cases hk : k < L
        · have hki : (k : Int) < (L : Int) := by omega
          obtain ⟨ab', ao', ra', rc', L', lr, e', -, hlr, ck, hIr⟩ := (HS.out.below HB1.out).1.at k hk
          injection e' with e'
          injection e' with e1 e2 e3
          subst e1 e2
          have hL' : L' = L := by rw [← hIr.1, hlr]; exact HS.out.2.1.2 k hk
          subst hL'
          obtain ⟨rb', ro', y, rfl, -, hy, cy⟩ := hIr.at j hj
          have hye : y = M.ent R k j := by rw [hy, hlr]; rfl
          have HYe := Lib.hid hye
          clear hlr hIr hy hye e3
          by_cases hyb : y = -1000000000000000
          · have HKn : Hid (F (k + 1) = q) := by show _ = _; rw [← HK.out, HF.out]; exact lenV_skip (.inl (by rw [HVj.out, ← HYe.out]; exact hyb))
            subst hyb
            go_wp2
            go_roundw
            case rel => exact ⟨k + 1, q, by omega, by omega, by go_num, rfl, HKn, q1, q2, HB1.out⟩
            case measure => simp [intOf]; omega
          · have gy : (y != -1000000000000000) = true := by simpa using hyb
            have HIr := Lib.hid (HO.out.below HB1.out).ints'
            obtain ⟨hb0, hhb⟩ : ∃ hb0, hb0 = M.hasB p (k : Int) := ⟨_, rfl⟩
            have HHb := Lib.hid hhb
            clear hhb
            cases hb0 with
            | true =>
              have HKn : Hid (F (k + 1) = q) := by show _ = _; rw [← HK.out, HF.out]; exact lenV_skip (.inr HHb.out.symm)
              go_wp2_with (go_at_call 92; refine (sHas _ _ _ p _ _ (by exact HIr.out)).mono ?_; rintro e w' ⟨rfl, rfl⟩; rw [← HHb.out])
              go_roundw
              case rel => exact ⟨k + 1, q, by omega, by omega, by go_num, rfl, HKn, q1, q2, HB1.out⟩
              case measure => simp [intOf]; omega
            | false =>
              obtain ⟨t, ht⟩ : ∃ t, t = M.lenG (M.ent R) L' f (p ++ [(k : Int)]) q := ⟨_, rfl⟩
              have HTt := Lib.hid ht
              have HKn : Hid (F (k + 1) = t) := by
                show _ = _
                have h1 := HK.out
                rw [HF.out] at h1 ⊢
                rw [lenV_step (by rw [HVi.out]; omega) (by rw [HVj.out, ← HYe.out]; exact hyb) HHb.out.symm, h1]
                exact ht.symm
              have HN2 := Lib.hid (M.nodesB_snoc HNd.out hk)
              have HD2 := Lib.hid (M.diffB_snoc HDf.out HHb.out.symm)
              clear ht
              go_wp2_with (first | (go_at_call 92; refine (sHas _ _ _ p _ _ (by exact HIr.out)).mono ?_; rintro e w' ⟨rfl, rfl⟩; rw [← HHb.out]) | (go_at_call 100; refine (sOwn _ _ _ p _ HIr.out (by omega) (by omega)).mono ?_; rintro e w1 ⟨b1, c1, rfl, ho, hb⟩; have HO1 := Lib.hid ho; have HBo := Lib.hid hb; clear ho hb) | (at_builtin; refine append1 _ rfl (.tmp 55) (.tmp 57) rfl wr.heap.size _ p (k : Int) (N + 1) HPl.out rfl HO1.out rfl (by have := HPl.out; omega) HBo.out.size ?_))
              intro b2 c2 w2 ho2 hb2 _
              have HO2 := Lib.hid ho2
              have HB2 := Lib.hid (HBo.out.trans hb2)
              have hz2 : wr.heap.size ≤ w2.heap.size := HB2.out.size
              have HB3 := Lib.hid (HB1.out.trans (HB2.out.mono hz1))
              clear ho2 hb2
              go_wp2_with fail
              refine (HIH.out _ (N + 1 + 1) _ _ q wr.heap.size _ (HS.out.below HB3.out) HO2.out HN2.out HD2.out (by omega) (by omega) q1 q2 hz2).mono ?_
              rintro e w3 ⟨rfl, t1, t2, hb⟩
              rw [← HTt.out] at t1 t2 ⊢
              have HB4 := Lib.hid (HB3.out.trans (hb.mono HB3.out.size))
              clear hb
              go_wp2
              go_roundw
              case rel => exact ⟨k + 1, t, by omega, by omega, by go_num, rfl, HKn, t1, t2, HB4.out⟩
              case measure => simp [intOf]; omega
        · obtain rfl : k = L := by omega
          have HE : Hid (M.lenG (M.ent R) k (f + 1) p g = q) := HEnd.out.trans HK.out
          go_wp2
          go_ret
          rw [HE.out]
          exact ⟨rfl, q1, q2, HB1.out⟩
end V
end Go.Proofs.YtmhpgnndjagogaaGreat
