/- Texts laid together: Gcd, Per, Pes, OwnP, Pep, Len, Pdm, OpenM. -/
import Derived.Test.YtmcihaihbnnblaaGreatQz1
import Derived.Test.YtmcihaihbnnblaaGreatQz8
import Derived.Test.YtmcihaihbnnblaaGreatQz2
import Derived.Test.YtmcihaihbnnblaaGreatQz5
import Derived.Test.YtmcihaihbnnblaaGreatQz21
import Derived.Test.YtmcihaihbnnblaaGreatQz23
import Derived.Test.YtmcihaihbnnblaaGreatQz22
import Derived.Test.YtmcihaihbnnblaaGreatQz11
import Derived.Test.YtmcihaihbnnblaaGreatQz6
import Derived.Test.YtmcihaihbnnblaaGreatQz13
import Derived.Test.YtmcihaihbnnblaaGreatQz17
import Derived.Test.YtmcihaihbnnblaaGreatQz9
import Derived.Test.YtmcihaihbnnblaaGreatQz16
import Derived.Test.YtmcihaihbnnblaaGreatQz15
import Derived.Test.YtmcihaihbnnblaaGreatRows
import Derived.WalkKit
import Derived.ProofKit
import Derived.WalkSmall
import Derived.Deep.QuietTactic
import Derived.BigQuiet
import Derived.BigRegion
import Derived.Deep.Draws
import Derived.Deep.OwnRows
import Derived.Maps.AppendAt
import Derived.Deep.Onto
import Derived.Lib.Hide
import Derived.Deep.Matrix
set_option linter.unusedSimpArgs false
set_option linter.unusedVariables false
set_option linter.unusedSectionVars false
namespace Go.Proofs.YtmcihaihbnnblaaGreat
namespace M
def gI (a b : Int) : Int := ((Int.gcd a b : Nat) : Int)
theorem gI_iff {d a b : Int} : d ∣ gI a b ↔ d ∣ a ∧ d ∣ b := by
  unfold gI
  constructor
  · intro h; exact ⟨Int.dvd_trans h (Int.gcd_dvd_left _ _), Int.dvd_trans h (Int.gcd_dvd_right _ _)⟩
  · rintro ⟨h1, h2⟩; exact Int.dvd_coe_gcd h1 h2
/-- What the model's search for cycles has found behind a path. -/
def lenG (A : Nat → Nat → Int) (n : Nat) : Nat → List Int → Int → Int
  | 0, _, g => g
  | f + 1, p, g => (List.range n).foldl (fun g v => if vx p 0 < v ∧ A v (lastV p) ≠ -1000000000000000 ∧ hasB p (v : Int) = false then lenG A n f (p ++ [(v : Int)]) g else g) (if A (vx p 0) (lastV p) ≠ -1000000000000000 then gI g p.length else g)
def stepL (A : Nat → Nat → Int) (n f : Nat) (p : List Int) (g : Int) (v : Nat) : Int := if vx p 0 < v ∧ A v (lastV p) ≠ -1000000000000000 ∧ hasB p (v : Int) = false then lenG A n f (p ++ [(v : Int)]) g else g
def lenV (A : Nat → Nat → Int) (n f : Nat) (p : List Int) (g : Int) (k : Nat) : Int := (List.range k).foldl (stepL A n f p) (if A (vx p 0) (lastV p) ≠ -1000000000000000 then gI g p.length else g)
theorem lenG_eq (A : Nat → Nat → Int) (n f : Nat) (p : List Int) (g : Int) : lenG A n (f + 1) p g = lenV A n f p g n := rfl
theorem lenV_next (A : Nat → Nat → Int) (n f : Nat) (p : List Int) (g : Int) (k : Nat) : lenV A n f p g (k + 1) = stepL A n f p (lenV A n f p g k) k := by
  unfold lenV; rw [List.range_succ, List.foldl_append]; rfl
theorem lenV_zero (A : Nat → Nat → Int) (n f : Nat) (p : List Int) (g : Int) : lenV A n f p g 0 = if A (vx p 0) (lastV p) ≠ -1000000000000000 then gI g p.length else g := rfl
theorem lenV_low {A : Nat → Nat → Int} {n f : Nat} {p : List Int} {g : Int} : ∀ {k : Nat}, k ≤ vx p 0 + 1 → lenV A n f p g k = lenV A n f p g 0
  | 0, _ => rfl
  | k + 1, h => by
    rw [lenV_next, stepL, if_neg (by omega)]
    exact lenV_low (by omega)
theorem foldl_dvd {α : Type} {d : Int} (s : Int → α → Int) (hs : ∀ g v, d ∣ s g v → d ∣ g) : ∀ (l : List α) (g : Int), d ∣ l.foldl s g → d ∣ g
  | [], _, h => h
  | v :: l, g, h => hs g v (foldl_dvd s hs l (s g v) h)
theorem lenG_mono {A : Nat → Nat → Int} {n : Nat} {d : Int} : ∀ (f : Nat) (p : List Int) (g : Int), d ∣ lenG A n f p g → d ∣ g
  | 0, _, _, h => h
  | f + 1, p, g, h => by
    rw [lenG_eq] at h
    have h2 := foldl_dvd (stepL A n f p) (fun g v hg => by
      unfold stepL at hg
      split at hg
      · exact lenG_mono f _ _ hg
      · exact hg) _ _ h
    split at h2
    · exact (gI_iff.1 h2).1
    · exact h2
theorem lenV_mono {A : Nat → Nat → Int} {n f : Nat} {p : List Int} {g d : Int} {k : Nat} : ∀ {m : Nat}, k ≤ m → d ∣ lenV A n f p g m → d ∣ lenV A n f p g k
  | 0, hk, h => by obtain rfl : k = 0 := by omega
                   exact h
  | m + 1, hk, h => by
    by_cases e : k = m + 1
    · subst e; exact h
    · rw [lenV_next] at h
      refine lenV_mono (m := m) (by omega) ?_
      unfold stepL at h
      split at h
      · exact lenG_mono f _ _ h
      · exact h
/-- A cycle that is written: its first node is the smallest. -/
def Wr (A : Nat → Nat → Int) (n : Nat) (q : List Int) : Prop :=
  1 ≤ q.length ∧ (∀ i, i < q.length → q.getD i 0 = (vx q i : Int) ∧ vx q i < n) ∧ (∀ i j, i < q.length → j < q.length → vx q i = vx q j → i = j) ∧
  (∀ i, i + 1 < q.length → A (vx q (i + 1)) (vx q i) ≠ -1000000000000000) ∧ A (vx q 0) (vx q (q.length - 1)) ≠ -1000000000000000 ∧ ∀ i, 1 ≤ i → i < q.length → vx q 0 < vx q i
theorem vx_take {q : List Int} {t i : Nat} (h : i < t) : vx (q.take t) i = vx q i := by
  unfold vx; rw [List.getD_eq_getElem?_getD, List.getD_eq_getElem?_getD, List.getElem?_take_of_lt h]
theorem hasB_take {q : List Int} {A : Nat → Nat → Int} {n t : Nat} (h : Wr A n q) (ht : t < q.length) : hasB (q.take t) ((vx q t : Nat) : Int) = false := by
  cases e : hasB (q.take t) ((vx q t : Nat) : Int) with
  | false => rfl
  | true =>
    unfold hasB at e
    rw [List.contains_iff_mem] at e
    obtain ⟨i, hi, e2⟩ := List.mem_iff_getElem.1 e
    have hi2 : i < t := by rw [List.length_take] at hi; omega
    have e3 : q.getD i 0 = (vx q t : Int) := by
      rw [← e2]
      simp [show i < q.length by omega]
    rw [(h.2.1 i (by omega)).1] at e3
    have := h.2.2.1 i t (by omega) ht (by omega)
    omega
theorem wr_dvd {A : Nat → Nat → Int} {n : Nat} {q : List Int} {d : Int} (h : Wr A n q) : ∀ (f t : Nat) (g : Int), 1 ≤ t → t ≤ q.length → q.length ≤ f + t → d ∣ lenG A n (f + 1) (q.take t) g → d ∣ (q.length : Int) := by
  intro f
  induction f with
  | zero =>
    intro t g h1 h2 h3 hd
    obtain rfl : t = q.length := by omega
    rw [List.take_length, lenG_eq] at hd
    have := lenV_mono (Nat.zero_le _) hd
    rw [lenV_zero, if_pos (show A (vx q 0) (lastV q) ≠ _ from h.2.2.2.2.1)] at this
    exact (gI_iff.1 this).2
  | succ f ih =>
    intro t g h1 h2 h3 hd
    by_cases e : t = q.length
    · subst e
      rw [List.take_length, lenG_eq] at hd
      have := lenV_mono (Nat.zero_le _) hd
      rw [lenV_zero, if_pos (show A (vx q 0) (lastV q) ≠ _ from h.2.2.2.2.1)] at this
      exact (gI_iff.1 this).2
    · have ht : t < q.length := by omega
      have hv := h.2.1 t ht
      rw [lenG_eq] at hd
      have hd2 := lenV_mono (k := vx q t + 1) (by omega) hd
      rw [lenV_next, stepL] at hd2
      have hl : lastV (q.take t) = vx q (t - 1) := by
        unfold lastV
        rw [List.length_take, Nat.min_eq_left (by omega), vx_take (by omega)]
      rw [if_pos (by
        refine ⟨?_, ?_, hasB_take h ht⟩
        · rw [vx_take (by omega)]; exact h.2.2.2.2.2 t h1 ht
        · rw [hl]
          have := h.2.2.2.1 (t - 1) (by omega)
          rw [show t - 1 + 1 = t by omega] at this
          exact this)] at hd2
      have e2 : q.take t ++ [((vx q t : Nat) : Int)] = q.take (t + 1) := by rw [take_snoc _ _ ht, hv.1]
      rw [e2] at hd2
      exact ih (t + 1) _ (by omega) (by omega) (by omega) hd2
/-- What divides the lengths of all cycles that are written divides what the search has found. -/
theorem lenG_sub {A : Nat → Nat → Int} {n : Nat} {d : Int} {c : Nat} (H : ∀ q, Wr A n q → vx q 0 = c → d ∣ (q.length : Int)) : ∀ (f : Nat) (p : List Int) (g : Int), d ∣ g →
    (1 ≤ p.length ∧ (∀ i, i < p.length → p.getD i 0 = (vx p i : Int) ∧ vx p i < n) ∧ (∀ i j, i < p.length → j < p.length → vx p i = vx p j → i = j) ∧
      (∀ i, i + 1 < p.length → A (vx p (i + 1)) (vx p i) ≠ -1000000000000000) ∧ ∀ i, 1 ≤ i → i < p.length → vx p 0 < vx p i) → vx p 0 = c → d ∣ lenG A n f p g
  | 0, _, _, hg, _, _ => hg
  | f + 1, p, g, hg, hp, hc => by
    obtain ⟨p1, p2, p3, p4, p5⟩ := hp
    have h0 : d ∣ lenV A n f p g 0 := by
      rw [lenV_zero]
      split
      · next e => exact gI_iff.2 ⟨hg, H p ⟨p1, p2, p3, p4, e, p5⟩ hc⟩
      · exact hg
    have : ∀ k, k ≤ n → d ∣ lenV A n f p g k := by
      intro k
      induction k with
      | zero => intro _; exact h0
      | succ k ih =>
        intro hk
        rw [lenV_next, stepL]
        split
        · next e =>
          obtain ⟨e1, e2, e3⟩ := e
          have old : ∀ i, i < p.length → (p ++ [(k : Int)]).getD i 0 = p.getD i 0 := fun i hi => by
            rw [List.getD_eq_getElem?_getD, List.getElem?_append_left hi, ← List.getD_eq_getElem?_getD]
          have new : (p ++ [(k : Int)]).getD p.length 0 = (k : Int) := by simp
          have vold : ∀ i, i < p.length → vx (p ++ [(k : Int)]) i = vx p i := fun i hi => by unfold vx; rw [old i hi]
          have vnew : vx (p ++ [(k : Int)]) p.length = k := by unfold vx; rw [new]; simp
          have hne : ∀ i, i < p.length → vx p i ≠ k := fun i hi e => by
            have : hasB p (k : Int) = true := by
              unfold hasB
              rw [List.contains_iff_mem]
              have := (p2 i hi).1
              rw [e] at this
              rw [← this]
              rw [List.getD_eq_getElem?_getD, List.getElem?_eq_getElem hi]; exact List.getElem_mem hi
            rw [e3] at this; cases this
          have hlen : (p ++ [(k : Int)]).length = p.length + 1 := by simp
          refine lenG_sub H f _ _ (ih (by omega)) ⟨by omega, fun i hi => ?_, fun i j hi hj e => ?_, fun i hi => ?_, fun i h1 hi => ?_⟩ (by rw [vold 0 (by omega)]; exact hc)
          · by_cases q : i < p.length
            · rw [old i q, vold i q]; exact p2 i q
            · obtain rfl : i = p.length := by omega
              rw [new, vnew]; exact ⟨rfl, by omega⟩
          · by_cases q : i < p.length <;> by_cases r : j < p.length
            · rw [vold i q, vold j r] at e; exact p3 i j q r e
            · obtain rfl : j = p.length := by omega
              rw [vold i q, vnew] at e; exact absurd e (hne i q)
            · obtain rfl : i = p.length := by omega
              rw [vold j r, vnew] at e; exact absurd e.symm (hne j r)
            · omega
          · by_cases q : i + 1 < p.length
            · rw [vold _ q, vold i (by omega)]; exact p4 i q
            · obtain rfl : i = p.length - 1 := by omega
              rw [show p.length - 1 + 1 = p.length by omega, vnew, vold _ (by omega)]
              exact e2
          · rw [vold 0 (by omega)]
            by_cases q : i < p.length
            · rw [vold i q]; exact p5 i h1 q
            · obtain rfl : i = p.length := by omega
              rw [vnew]; exact e1
        · exact ih (by omega)
    rw [lenG_eq]
    exact this n (Nat.le_refl _)
/-- A closed walk is made of cycles: what divides their lengths divides its length. -/
theorem closed_dvd {A : Nat → Nat → Int} {n : Nat} {d : Int} {C : Nat → Prop} (H : ∀ q, Wr A n q → C (vx q 0) → d ∣ (q.length : Int)) :
    ∀ (m : Nat) (f : Nat → Nat), f m = f 0 → (∀ i, i < m → A (f (i + 1)) (f i) ≠ -1000000000000000) → (∀ i, i ≤ m → f i < n ∧ C (f i)) → d ∣ (m : Int) := by
  intro m
  induction m using Nat.strongRecOn with
  | ind m ih =>
    intro f h0 h1 h2
    by_cases hm : m = 0
    · subst hm; exact Int.dvd_zero _
    by_cases hd : ∃ i j, i < j ∧ j < m ∧ f i = f j
    · obtain ⟨i, j, hij, hj, e⟩ := hd
      have a := ih (j - i) (by omega) (fun t => f (i + t)) (by show f (i + (j - i)) = f (i + 0); rw [show i + (j - i) = j by omega, Nat.add_zero, e]) (fun t ht => by
        show A (f (i + (t + 1))) (f (i + t)) ≠ _
        rw [← Nat.add_assoc]; exact h1 (i + t) (by omega)) (fun t ht => h2 (i + t) (by omega))
      have b := ih (m - (j - i)) (by omega) (fun t => if t ≤ i then f t else f (t + (j - i))) (by
        show (if m - (j - i) ≤ i then f (m - (j - i)) else f (m - (j - i) + (j - i))) = if 0 ≤ i then f 0 else _
        rw [if_neg (by omega), if_pos (Nat.zero_le _), show m - (j - i) + (j - i) = m by omega, h0]) (fun t ht => by
        show A (if t + 1 ≤ i then f (t + 1) else f (t + 1 + (j - i))) (if t ≤ i then f t else f (t + (j - i))) ≠ _
        by_cases q : t + 1 ≤ i
        · rw [if_pos q, if_pos (by omega)]; exact h1 t (by omega)
        · rw [if_neg q]
          by_cases r : t ≤ i
          · rw [if_pos r]
            obtain rfl : t = i := by omega
            rw [e, show t + 1 + (j - t) = j + 1 by omega]
            exact h1 j hj
          · rw [if_neg r, show t + 1 + (j - i) = t + (j - i) + 1 by omega]
            exact h1 (t + (j - i)) (by omega)) (fun t ht => by
        show (if t ≤ i then f t else f (t + (j - i))) < n ∧ C (if t ≤ i then f t else f (t + (j - i)))
        split
        · exact h2 t (by omega)
        · exact h2 _ (by omega))
      have : (m : Int) = ((j - i : Nat) : Int) + ((m - (j - i) : Nat) : Int) := by omega
      rw [this]
      exact Int.dvd_add a b
    · have hinj : ∀ i j, i < m → j < m → f i = f j → i = j := fun i j hi hj e => by
        rcases Nat.lt_trichotomy i j with q | q | q
        · exact absurd ⟨i, j, q, hj, e⟩ hd
        · exact q
        · exact absurd ⟨j, i, q, hi, e.symm⟩ hd
      obtain ⟨s, hs, hmin⟩ : ∃ s, s < m ∧ ∀ i, i < m → f s ≤ f i := by
        clear ih h0 h1 h2 hd hinj
        have : ∀ k, k < m → ∃ s, s < m ∧ ∀ i, i ≤ k → f s ≤ f i := by
          intro k
          induction k with
          | zero => intro hk; exact ⟨0, hk, fun i hi => by obtain rfl : i = 0 := by omega
                                                           exact Nat.le_refl _⟩
          | succ k ih =>
            intro hk
            obtain ⟨s, hs, h⟩ := ih (by omega)
            by_cases q : f s ≤ f (k + 1)
            · exact ⟨s, hs, fun i hi => by
                by_cases r : i = k + 1
                · subst r; exact q
                · exact h i (by omega)⟩
            · exact ⟨k + 1, hk, fun i hi => by
                by_cases r : i = k + 1
                · subst r; exact Nat.le_refl _
                · have := h i (by omega); omega⟩
        obtain ⟨s, hs, h⟩ := this (m - 1) (by omega)
        exact ⟨s, hs, fun i hi => h i (by omega)⟩
      have hlt : ∀ t, (s + t) % m < m := fun t => Nat.mod_lt _ (by omega)
      let q : List Int := (List.range m).map fun t => ((f ((s + t) % m) : Nat) : Int)
      have hql : q.length = m := by simp [q]
      have hqg : ∀ t, t < m → q.getD t 0 = ((f ((s + t) % m) : Nat) : Int) := fun t ht => by simp [q, ht]
      have hqv : ∀ t, t < m → vx q t = f ((s + t) % m) := fun t ht => by unfold vx; rw [hqg t ht]; simp
      have harc : ∀ u, u < m → A (f ((u + 1) % m)) (f u) ≠ -1000000000000000 := fun u hu => by
        by_cases e : u + 1 = m
        · rw [e, Nat.mod_self, ← h0, ← e]; exact h1 u hu
        · rw [Nat.mod_eq_of_lt (by omega)]; exact h1 u hu
      have hW : Wr A n q := by
        refine ⟨by omega, fun i hi => ?_, fun i j hi hj e => ?_, fun i hi => ?_, ?_, fun i h hi => ?_⟩
        · rw [hqg i (by omega), hqv i (by omega)]
          exact ⟨rfl, (h2 _ (Nat.le_of_lt (hlt i))).1⟩
        · rw [hqv i (by omega), hqv j (by omega)] at e
          have e2 := hinj _ _ (hlt i) (hlt j) e
          have hi2 : i < m := by omega
          have hj2 : j < m := by omega
          have c1 : (s + i) % m = if s + i < m then s + i else s + i - m := by
            split
            · exact Nat.mod_eq_of_lt (by assumption)
            · rw [Nat.mod_eq_sub_mod (by omega), Nat.mod_eq_of_lt (by omega)]
          have c2 : (s + j) % m = if s + j < m then s + j else s + j - m := by
            split
            · exact Nat.mod_eq_of_lt (by assumption)
            · rw [Nat.mod_eq_sub_mod (by omega), Nat.mod_eq_of_lt (by omega)]
          rw [c1, c2] at e2
          split at e2 <;> split at e2 <;> omega
        · rw [hqv (i + 1) (by omega), hqv i (by omega)]
          have := harc _ (hlt i)
          rw [Nat.mod_add_mod, Nat.add_assoc] at this
          exact this
        · rw [hqv 0 (by omega), hqv (q.length - 1) (by omega), hql]
          have := harc _ (hlt (m - 1))
          rw [Nat.mod_add_mod, show s + (m - 1) + 1 = s + m by omega, Nat.add_mod_right] at this
          exact this
        · rw [hqv 0 (by omega), hqv i (by omega), Nat.add_zero, Nat.mod_eq_of_lt hs]
          have h3 := hmin _ (hlt i)
          rcases Nat.lt_or_eq_of_le h3 with h4 | h4
          · exact h4
          · exfalso
            have e2 := hinj _ _ hs (hlt i) h4
            have hi2 : i < m := by omega
            have c1 : (s + i) % m = if s + i < m then s + i else s + i - m := by
              split
              · exact Nat.mod_eq_of_lt (by assumption)
              · rw [Nat.mod_eq_sub_mod (by omega), Nat.mod_eq_of_lt (by omega)]
            rw [c1] at e2
            split at e2 <;> omega
      have := H q hW (by rw [hqv 0 (by omega), Nat.add_zero, Nat.mod_eq_of_lt hs]; exact (h2 s (by omega)).2)
      rw [hql] at this
      exact this
end M
end Go.Proofs.YtmcihaihbnnblaaGreat

namespace Go.Proofs.YtmcihaihbnnblaaGreat
namespace M
theorem walk_join {P : Nat → Nat → Prop} {x y : Nat → Nat} {s t : Nat} (e : x s = y 0) (hx : ∀ u, u < s → P (x u) (x (u + 1))) (hy : ∀ u, u < t → P (y u) (y (u + 1))) :
    ∃ z : Nat → Nat, z 0 = x 0 ∧ z (s + t) = y t ∧ (∀ u, u < s + t → P (z u) (z (u + 1))) ∧ ∀ Q : Nat → Prop, (∀ u, u ≤ s → Q (x u)) → (∀ u, u ≤ t → Q (y u)) → ∀ u, u ≤ s + t → Q (z u) := by
  have q : ∀ u, (if s + u ≤ s then x (s + u) else y (s + u - s)) = y u := fun u => by
    split
    · obtain rfl : u = 0 := by omega
      rw [Nat.add_zero, e]
    · rw [show s + u - s = u by omega]
  refine ⟨fun u => if u ≤ s then x u else y (u - s), by simp, q t, fun u hu => ?_, fun Q h1 h2 u hu => ?_⟩
  · show P (if u ≤ s then x u else y (u - s)) (if u + 1 ≤ s then x (u + 1) else y (u + 1 - s))
    by_cases h : u + 1 ≤ s
    · rw [if_pos h, if_pos (by omega)]; exact hx u (by omega)
    · rw [if_neg h]
      by_cases h2 : u ≤ s
      · rw [if_pos h2]
        obtain rfl : u = s := by omega
        rw [e, show u + 1 - u = 0 + 1 by omega]
        exact hy 0 (by omega)
      · rw [if_neg h2, show u + 1 - s = u - s + 1 by omega]
        exact hy (u - s) (by omega)
  · show Q (if u ≤ s then x u else y (u - s))
    split
    · exact h1 u (by assumption)
    · exact h2 (u - s) (by omega)
theorem crM_iff {R : List (List Int)} (_ : sqB R = true) (_ : hasCyc (ent R) R.length = true) {i j : Nat} (hi : i < R.length) (hj : j < R.length) : ent (crM R) i j ≠ -1000000000000000 ↔ crB R j i = true := by
  unfold crM
  rw [ent_mk _ _ _ _ _ hi hj]
  unfold crF
  by_cases h : crB R j i = true
  · rw [if_pos h]
    refine ⟨fun _ => h, fun _ e => ?_⟩
    have hn := (times0 (of_decide_eq_true h)).1
    refine hn ?_
    unfold crS shf
    rw [e]
    simp
  · rw [if_neg h]
    exact ⟨fun e => absurd rfl e, fun e => absurd e h⟩
section
variable {R : List (List Int)} (h1 : sqB R = true) (h2 : hasCyc (ent R) R.length = true)
include h1 h2
/-- From the end of a critical arc there is a way back to its beginning. -/
theorem crit_back {i j : Nat} (hi : i < R.length) (hj : j < R.length) (h : crB R j i = true) : Rch (ent (crM R)) R.length i j := by
  obtain ⟨n1, n2, -⟩ := sq_sm h1
  obtain ⟨-, hS, hp⟩ := cr_t h1 h2
  have hd := o_diag n2 hS hp
  have hc := (crB_o h1 h2 hi hj).1 h
  rcases obm_att (f := fun i j => o (crS R i j)) (n := R.length) R.length j i hj hi with z | ⟨x, s, -, x0, xs, hx, z⟩
  · rw [z, omul_none] at hc; cases hc
  · -- the closed walk: from i to j by x, then the arc from j to i
    have hw : owk (fun i j => o (crS R i j)) (fun u => if u ≤ s then x u else i) (s + 1) = some 0 := by
      show omul (o (crS R (if s + 1 ≤ s then x (s + 1) else i) (if s ≤ s then x s else i))) (owk _ _ s) = some 0
      rw [if_neg (by omega), if_pos (Nat.le_refl _), xs]
      have e : owk (fun i j => o (crS R i j)) (fun u => if u ≤ s then x u else i) s = owk (fun i j => o (crS R i j)) x s := owk_congr fun u hu => by simp [hu]
      rw [e, ← z]
      exact hc
    refine ⟨s, x, x0, xs, hx, fun u hu => ?_⟩
    rw [crM_iff h1 h2 (hx _ (by omega)) (hx _ (by omega)), crB_o h1 h2 (hx _ (by omega)) (hx _ (by omega))]
    have := arc_back hd (v := fun u => if u ≤ s then x u else i) (s := s + 1) (by omega) (by show (if s + 1 ≤ s then _ else i) = if 0 ≤ s then x 0 else i; rw [if_neg (by omega), if_pos (Nat.zero_le _), x0]) (fun u _ => by
      show (if u ≤ s then x u else i) < _
      split
      · exact hx u (by assumption)
      · exact hi) (by rw [hw]; exact Int.le_refl _) (u := u) (by omega)
    simp only [show u + 1 ≤ s by omega, show u ≤ s by omega, if_true] at this
    exact this
theorem crit_symm {u v : Nat} (h : Rch (ent (crM R)) R.length u v) : Rch (ent (crM R)) R.length v u := by
  refine Rch.ind (P := fun v => Rch (ent (crM R)) R.length v u) h (fun hu => rch_self hu) fun k i hk hP hi ha => ?_
  have hkl := hk.lt.2
  exact rch_trans (crit_back h1 h2 hi hkl ((crM_iff h1 h2 hi hkl).1 ha)) hP
omit h1 h2
/-- The arcs, counted. -/
def cntF (R : List (List Int)) (i j : Nat) : Int := if crB R j i then -1 else -1000000000000000
def cntM (R : List (List Int)) : List (List Int) := mk R.length R.length (cntF R)
def st (R : List (List Int)) (v u : Nat) : Int := starF (cntF R) R.length u v
theorem cntF_o (R : List (List Int)) (i j : Nat) : o (cntF R i j) = if crB R j i then some (-1) else none := by
  unfold cntF
  split <;> rfl
theorem cnt_sm (R : List (List Int)) (i j : Nat) : Sm 1000000 (cntF R i j) := by
  unfold cntF Sm
  split <;> omega
theorem cnt_wide (R : List (List Int)) : ∀ i j, i < R.length → j < R.length → Sm 1000001000000 (cntF R i j) := fun i j _ _ => sm_wide (cnt_sm R i j)
theorem cnt_walk (R : List (List Int)) (x : Nat → Nat) : ∀ (s : Nat) (w : Int), owk (fun i j => o (cntF R i j)) x s = some w → w = -(s : Int) ∧ ∀ u, u < s → crB R (x u) (x (u + 1)) = true
  | 0, w, h => ⟨(Option.some.inj h).symm, fun u hu => absurd hu (Nat.not_lt_zero u)⟩
  | s + 1, w, h => by
    have h : omul (o (cntF R (x (s + 1)) (x s))) (owk (fun i j => o (cntF R i j)) x s) = some w := h
    rw [cntF_o] at h
    by_cases hc : crB R (x s) (x (s + 1)) = true
    · rw [if_pos hc] at h
      cases e : owk (fun i j => o (cntF R i j)) x s with
      | none => rw [e] at h; cases h
      | some z =>
        rw [e] at h
        have hz : -1 + z = w := Option.some.inj h
        obtain ⟨e1, e2⟩ := cnt_walk R x s z e
        refine ⟨by omega, fun u hu => ?_⟩
        by_cases q : u = s
        · subst q; exact hc
        · exact e2 u (by omega)
    · rw [if_neg hc] at h; cases h
theorem cnt_of (R : List (List Int)) (x : Nat → Nat) : ∀ s : Nat, (∀ u, u < s → crB R (x u) (x (u + 1)) = true) → owk (fun i j => o (cntF R i j)) x s = some (-(s : Int))
  | 0, _ => rfl
  | s + 1, h => by
    show omul (o (cntF R (x (s + 1)) (x s))) (owk (fun i j => o (cntF R i j)) x s) = _
    rw [cntF_o, if_pos (h s (by omega)), cnt_of R x s fun u hu => h u (by omega)]
    show some (-1 + -(s : Int)) = _
    congr 1; omega
theorem cnt_noPos {R : List (List Int)} (n2 : R.length ≤ 10) : noPos (cntF R) R.length = true := by
  cases e : noPos (cntF R) R.length with
  | true => rfl
  | false =>
    obtain ⟨v, s, g1, g2, g3, g4⟩ := gain_of n2 (cnt_wide R) e
    cases ew : owk (fun i j => o (cntF R i j)) v s with
    | none => rw [ew] at g4; exact absurd (ole_none _) g4
    | some w =>
      rw [ew] at g4
      have := (cnt_walk R v s w ew).1
      exact absurd (show w ≤ 0 by omega) g4
/-- A finite number of steps is that of a walk of critical arcs. -/
theorem st_walk {R : List (List Int)} (n2 : R.length ≤ 10) {v u : Nat} (hv : v < R.length) (hu : u < R.length) (h : st R v u ≠ -1000000000000000) :
    ∃ (s : Nat) (x : Nat → Nat), st R v u = -(s : Int) ∧ x 0 = v ∧ x s = u ∧ (∀ i, i ≤ s → x i < R.length) ∧ (∀ i, i < s → crB R (x i) (x (i + 1)) = true) ∧ s ≤ R.length := by
  have e1 : o (st R v u) = obm (fun i j => o (cntF R i j)) R.length R.length u v := by
    unfold st starF
    rw [← clo_star n2 (cnt_wide R) (cnt_noPos n2) hu hv, o_cbm (cnt_wide R) R.length (by omega) u v hu hv]
  rcases obm_att (f := fun i j => o (cntF R i j)) (n := R.length) R.length u v hu hv with z | ⟨x, s, hsn, x0, xs, hx, z⟩
  · rw [z] at e1; unfold o at e1; rw [if_neg h] at e1; cases e1
  · rw [z] at e1
    unfold o at e1
    rw [if_neg h] at e1
    obtain ⟨e2, e3⟩ := cnt_walk R x s _ e1.symm
    exact ⟨s, x, e2, x0, xs, hx, e3, hsn⟩
theorem st_of_rch {R : List (List Int)} (h1 : sqB R = true) (h2 : hasCyc (ent R) R.length = true) {v u : Nat} (h : Rch (ent (crM R)) R.length v u) : st R v u ≠ -1000000000000000 := by
  obtain ⟨n1, n2, -⟩ := sq_sm h1
  obtain ⟨hv, hu⟩ := h.lt
  obtain ⟨s, x, x0, xs, hx, ha⟩ := h
  have e1 : o (st R v u) = obm (fun i j => o (cntF R i j)) R.length R.length u v := by
    unfold st starF
    rw [← clo_star n2 (cnt_wide R) (cnt_noPos n2) hu hv, o_cbm (cnt_wide R) R.length (by omega) u v hu hv]
  have hw := cnt_of R x s fun u hu => (crM_iff h1 h2 (hx _ (by omega)) (hx _ (by omega))).1 (ha u hu)
  have hle := owk_star (o_diag n2 (cnt_wide R) (cnt_noPos n2)) x s hx
  rw [hw, xs, x0, ← e1] at hle
  intro e
  rw [e] at hle
  exact hle
theorem rch_of_st {R : List (List Int)} (h1 : sqB R = true) (h2 : hasCyc (ent R) R.length = true) {v u : Nat} (hv : v < R.length) (hu : u < R.length) (h : st R v u ≠ -1000000000000000) : Rch (ent (crM R)) R.length v u := by
  obtain ⟨n1, n2, -⟩ := sq_sm h1
  obtain ⟨s, x, -, x0, xs, hx, ha, -⟩ := st_walk n2 hv hu h
  exact ⟨s, x, x0, xs, hx, fun i hi => (crM_iff h1 h2 (hx _ (by omega)) (hx _ (by omega))).2 (ha i hi)⟩
end
/-- The model's period of a component. -/
def perL (R : List (List Int)) (l : List Int) : Int := l.foldl (fun g k => lenG (ent (crM R)) R.length R.length [k] g) 0
def perP (R : List (List Int)) (l : List Int) (k : Nat) : Int := (l.take k).foldl (fun g k => lenG (ent (crM R)) R.length R.length [k] g) 0
theorem perP_next {R : List (List Int)} {l : List Int} {k : Nat} (hk : k < l.length) : perP R l (k + 1) = lenG (ent (crM R)) R.length R.length [l.getD k 0] (perP R l k) := by
  unfold perP; rw [take_snoc _ _ hk, List.foldl_append]; rfl
theorem lenG_nonneg {A : Nat → Nat → Int} {n : Nat} : ∀ (f : Nat) (p : List Int) (g : Int), 0 ≤ g → 0 ≤ lenG A n f p g
  | 0, _, _, h => h
  | f + 1, p, g, h => by
    rw [lenG_eq]
    have : ∀ k, 0 ≤ lenV A n f p g k := by
      intro k
      induction k with
      | zero =>
        rw [lenV_zero]
        split
        · unfold gI; omega
        · exact h
      | succ k ih =>
        rw [lenV_next, stepL]
        split
        · exact lenG_nonneg f _ _ ih
        · exact ih
    exact this n
theorem perF_nonneg (R : List (List Int)) : ∀ (l : List Int) (g : Int), 0 ≤ g → 0 ≤ l.foldl (fun g k => lenG (ent (crM R)) R.length R.length [k] g) g
  | [], _, h => h
  | k :: l, g, h => perF_nonneg R l _ (lenG_nonneg _ _ _ h)
theorem perL_nonneg (R : List (List Int)) (l : List Int) : 0 ≤ perL R l := perF_nonneg R l 0 (Int.le_refl 0)
theorem wr_len {A : Nat → Nat → Int} {n : Nat} {q : List Int} (hq : Wr A n q) : q.length ≤ n := by
  refine diffB_len (n := n) ?_ ?_
  · unfold nodesB
    refine List.all_eq_true.2 fun x hx => ?_
    obtain ⟨i, hi, e⟩ := List.mem_iff_getElem.1 hx
    have hg := hq.2.1 i hi
    have e2 : q.getD i 0 = x := by rw [← e]; simp [hi]
    rw [e2] at hg
    rw [hg.1]
    unfold inN
    simp [hg.2]
  · unfold diffB
    refine List.all_eq_true.2 fun i hi => ?_
    have hi := List.mem_range.1 hi
    have := hasB_take hq hi
    rw [(hq.2.1 i hi).1, this]; rfl
/-- What divides the model's period: what divides the lengths of all cycles in the component. -/
theorem perL_iff {R : List (List Int)} (n1 : 1 ≤ R.length) {v : Nat} {d : Int} :
    d ∣ perL R (compL (ent (crM R)) R.length v) ↔ ∀ q, Wr (ent (crM R)) R.length q → relB (ent (crM R)) R.length v (vx q 0) = true → d ∣ (q.length : Int) := by
  obtain ⟨f, hf⟩ : ∃ f, R.length = f + 1 := ⟨R.length - 1, by omega⟩
  have hmono : ∀ (l : List Int) (g : Int), d ∣ l.foldl (fun g k => lenG (ent (crM R)) R.length R.length [k] g) g → d ∣ g := fun l g h => foldl_dvd _ (fun g k hk => lenG_mono _ _ _ hk) l g h
  constructor
  · intro h q hq hc
    have hmem : ((vx q 0 : Nat) : Int) ∈ compL (ent (crM R)) R.length v := mem_compP.2 ⟨vx q 0, (hq.2.1 0 (by have := hq.1; omega)).2, hc, rfl⟩
    have q1 := hq.1
    have hlen := wr_len hq
    have key : ∀ (l : List Int) (g : Int), ((vx q 0 : Nat) : Int) ∈ l → d ∣ l.foldl (fun g k => lenG (ent (crM R)) R.length R.length [k] g) g → d ∣ (q.length : Int) := by
      intro l
      induction l with
      | nil => intro g hm; exact absurd hm (by simp)
      | cons k l ih =>
        intro g hm hd
        rcases List.mem_cons.1 hm with e | hm
        · have hd2 : d ∣ lenG (ent (crM R)) R.length R.length [k] g := hmono l _ hd
          rw [← e] at hd2
          have e3 : [((vx q 0 : Nat) : Int)] = q.take 1 := by
            have := take_snoc q 0 (by omega)
            rw [this, (hq.2.1 0 (by omega)).1]; rfl
          rw [e3] at hd2
          have hd3 : d ∣ lenG (ent (crM R)) R.length (f + 1) (q.take 1) g := by rw [← hf]; exact hd2
          exact wr_dvd hq f 1 _ (Nat.le_refl _) (by omega) (by omega) hd3
        · exact ih _ hm hd
    exact key _ _ hmem h
  · intro H
    have hfold : ∀ (l : List Int) (g : Int), (∀ x, x ∈ l → ∃ w : Nat, w < R.length ∧ relB (ent (crM R)) R.length v w = true ∧ x = w) → d ∣ g → d ∣ l.foldl (fun g k => lenG (ent (crM R)) R.length R.length [k] g) g := by
      intro l
      induction l with
      | nil => intro g _ hg; exact hg
      | cons k l ih =>
        intro g hl hg
        refine ih _ (fun x hx => hl x (List.mem_cons_of_mem _ hx)) ?_
        obtain ⟨w, hw, hr, rfl⟩ := hl k List.mem_cons_self
        refine lenG_sub (fun q hq e => H q hq ?_) _ _ _ hg ⟨by simp, fun i hi => ?_, fun i j hi hj _ => ?_, fun i hi => ?_, fun i h1 hi => ?_⟩ rfl
        · rw [e]; show relB _ _ v (vx [(w : Int)] 0) = true; unfold vx; simpa using hr
        · obtain rfl : i = 0 := by simp at hi; omega
          unfold vx; simp; exact hw
        · simp at hi hj; omega
        · simp at hi
        · simp at hi; omega
    exact hfold _ 0 (fun x hx => mem_compP.1 hx) (Int.dvd_zero _)
/-- What the program's period is made of: the steps along each arc. -/
def ArcP (R : List (List Int)) (v : Nat) (d : Int) : Prop := ∀ u w, u < R.length → w < R.length → crB R u w = true → st R v u ≠ -1000000000000000 → d ∣ st R v u - 1 - st R v w
section
variable {R : List (List Int)} (h1 : sqB R = true) (h2 : hasCyc (ent R) R.length = true)
include h1 h2
theorem closed_v {v : Nat} {d : Int} (H : ∀ q, Wr (ent (crM R)) R.length q → relB (ent (crM R)) R.length v (vx q 0) = true → d ∣ (q.length : Int)) {m : Nat} {f : Nat → Nat} (h0 : f 0 = v) (hm : f m = v)
    (ha : ∀ i, i < m → ent (crM R) (f (i + 1)) (f i) ≠ -1000000000000000) (hl : ∀ i, i ≤ m → f i < R.length) : d ∣ (m : Int) := by
  refine closed_dvd (A := ent (crM R)) (n := R.length) (C := fun x => relB (ent (crM R)) R.length v x = true) H m f (by rw [h0, hm]) ha fun i hi => ⟨hl i hi, ?_⟩
  have hr : Rch (ent (crM R)) R.length v (f i) := ⟨i, f, h0, rfl, fun u hu => hl u (by omega), fun u hu => ha u (by omega)⟩
  exact relB_t.2 ⟨hr, crit_symm h1 h2 hr⟩
theorem arcP_iff {v : Nat} (hv : v < R.length) {d : Int} : ArcP R v d ↔ ∀ q, Wr (ent (crM R)) R.length q → relB (ent (crM R)) R.length v (vx q 0) = true → d ∣ (q.length : Int) := by
  obtain ⟨n1, n2, -⟩ := sq_sm h1
  constructor
  · intro H q hq hc
    obtain ⟨q1, q2, q3, q4, q5, q6⟩ := hq
    have hrc : ∀ k, k < q.length → Rch (ent (crM R)) R.length v (vx q k) := by
      intro k
      induction k with
      | zero => intro _; exact (relB_t.1 hc).1
      | succ k ih => intro hk; exact rch_step (ih (by omega)) (q2 _ hk).2 (q4 k hk)
    have hst : ∀ k, k < q.length → st R v (vx q k) ≠ -1000000000000000 := fun k hk => st_of_rch h1 h2 (hrc k hk)
    have hs : ∀ k, k < q.length → d ∣ st R v (vx q 0) - (k : Int) - st R v (vx q k) := by
      intro k
      induction k with
      | zero => intro _; rw [show st R v (vx q 0) - ((0 : Nat) : Int) - st R v (vx q 0) = 0 by omega]; exact Int.dvd_zero _
      | succ k ih =>
        intro hk
        have a := ih (by omega)
        have b := H (vx q k) (vx q (k + 1)) (q2 k (by omega)).2 (q2 _ hk).2 ((crM_iff h1 h2 (q2 _ hk).2 (q2 k (by omega)).2).1 (q4 k hk)) (hst k (by omega))
        have := Int.dvd_add a b
        rw [show st R v (vx q 0) - (k : Int) - st R v (vx q k) + (st R v (vx q k) - 1 - st R v (vx q (k + 1))) = st R v (vx q 0) - ((k + 1 : Nat) : Int) - st R v (vx q (k + 1)) by omega] at this
        exact this
    have a := hs (q.length - 1) (by omega)
    have b := H (vx q (q.length - 1)) (vx q 0) (q2 _ (by omega)).2 (q2 0 (by omega)).2 ((crM_iff h1 h2 (q2 0 (by omega)).2 (q2 _ (by omega)).2).1 q5) (hst _ (by omega))
    have := Int.dvd_add a b
    rw [show st R v (vx q 0) - ((q.length - 1 : Nat) : Int) - st R v (vx q (q.length - 1)) + (st R v (vx q (q.length - 1)) - 1 - st R v (vx q 0)) = -(q.length : Int) by omega] at this
    exact Int.dvd_neg.1 this
  · intro H u w hu hw hc hs
    obtain ⟨s, x, e1, x0, xs, xl, xa, -⟩ := st_walk n2 hv hu hs
    have hru := rch_of_st h1 h2 hv hu hs
    have harc := (crM_iff h1 h2 hw hu).2 hc
    have hrw := rch_step hru hw harc
    obtain ⟨t, y, e2, y0, yt, yl, ya, -⟩ := st_walk n2 hv hw (st_of_rch h1 h2 hrw)
    obtain ⟨r, z, z0, zr, zl, za⟩ := crit_symm h1 h2 hrw
    -- v to w by y, back by z
    have A1 : d ∣ ((t + r : Nat) : Int) := by
      obtain ⟨f, f0, fe, fa, fq⟩ := walk_join (P := fun a b => ent (crM R) b a ≠ -1000000000000000) (x := y) (y := z) (s := t) (t := r) (by rw [yt, z0]) (fun i hi => (crM_iff h1 h2 (yl _ (by omega)) (yl _ (by omega))).2 (ya i hi)) za
      exact closed_v h1 h2 H (by rw [f0, y0]) (by rw [fe, zr]) fa (fq (fun a => a < R.length) yl zl)
    -- v to u by x, the arc, back by z
    have A2 : d ∣ ((s + (1 + r) : Nat) : Int) := by
      obtain ⟨g, g0, ge, ga, gq⟩ := walk_join (P := fun a b => ent (crM R) b a ≠ -1000000000000000) (x := fun i => if i = 0 then u else w) (y := z) (s := 1) (t := r) (by simp [z0]) (fun i hi => by
        obtain rfl : i = 0 := by omega
        simpa using harc) za
      obtain ⟨f, f0, fe, fa, fq⟩ := walk_join (P := fun a b => ent (crM R) b a ≠ -1000000000000000) (x := x) (y := g) (s := s) (t := 1 + r) (by rw [xs, g0]; rfl) (fun i hi => (crM_iff h1 h2 (xl _ (by omega)) (xl _ (by omega))).2 (xa i hi)) ga
      refine closed_v h1 h2 H (by rw [f0, x0]) (by rw [fe, ge, zr]) fa (fq (fun a => a < R.length) xl (gq (fun a => a < R.length) (fun i hi => ?_) zl))
      show (if i = 0 then u else w) < R.length
      split
      · exact hu
      · exact hw
    have := Int.dvd_sub A1 A2
    rw [show ((t + r : Nat) : Int) - ((s + (1 + r) : Nat) : Int) = st R v u - 1 - st R v w by rw [e1, e2]; omega] at this
    exact this
theorem arc_bd {v u w : Nat} (hv : v < R.length) (hu : u < R.length) (hw : w < R.length) (hc : crB R u w = true) (hs : st R v u ≠ -1000000000000000) : -10 ≤ st R v u ∧ st R v u ≤ 0 ∧ -10 ≤ st R v w ∧ st R v w ≤ 0 := by
  obtain ⟨n1, n2, -⟩ := sq_sm h1
  obtain ⟨s, -, e1, -, -, -, -, l1⟩ := st_walk n2 hv hu hs
  have hrw := rch_step (rch_of_st h1 h2 hv hu hs) hw ((crM_iff h1 h2 hw hu).2 hc)
  obtain ⟨t, -, e2, -, -, -, -, l2⟩ := st_walk n2 hv hw (st_of_rch h1 h2 hrw)
  omega
/-- The program's period is the model's. -/
theorem per_eq {v : Nat} (hv : v < R.length) {x : Int} (hx : 0 ≤ x) (H : ∀ d, d ∣ x ↔ ArcP R v d) : x = perL R (compL (ent (crM R)) R.length v) := by
  obtain ⟨n1, n2, -⟩ := sq_sm h1
  have hd : ∀ d, d ∣ x ↔ d ∣ perL R (compL (ent (crM R)) R.length v) := fun d => by rw [H, arcP_iff h1 h2 hv, perL_iff n1]
  have a : x ∣ perL R (compL (ent (crM R)) R.length v) := (hd x).1 (Int.dvd_refl _)
  have b : perL R (compL (ent (crM R)) R.length v) ∣ x := (hd _).2 (Int.dvd_refl _)
  exact Int.dvd_antisymm hx (perL_nonneg _ _) a b
theorem per_pos {v : Nat} (hv : v < R.length) (hc : crN R v = true) : 1 ≤ perL R (compL (ent (crM R)) R.length v) ∧ perL R (compL (ent (crM R)) R.length v) ≤ R.length := by
  obtain ⟨n1, n2, -⟩ := sq_sm h1
  have hex : ∃ q, Wr (ent (crM R)) R.length q ∧ relB (ent (crM R)) R.length v (vx q 0) = true := by
    refine Classical.byContradiction fun hno => ?_
    unfold crN at hc
    obtain ⟨w, hw, hvw⟩ := List.any_eq_true.1 hc
    have hw := List.mem_range.1 hw
    obtain ⟨r, z, z0, zr, zl, za⟩ := crit_back h1 h2 hw hv hvw
    obtain ⟨g, g0, ge, ga, gq⟩ := walk_join (P := fun a b => ent (crM R) b a ≠ -1000000000000000) (x := fun i => if i = 0 then v else w) (y := z) (s := 1) (t := r) (by simp [z0]) (fun i hi => by
      obtain rfl : i = 0 := by omega
      simpa using (crM_iff h1 h2 hw hv).2 hvw) za
    have := closed_v h1 h2 (v := v) (d := 0) (fun q a b => absurd ⟨q, a, b⟩ hno) (by rw [g0]; rfl) (by rw [ge, zr]) ga (gq (fun a => a < R.length) (fun i hi => by
      show (if i = 0 then v else w) < R.length
      split
      · exact hv
      · exact hw) zl)
    have := Int.zero_dvd.1 this
    omega
  obtain ⟨q, hq, hr⟩ := hex
  have hdv := (perL_iff (R := R) n1 (v := v) (d := perL R (compL (ent (crM R)) R.length v))).1 (Int.dvd_refl _) q hq hr
  have hnn := perL_nonneg R (compL (ent (crM R)) R.length v)
  have q1 := hq.1
  have hle := Int.le_of_dvd (by omega) hdv
  have hlen := wr_len hq
  refine ⟨?_, by omega⟩
  rcases Int.lt_or_eq_of_le hnn with h | h
  · omega
  · rw [← h] at hdv
    have := Int.zero_dvd.1 hdv
    omega
end
end M
end Go.Proofs.YtmcihaihbnnblaaGreat

namespace Go.Proofs.YtmcihaihbnnblaaGreat
namespace M
def cycP (R : List (List Int)) (k : Nat) : Int := ((crComps R).take k).foldl (fun c l => c.tdiv (gI c (perL R l)) * perL R l) 1
def perRes (R : List (List Int)) (x : Int) : Int × Int := if crCode R = 0 then (if inN R.length x then (if crN R x.toNat then (perL R (compL (ent (crM R)) R.length x.toNat), 0) else (0, 5)) else (0, 2)) else (0, crCode R)
def cycloRes (R : List (List Int)) : Int × Int := if crCode R = 0 then (cycP R (crComps R).length, 0) else (0, crCode R)
theorem cycP_zero (R : List (List Int)) : cycP R 0 = 1 := rfl
theorem cycP_next {R : List (List Int)} {k : Nat} (hk : k < (crComps R).length) : cycP R (k + 1) = (cycP R k).tdiv (gI (cycP R k) (perL R ((crComps R).getD k []))) * perL R ((crComps R).getD k []) := by
  unfold cycP
  rw [List.take_succ_eq_append_getElem hk, List.foldl_append]
  simp [hk]
theorem gI_pos {a b : Int} (h : 1 ≤ a) : 1 ≤ gI a b := by
  have : 0 < Int.gcd a b := Int.gcd_pos_of_ne_zero_left b (by omega)
  unfold gI; omega
theorem gI_le {a b : Int} (h : 1 ≤ b) : gI a b ≤ b := by
  have := Int.le_of_dvd (a := gI a b) (b := b) (by omega) (Int.gcd_dvd_right a b)
  exact this
/-- Both ways of reckoning the least common multiple. -/
theorem lcm_two {c p : Int} (hc : 1 ≤ c) (hp : 1 ≤ p) : c * p.tdiv (gI c p) = c.tdiv (gI c p) * p ∧ 1 ≤ c.tdiv (gI c p) * p ∧ c.tdiv (gI c p) * p ≤ c * p ∧ 1 ≤ p.tdiv (gI c p) ∧ p.tdiv (gI c p) ≤ p ∧ 1 ≤ c.tdiv (gI c p) ∧ c.tdiv (gI c p) ≤ c := by
  have hg := gI_pos (b := p) hc
  obtain ⟨a, ha⟩ : gI c p ∣ c := Int.gcd_dvd_left c p
  obtain ⟨b, hb⟩ : gI c p ∣ p := Int.gcd_dvd_right c p
  have e1 : c.tdiv (gI c p) = a := by
    have : (gI c p * a).tdiv (gI c p) = a := Int.mul_tdiv_cancel_left _ (by omega)
    rw [← ha] at this; exact this
  have e2 : p.tdiv (gI c p) = b := by
    have : (gI c p * b).tdiv (gI c p) = b := Int.mul_tdiv_cancel_left _ (by omega)
    rw [← hb] at this; exact this
  generalize gI c p = g at *
  have a1 : 1 ≤ a := by
    rcases Int.lt_or_le 0 a with h | h
    · omega
    · have := Int.mul_nonpos_of_nonneg_of_nonpos (show (0 : Int) ≤ g by omega) h
      omega
  have b1 : 1 ≤ b := by
    rcases Int.lt_or_le 0 b with h | h
    · omega
    · have := Int.mul_nonpos_of_nonneg_of_nonpos (show (0 : Int) ≤ g by omega) h
      omega
  have hac : a ≤ c := by
    have := Int.mul_le_mul_of_nonneg_right (show (1 : Int) ≤ g by omega) (show (0 : Int) ≤ a by omega)
    omega
  have hbp : b ≤ p := by
    have := Int.mul_le_mul_of_nonneg_right (show (1 : Int) ≤ g by omega) (show (0 : Int) ≤ b by omega)
    omega
  rw [e1, e2]
  refine ⟨?_, ?_, ?_, b1, hbp, a1, hac⟩
  · rw [ha, hb]; ac_rfl
  · have := Int.mul_le_mul_of_nonneg_right a1 (show (0 : Int) ≤ p by omega)
    omega
  · exact Int.mul_le_mul_of_nonneg_right hac (by omega)
section
variable {R : List (List Int)} (h1 : sqB R = true) (h2 : hasCyc (ent R) R.length = true)
include h1 h2
omit h1 h2 in
theorem comp_at {k : Nat} (hk : k < (crComps R).length) : ∃ v, v < R.length ∧ crN R v = true ∧ (crComps R).getD k [] = compL (ent (crM R)) R.length v ∧ ((crComps R).getD k []).getD 0 0 = (v : Int) ∧ 1 ≤ ((crComps R).getD k []).length := by
  have hm : (crComps R).getD k [] ∈ crComps R := by rw [List.getD_eq_getElem?_getD, List.getElem?_eq_getElem hk]; exact List.getElem_mem hk
  generalize (crComps R).getD k [] = l at *
  obtain ⟨hm1, hm2⟩ := List.mem_filter.1 hm
  obtain ⟨v, hv, hr, rfl⟩ := mem_compsP.1 hm1
  have e : vx (compL (ent (crM R)) R.length v) 0 = v := hr
  rw [e] at hm2
  exact ⟨v, hv, hm2, rfl, by rw [(rep_t hv).2.2, hr], compL_pos hv⟩
theorem comp_per {k : Nat} (hk : k < (crComps R).length) : 1 ≤ perL R ((crComps R).getD k []) ∧ perL R ((crComps R).getD k []) ≤ R.length := by
  obtain ⟨v, hv, hc, e, -⟩ := comp_at hk
  rw [e]
  exact per_pos h1 h2 hv hc
theorem cycP_bd : ∀ k, k ≤ (crComps R).length → 1 ≤ cycP R k ∧ cycP R k ≤ (10 : Int) ^ k := by
  obtain ⟨n1, n2, -⟩ := sq_sm h1
  intro k
  induction k with
  | zero => intro _; rw [cycP_zero]; exact ⟨Int.le_refl _, by simp⟩
  | succ k ih =>
    intro hk
    obtain ⟨i1, i2⟩ := ih (by omega)
    obtain ⟨p1, p2⟩ := comp_per h1 h2 (k := k) (by omega)
    obtain ⟨-, q1, q2, -⟩ := lcm_two i1 p1
    rw [cycP_next (by omega)]
    refine ⟨q1, Int.le_trans q2 ?_⟩
    have a := Int.mul_le_mul i2 (show perL R ((crComps R).getD k []) ≤ 10 by omega) (by omega) (by omega)
    rw [show (10 : Int) ^ (k + 1) = 10 ^ k * 10 from Int.pow_succ _ _]
    exact a
theorem cycP_big {k : Nat} (hk : k ≤ (crComps R).length) (h10 : (crComps R).length ≤ 10) : 1 ≤ cycP R k ∧ cycP R k ≤ 10000000000 := by
  obtain ⟨a, b⟩ := cycP_bd h1 h2 k hk
  refine ⟨a, Int.le_trans b ?_⟩
  have : ∀ k : Nat, k ≤ 10 → (10 : Int) ^ k ≤ 10000000000 := by decide
  exact this k (by omega)
end
end M
end Go.Proofs.YtmcihaihbnnblaaGreat

namespace Go.Proofs.YtmcihaihbnnblaaGreat.V
open Go.RowKit
/-- An owned matrix all of whose blocks have the property P. -/
def OwnP (w : World) (B : Nat) (P : Nat → Prop) (v : Value) (R : List (List Int)) : Prop :=
  ∃ V, OwnV w B v R V ∧ (∀ k, v.ownBlock = some k → P k) ∧ ∀ i, i < R.length → ∀ k, (V.getD i (.slice none 0 0)).ownBlock = some k → P k
theorem OwnP.toM {w : World} {B : Nat} {P : Nat → Prop} {v : Value} {R : List (List Int)} (h : OwnP w B P v R) : OwnM w B v R := by
  obtain ⟨V, h, -⟩ := h
  exact ⟨V, h⟩
theorem OwnM.toP {w : World} {B : Nat} {P : Nat → Prop} {v : Value} {R : List (List Int)} (h : OwnM w B v R) (hP : ∀ k, B ≤ k → k < w.heap.size → P k) : OwnP w B P v R := by
  obtain ⟨V, h⟩ := h
  refine ⟨V, h, fun k hk => ?_, fun i hi k hk => ?_⟩
  · have := own_lt h.2.1 hk; exact hP k this.1 this.2
  · have := own_lt (h.2.2.1 i hi) hk; exact hP k this.1 this.2
theorem OwnP.imp {w : World} {B : Nat} {P Q : Nat → Prop} {v : Value} {R : List (List Int)} (h : OwnP w B P v R) (hP : ∀ k, P k → Q k) : OwnP w B Q v R := by
  obtain ⟨V, h, h1, h2⟩ := h
  exact ⟨V, h, fun k hk => hP k (h1 k hk), fun i hi k hk => hP k (h2 i hi k hk)⟩
theorem OwnP.mono {w : World} {B B' : Nat} {P : Nat → Prop} {v : Value} {R : List (List Int)} (h : OwnP w B P v R) (hb : B' ≤ B) : OwnP w B' P v R := by
  obtain ⟨V, ⟨h1, h2, h3, h4, h5⟩, k1, k2⟩ := h
  exact ⟨V, ⟨h1, World.ownsRow.mono h2 hb, fun i hi => (h3 i hi).mono hb, h4, h5⟩, k1, k2⟩
theorem OwnP.keep {w w' : World} {B : Nat} {P : Nat → Prop} {v : Value} {R : List (List Int)} (h : OwnP w B P v R) (hk : ∀ k, P k → B ≤ k → k < w.heap.size → w'.heap[k]? = w.heap[k]?) : OwnP w' B P v R := by
  obtain ⟨V, ⟨h1, h2, h3, h4, h5⟩, k1, k2⟩ := h
  exact ⟨V, ⟨h1, ownsRow_keep h2 (fun k hv => hk k (k1 k hv) (own_lt h2 hv).1 (own_lt h2 hv).2), fun i hi => ownsRow_keep (h3 i hi) (fun k hv => hk k (k2 i hi k hv) (own_lt (h3 i hi) hv).1 (own_lt (h3 i hi) hv).2), h4, h5⟩, k1, k2⟩
theorem OwnP.below {w w' : World} {B : Nat} {P : Nat → Prop} {v : Value} {R : List (List Int)} (h : OwnP w B P v R) (hb : Below w.heap.size w w') : OwnP w' B P v R :=
  h.keep (fun k _ _ h2 => hb.block k h2)
theorem OwnV.at {w : World} {B n cap : Nat} {a : Option Addr} {R : List (List Int)} {V : List Value} (h : OwnV w B (.slice a n cap) R V) (i j : Nat) (hi : i < n) (hj : j < (R.getD i []).length) :
    ∃ g q L c x, a = some ⟨g, 0, none⟩ ∧ B ≤ g ∧ B ≤ q ∧ L = (R.getD i []).length ∧ x = (R.getD i []).getD j 0 ∧ w.cell? ⟨g, i, none⟩ = some (.slice (some ⟨q, 0, none⟩) L c) ∧ w.cell? ⟨q, j, none⟩ = some (.int .i64 x) ∧ w.frozen? ⟨q, j, none⟩ = false ∧
      (V.getD i (.slice none 0 0)).ownBlock = some q ∧ ∀ y, OwnV (w.setCell ⟨q, j, none⟩ (.int .i64 y)) B (.slice a n cap) (R.set i ((R.getD i []).set j y)) V := by
  obtain ⟨h1, h2, h3, h4, h5⟩ := h
  obtain ⟨a', c', hv, hc, hm, hg⟩ := own_form h2
  injection hv with e1 e2 e3
  subst e1 e2 e3
  obtain ⟨g, rfl, hBg, hlt⟩ := hg (by omega)
  have hrow := h3 i hi
  obtain ⟨ra, rc, hrv, hrc, hrm, hrg⟩ := own_form hrow
  obtain ⟨q, rfl, hBq, hqlt⟩ := hrg (by omega)
  have hcell := World.ownsRow.cellAt h2 i (by omega)
  have hVi : V[i]? = some (V.getD i (.slice none 0 0)) := by simp [h1, hi]
  have hrow' := hrow
  rw [hrv] at hrow'
  have hcell2 := World.ownsRow.cellAt hrow' j (by omega)
  refine ⟨g, q, _, rc, _, rfl, hBg, hBq, rfl, rfl, ?_, ?_, World.ownsRow.frozenAt hrow' j, by rw [hrv]; rfl, fun y => ?_⟩
  · rw [hcell, hVi, hrv]
  · rw [hcell2]
    generalize R.getD i [] = l at hj
    simp [hj]
  · have hqg : q ≠ g := fun e => h4 i hi q (by rw [hrv]; rfl) (by rw [e]; rfl)
    refine ⟨by simpa using h1, ?_, ?_, ?_, ?_⟩
    · rw [List.length_set]
      exact ownsRow_keep h2 (fun k hv => Below.heap_setCell _ _ _ _ (by
        simp only [Value.ownBlock, Option.some.injEq] at hv; show k ≠ q; omega))
    · intro t ht
      simp only [List.length_set] at ht
      rw [getD_set _ _ _ _ _ (by omega)]
      by_cases e : t = i
      · subst e
        rw [if_pos rfl, hrv]
        exact Own.set hrow' j y
      · rw [if_neg e]
        refine ownsRow_keep (h3 t ht) (fun k hv => Below.heap_setCell _ _ _ _ ?_)
        show k ≠ q
        intro e2
        subst e2
        exact h5 t i ht hi e k hv (by rw [hrv]; rfl)
    · intro t ht
      simp only [List.length_set] at ht
      exact h4 t ht
    · intro t s ht hs
      simp only [List.length_set] at ht hs
      exact h5 t s ht hs

/-- What is needed to read and to write the entry at i, j. -/
theorem OwnP.at {w : World} {B n cap : Nat} {P : Nat → Prop} {a : Option Addr} {R : List (List Int)} (h : OwnP w B P (.slice a n cap) R) (i j : Nat) (hi : i < n) (hj : j < (R.getD i []).length) :
    ∃ g q L c x, a = some ⟨g, 0, none⟩ ∧ B ≤ g ∧ B ≤ q ∧ P q ∧ L = (R.getD i []).length ∧ x = (R.getD i []).getD j 0 ∧ w.cell? ⟨g, i, none⟩ = some (.slice (some ⟨q, 0, none⟩) L c) ∧ w.cell? ⟨q, j, none⟩ = some (.int .i64 x) ∧ w.frozen? ⟨q, j, none⟩ = false ∧
      ∀ y, OwnP (w.setCell ⟨q, j, none⟩ (.int .i64 y)) B P (.slice a n cap) (R.set i ((R.getD i []).set j y)) := by
  have hn := (OwnP.toM h).len
  obtain ⟨V, h, k1, k2⟩ := h
  obtain ⟨g, q, L, c, x, e1, e2, e3, e4, e5, c1, c2, f, hq, ho⟩ := h.at i j hi hj
  exact ⟨g, q, L, c, x, e1, e2, e3, k2 i (by omega) q hq, e4, e5, c1, c2, f, fun y => ⟨V, ho y, k1, fun i hi => k2 i (by simpa using hi)⟩⟩
end Go.Proofs.YtmcihaihbnnblaaGreat.V

namespace Go.Proofs.YtmcihaihbnnblaaGreat
namespace M
/-- The steps to all nodes. -/
def stL (R : List (List Int)) (v : Nat) : List Int := (List.range R.length).map fun u => st R v u
theorem stL_get {R : List (List Int)} {v u : Nat} (h : u < R.length) : (stL R v).getD u 0 = st R v u := by simp [stL, h]
/-- The counted matrix as it is filled: S are all arcs, L those still to come. -/
def cntG (S L : Nat → Nat → Bool) (i j : Nat) : Int := if S j i && !L j i then -1 else -1000000000000000
theorem gIz (a : Int) (h : 0 ≤ a) : 0 ≤ gI a 0 ∧ 0 ≤ a := ⟨by unfold gI; omega, h⟩
end M
namespace V
set_option maxRecDepth 100000
open Go.RowKit Go.Maps
theorem own_lit1c (w : World) (B : Nat) (x : Int) (hB : B ≤ w.heap.size) : Own (w.alloc (.cells #[.int .i64 x] 2)) B (.slice (some ⟨w.heap.size, 0, none⟩) 1 1) [x] := World.ownsRow_lit w #[.int .i64 x] 1 hB (by decide) rfl
theorem cntG_put {n f t : Nat} {S L : Nat → Nat → Bool} (hf : f < n) (ht : t < n) (hS : S f t = true) : (M.mk n n (M.cntG S L)).set t (((M.mk n n (M.cntG S L)).getD t []).set f (-1)) = M.mk n n (M.cntG S (strike L f t)) := by
  rw [M.mk_set _ _ _ _ _ _ ht]
  refine M.mk_congr fun i _ j _ => ?_
  unfold M.cntG strike
  by_cases e : i = t ∧ j = f
  · obtain ⟨rfl, rfl⟩ := e
    simp [hS]
  · have e0 : (if i = t then (if j = f then (-1 : Int) else if (S j i && !L j i) = true then -1 else -1000000000000000) else if (S j i && !L j i) = true then -1 else -1000000000000000) = if (S j i && !L j i) = true then -1 else -1000000000000000 := by
      by_cases p : i = t
      · rw [if_pos p, if_neg (fun q => e ⟨p, q⟩)]
      · rw [if_neg p]
    rw [e0]
    have : (decide (j = f) && decide (i = t)) = false := by
      by_cases p : j = f
      · by_cases q : i = t
        · exact absurd ⟨q, p⟩ e
        · simp [q]
      · simp [p]
    rw [this]; simp
theorem cntG_start {n : Nat} {S : Nat → Nat → Bool} : (M.mk n n fun _ _ => (-1000000000000000 : Int)) = M.mk n n (M.cntG S S) := M.mk_congr fun i _ j _ => by unfold M.cntG; simp
theorem cntG_end {R : List (List Int)} {n : Nat} {L : Nat → Nat → Bool} (hn : R.length = n) (hL : ∀ f t, f < n → t < n → L f t = false) : M.mk n n (M.cntG (M.crB R) L) = M.mk n n (M.cntF R) := M.mk_congr fun i hi j hj => by unfold M.cntG M.cntF; rw [hL j i hj hi]; simp
set_option maxRecDepth 100000 in
set_option maxHeartbeats 4000000 in
theorem stepsFrom (R : List (List Int)) (n m b v : Nat) (w : World) (hn : R.length = n) (hI : IsArcs w b n m (M.crB R)) (n1 : 1 ≤ n) (n2 : n ≤ 10) (hv : v < n) :
    Calls Tryz.prog 185 #[.map (some b), .int .i64 n, .int .i64 v] w fun e w' => ∃ b' c, e = .returned (.slice b' n c) ∧ Own w' w.heap.size (.slice b' n c) (M.stL R v) ∧ Below w.heap.size w w' := by
  have HRn := Lib.hid hn
  have HI := Lib.hid hI
  have hbl := hI.lt
  have hvi : (v : Int) < (n : Int) := by omega
  have HSm : Hid (∀ i j, i < n → j < n → M.Sm 1000001000000 (M.ent (M.mk n n (M.cntF R)) i j)) := fun i j hi hj => by rw [M.ent_mk _ _ _ _ _ hi hj]; exact M.sm_wide (M.cnt_sm R i j)
  have HNp : Hid (M.noPos (M.ent (M.mk n n (M.cntF R))) n = true) := by
    show _ = _
    rw [M.noPos_mk, ← hn]; exact M.cnt_noPos (by omega)
  have HSt : Hid (M.starL (M.mk n n (M.cntF R)) n = (M.mk n n (M.starF (M.cntF R) n), true)) := by
    show _ = _
    unfold M.starL
    rw [HNp.out, if_pos rfl, M.starM_mk]
  have HRow : Hid ((M.mk n n fun i j => M.ent (M.mk n n (M.starF (M.cntF R) n)) j i).getD v [] = M.stL R v) := by
    show _ = _
    rw [M.mk_row _ _ _ _ hv]
    unfold M.stL M.st
    rw [hn]
    exact List.map_congr_left fun j hj => M.ent_mk _ _ _ _ _ (List.mem_range.1 hj) hv
  have HLen : Hid ((M.stL R v).length = n) := by show _ = _; unfold M.stL; simp [hn]
  clear hI hn
  go_enter Tryz.func185, Tryz.ntmps185
  go_wp2_with fail
  refine (filled n n (-1000000000000000) _ n1 n2 n1 n2).mono ?_
  rintro e w1 ⟨a1, c1, rfl, ho, hb⟩
  rw [cntG_start (S := M.crB R)] at ho
  obtain ⟨g1, -, -, -, -, rfl, -⟩ := ho.tri (rect_mk _ _ _) 0 0 0 (by omega) (by omega) (by omega)
  have HO1 : Hid (OwnP w1 w.heap.size (fun k => k < w1.heap.size) (.slice (some ⟨g1, 0, none⟩) n c1) (M.mk n n (M.cntG (M.crB R) (M.crB R)))) := ho.toP fun k _ h => h
  have HB1 := Lib.hid hb
  have HI1 := Lib.hid (HI.out.below hb hbl)
  have hz1 : w.heap.size ≤ w1.heap.size := hb.size
  clear ho hb
  go_wp2_with (first | (at_range; refine wpList_rangeA _ rfl _ rfl b n m (M.crB R) rfl HI1.out ?_; intro w0 cnt hr hcm hg hz))
  go_frame
  have HR0 := Lib.hid hr
  have HZ0 := Lib.hid hz
  have HO0 : Hid (OwnP w0 w.heap.size (fun k => k < w1.heap.size) (.slice (some ⟨g1, 0, none⟩) n c1) (M.mk n n (M.cntG (M.crB R) (M.crB R)))) := HO1.out.keep fun j _ h1 h2 => hg.block j h2 (by intro e; cases e)
  have HB0 : Hid (Below w.heap.size w w0) := HB1.out.grown hg hz1 (fun j hj => by cases hj)
  clear hr hg hz HO1
  go_loopw [8] (fun _ wr => ∃ (L : Nat → Nat → Bool) (k : Nat), Hid (RngA wr b w1.heap.size n m (M.crB R) L k) ∧ Hid (OwnP wr w.heap.size (fun k => k < w1.heap.size) (.slice (some ⟨g1, 0, none⟩) n c1) (M.mk n n (M.cntG (M.crB R) L))) ∧ Hid (Below w.heap.size w wr) ∧ w1.heap.size + 1 ≤ wr.heap.size) (fun _ wr => wr.rangeLeft b w1.heap.size)
  case atStart => exact ⟨M.crB R, cnt, HR0, HO0, HB0, by rw [HZ0.out]; exact Nat.le_refl _⟩
  case round =>
    obtain ⟨L, k, HR, HO, HB, hsz⟩ := hrel
    clear HR0 HO0 HB0
    go_wp2_with (first | (at_next; refine wpList_nextA _ rfl _ rfl b _ n m (M.crB R) L k n2 rfl HR.out ?_ ?_))
    · intro hl0
      have HOe : Hid (OwnM wr w.heap.size (.slice (some ⟨g1, 0, none⟩) n c1) (M.mk n n (M.cntF R))) := by
        show OwnM _ _ _ _
        rw [← cntG_end HRn.out hl0]
        exact HO.out.toM
      clear hl0 HO HR
      go_wp2_with fail
      refine (starOf _ _ _ (M.mk n n (M.cntF R)) _ ⟨HOe.out.mat, rect_mk _ _ _, HSm.out, n1, n2⟩).mono ?_
      rintro e w2 ⟨b2, n2', c2, rfl, ho, hb⟩
      rw [HSt.out] at ho ⊢
      have hn2 : n2' = n := by rw [ho.len]; simp
      subst hn2
      have HO2 := Lib.hid ho.mat
      have HB2 := Lib.hid (HB.out.trans (hb.mono HB.out.size))
      clear ho hb
      go_wp2_with fail
      refine (transposed _ _ _ n2' (M.mk n2' n2' (M.starF (M.cntF R) n2')) _ HO2.out (rect_mk _ _ _) n1 n2 n1 n2).mono ?_
      rintro e w3 ⟨b3, c3, rfl, ho, hb⟩
      obtain ⟨g3, ra3, rc3, rfl, hcr, hro⟩ := ho.row v hv
      rw [HRow.out, HLen.out] at hcr hro
      have HRo := Lib.hid (hro.mono (B' := w.heap.size) HB2.out.size)
      have HB3 := Lib.hid (HB2.out.trans (hb.mono HB2.out.size))
      clear ho hb hro
      go_wp2
      go_ret
      exact ⟨_, _, rfl, HRo.out, HB3.out⟩
    · intro f t w2 k2 hf ht hl hs hr2 hlt hg2 hs2 hen
      have HR2 := Lib.hid hr2
      have HO2 : Hid (OwnP w2 w.heap.size (fun k => k < w1.heap.size) (.slice (some ⟨g1, 0, none⟩) n c1) (M.mk n n (M.cntG (M.crB R) L))) := HO.out.keep fun j h1 h2 h3 => hg2.block j h3 (by intro e; injection e with e; omega)
      have HB2 := Lib.hid (HB.out.grown hg2 HB.out.size (fun j hj => by cases hj; exact hz1))
      have HLt := Lib.hid hlt
      have HS2 := Lib.hid hs2
      obtain ⟨wa, hwa⟩ : ∃ x, x = w2.alloc (.cells #[.int .i64 (f : Int), .int .i64 (t : Int)] 98) := ⟨_, rfl⟩
      have ca0 : wa.cell? ⟨w2.heap.size, 0, none⟩ = some (.int .i64 (f : Int)) := by rw [hwa]; simp [go_sem]
      have ca1 : wa.cell? ⟨w2.heap.size, 1, none⟩ = some (.int .i64 (t : Int)) := by rw [hwa]; simp [go_sem]
      have hbA : Below w2.heap.size w2 wa := by rw [hwa]; exact b_alloc _ _
      have hzA : wa.heap.size = w2.heap.size + 1 := by rw [hwa]; simp
      have HOA := Lib.hid (HO2.out.below hbA)
      have HRA := Lib.hid (HR2.out.blocks (hbA.block b (by omega)) (hbA.block w1.heap.size (by omega)))
      have HBA := Lib.hid (HB2.out.trans (hbA.mono (by omega)))
      have HZA := Lib.hid hzA
      obtain ⟨g9, q, L9, c9, x9, hgg, -, hq, hqP, hL9, -, d1, d2, d3, hset⟩ := HOA.out.at t f ht (by rw [M.mk_rowlen _ _ _ _ ht]; exact hf)
      injection hgg with hgg
      injection hgg with hgg
      subst hgg
      rw [M.mk_rowlen _ _ _ _ ht] at hL9
      subst hL9
      have hN := hset (-1)
      rw [cntG_put hf ht hs] at hN
      have HN := Lib.hid hN
      have hfi : (f : Int) < (L9 : Int) := by omega
      have hti : (t : Int) < (L9 : Int) := by omega
      clear hr2 hg2 hs2 hl hlt hN hset hbA
      go_wp2_with fail
      simp only [← hwa]
      clear hwa hen
      go_still_tail 8, (by kernel_rfl)
      change wpList _ _ _ _ _ wa.drew
      have HRn : Hid (RngA (wa.setCell ⟨q, f, none⟩ (.int .i64 (-1))).drew b w1.heap.size L9 m (M.crB R) (strike L f t) k2) := HRA.out.blocks (Below.heap_setCell _ _ _ _ (by show b ≠ q; omega)) (Below.heap_setCell _ _ _ _ (by show w1.heap.size ≠ q; omega))
      go_wp2
      go_roundw
      case rel => exact ⟨strike L f t, k2, HRn, HN.out.keep (fun _ _ _ _ => rfl), HBA.out.drew.setCell (by omega) _, by have := HZA.out; have := HS2.out; simp; omega⟩
      case measure => rw [HRn.out.left_eq, HR.out.left_eq]; exact HLt.out
theorem gI_small {p x : Int} (p1 : 0 ≤ p) (p2 : p ≤ 100) (x1 : -100 ≤ x) (x2 : x ≤ 100) : 0 ≤ M.gI p x ∧ M.gI p x ≤ 100 := by
  unfold M.gI
  refine ⟨by omega, ?_⟩
  by_cases h : p = 0
  · subst h
    rw [Int.gcd_zero_left]; omega
  · have := Int.le_of_dvd (a := ((Int.gcd p x : Nat) : Int)) (b := p) (by omega) (Int.gcd_dvd_left p x)
    omega
/-- What the program's period is made of when the arcs L are still to come. -/
def ArcL (R : List (List Int)) (L : Nat → Nat → Bool) (v : Nat) (d : Int) : Prop := ∀ u t, u < R.length → t < R.length → M.crB R u t = true → L u t = false → M.st R v u ≠ -1000000000000000 → d ∣ M.st R v u - 1 - M.st R v t
theorem arcL_strike {R : List (List Int)} {L : Nat → Nat → Bool} {v u t : Nat} {d : Int} (hu : u < R.length) (ht : t < R.length) (hc : M.crB R u t = true) : ArcL R (strike L u t) v d ↔ ArcL R L v d ∧ (M.st R v u ≠ -1000000000000000 → d ∣ M.st R v u - 1 - M.st R v t) := by
  have hs : strike L u t u t = false := by unfold strike; simp
  constructor
  · intro h
    refine ⟨fun u' t' a b c e s => h u' t' a b c (by unfold strike; rw [e]; rfl) s, fun s => h u t hu ht hc hs s⟩
  · rintro ⟨h1, h2⟩ u' t' a b c e s
    by_cases q : u' = u ∧ t' = t
    · obtain ⟨rfl, rfl⟩ := q
      exact h2 s
    · refine h1 u' t' a b c ?_ s
      unfold strike at e
      have : (decide (u' = u) && decide (t' = t)) = false := by
        by_cases p1 : u' = u
        · by_cases p2 : t' = t
          · exact absurd ⟨p1, p2⟩ q
          · simp [p2]
        · simp [p1]
      rw [this] at e
      simpa using e
set_option maxRecDepth 100000 in
set_option maxHeartbeats 4000000 in
theorem periodOf (R : List (List Int)) (n m b v : Nat) (w : World) (hn : R.length = n) (hs : M.sqB R = true) (hc : M.hasCyc (M.ent R) R.length = true) (hI : IsArcs w b n m (M.crB R)) (hv : v < n) :
    Calls Tryz.prog 110 #[.map (some b), .int .i64 n, .int .i64 v] w fun e w' => e = .returned (.int .i64 (M.perL R (M.compL (M.ent (M.crM R)) R.length v))) ∧ Below w.heap.size w w' := by
  subst hn
  obtain ⟨n1, n2, -⟩ := M.sq_sm hs
  have HI := Lib.hid hI
  have hbl := hI.lt
  have HBd := Lib.hid (fun u t (hu : u < R.length) (ht : t < R.length) (h : M.crB R u t = true) (h' : M.st R v u ≠ -1000000000000000) => M.arc_bd hs hc hv hu ht h h')
  have HPe := Lib.hid (fun x (hx : 0 ≤ x) H => M.per_eq hs hc hv (x := x) hx H)
  generalize hres : M.perL R (M.compL (M.ent (M.crM R)) R.length v) = res at *
  clear hres hs hc hI
  go_enter Tryz.func110, Tryz.ntmps110
  go_wp2_with fail
  refine (stepsFrom R R.length m b v _ rfl HI.out n1 n2 hv).mono ?_
  rintro e w1 ⟨b1, c1, rfl, ho, hb⟩
  obtain ⟨g1, o1, x1, rfl, -⟩ := ho.ints'.at 0 (by omega)
  have HO1 : Hid (Ints .i64 w1 (some ⟨g1, o1, none⟩) R.length (M.stL R v)) := ho.ints'
  have HB1 := Lib.hid hb
  have HI1 := Lib.hid (HI.out.below hb hbl)
  have hz1 : w.heap.size ≤ w1.heap.size := hb.size
  clear ho hb
  go_wp2_with (first | (at_range; refine wpList_rangeA _ rfl _ rfl b R.length m (M.crB R) rfl HI1.out ?_; intro w0 cnt hr hcm hg hz))
  go_frame
  have HR0 := Lib.hid hr
  have HZ0 := Lib.hid hz
  have HO0 := Lib.hid (HO1.out.below (w' := w0) ((Below.refl w1.heap.size w1).grown hg (Nat.le_refl _) (fun j hj => by cases hj)))
  have HB0 : Hid (Below w.heap.size w w0) := HB1.out.grown hg hz1 (fun j hj => by cases hj)
  have HB01 : Hid (Below w1.heap.size w1 w0) := (Below.refl w1.heap.size w1).grown hg (Nat.le_refl _) (fun j hj => by cases hj)
  clear hr hg hz HO0
  go_loopw [8, 9] (fun pv _ wr => ∃ (L : Nat → Nat → Bool) (k : Nat) (p : Int), pv = .int .i64 p ∧ 0 ≤ p ∧ p ≤ 100 ∧ Hid (∀ d, d ∣ p ↔ ArcL R L v d) ∧ Hid (RngA wr b w1.heap.size R.length m (M.crB R) L k) ∧ Hid (Below w.heap.size w wr) ∧ Hid (Below w1.heap.size w1 wr) ∧ w1.heap.size + 1 ≤ wr.heap.size) (fun _ _ wr => wr.rangeLeft b w1.heap.size)
  case atStart => exact ⟨M.crB R, cnt, 0, rfl, by omega, by omega, fun d => ⟨fun _ u t _ _ h h2 _ => (by rw [h] at h2; cases h2), fun _ => Int.dvd_zero _⟩, HR0, HB0, HB01, by rw [HZ0.out]; exact Nat.le_refl _⟩
  case round =>
    obtain ⟨L, k, p, rfl, p1, p2, HD, HR, HB, HBo, hsz⟩ := hrel
    clear HR0 HB0 HB01
    go_wp2_with (first | (at_next; refine wpList_nextA _ rfl _ rfl b _ R.length m (M.crB R) L k n2 rfl HR.out ?_ ?_))
    · intro hl0
      have hE : p = res := HPe.out p p1 fun d => (HD.out d).trans ⟨fun h u t a b c s => h u t a b c (hl0 u t a b) s, fun h u t a b c _ s => h u t a b c s⟩
      have HE := Lib.hid hE
      clear hE hl0
      go_wp2
      go_ret
      rw [HE.out]
      exact ⟨rfl, HB.out⟩
    · intro f t w2 k2 hf ht hl hs hr2 hlt hg2 hs2 hen
      have HR2 := Lib.hid hr2
      have HB2 := Lib.hid (HB.out.grown hg2 HB.out.size (fun j hj => by cases hj; exact hz1))
      have HBo2 := Lib.hid (HBo.out.grown hg2 HBo.out.size (fun j hj => by cases hj; exact Nat.le_refl _))
      have HLt := Lib.hid hlt
      have HS2 := Lib.hid hs2
      obtain ⟨wa, hwa⟩ : ∃ x, x = w2.alloc (.cells #[.int .i64 (f : Int), .int .i64 (t : Int)] 98) := ⟨_, rfl⟩
      have ca0 : wa.cell? ⟨w2.heap.size, 0, none⟩ = some (.int .i64 (f : Int)) := by rw [hwa]; simp [go_sem]
      have ca1 : wa.cell? ⟨w2.heap.size, 1, none⟩ = some (.int .i64 (t : Int)) := by rw [hwa]; simp [go_sem]
      have hbA : Below w2.heap.size w2 wa := by rw [hwa]; exact b_alloc _ _
      have hzA : wa.heap.size = w2.heap.size + 1 := by rw [hwa]; simp
      have HRA := Lib.hid (HR2.out.blocks (hbA.block b (by omega)) (hbA.block w1.heap.size (by omega)))
      have HBA := Lib.hid (HB2.out.trans (hbA.mono (by omega)))
      have HBoA := Lib.hid (HBo2.out.trans (hbA.mono (by omega)))
      have HZA := Lib.hid hzA
      obtain ⟨gg, oo, x, hgx, -, hx, cx⟩ := (HO1.out.below HBoA.out).at f hf
      injection hgx with hgx
      injection hgx with e1 e2
      subst e1 e2
      obtain ⟨gg, oo, y, hgy, -, hy, cy⟩ := (HO1.out.below HBoA.out).at t ht
      injection hgy with hgy
      injection hgy with e1 e2
      subst e1 e2
      rw [M.stL_get hf] at hx
      rw [M.stL_get ht] at hy
      have hfi : (f : Int) < (R.length : Int) := by omega
      have hti : (t : Int) < (R.length : Int) := by omega
      have HDn := Lib.hid (fun d => (arcL_strike (R := R) (L := L) (v := v) (d := d) hf ht hs))
      have HXB := Lib.hid (HBd.out f t hf ht hs)
      rw [← hx, ← hy] at HXB HDn
      clear hr2 hg2 hs2 hl hlt hbA hx hy hs
      subst hwa
      by_cases hxb : x = -1000000000000000
      · subst hxb
        have HD2 : Hid (∀ d, d ∣ p ↔ ArcL R (strike L f t) v d) := fun d => by rw [HDn.out d, HD.out d]; exact ⟨fun h => ⟨h, fun e => absurd rfl e⟩, fun h => h.1⟩
        go_wp2
        go_roundw
        case rel => exact ⟨strike L f t, k2, p, rfl, p1, p2, HD2, HRA, HBA, HBoA, by have := HZA.out; have := HS2.out; omega⟩
        case measure => rw [HRA.out.left_eq, HR.out.left_eq]; exact HLt.out
      · have hxn : (x != -1000000000000000) = true := by simpa using hxb
        obtain ⟨x1, x2, y1, y2⟩ := HXB.out hxb
        have HD2 : Hid (∀ d, d ∣ M.gI p (x - 1 - y) ↔ ArcL R (strike L f t) v d) := fun d => by rw [HDn.out d, M.gI_iff, HD.out d]; exact ⟨fun h => ⟨h.1, fun _ => h.2⟩, fun h => ⟨h.1, h.2 hxb⟩⟩
        obtain ⟨g1', g2'⟩ := gI_small (p := p) (x := x - 1 - y) p1 p2 (by omega) (by omega)
        have HC : ∀ w : World, Calls Tryz.prog 112 #[.int .i64 p, .int .i64 (x - 1 - y)] w fun e w' => e = .returned (.int .i64 (M.gI p (x - 1 - y))) ∧ w = w' := fun w => divisor p (x - 1 - y) w (by omega) (by omega) (by omega) (by omega)
        have HCh := Lib.hid HC
        obtain ⟨q, hq⟩ : ∃ q, q = M.gI p (x - 1 - y) := ⟨_, rfl⟩
        rw [← hq] at g1' g2' HD2 HCh
        clear HC hq hxb HXB HDn
        go_wp2
        go_quiet ((go_at_call 112; exact q_one_s (HCh.out _)))
        generalize hwq : World.drewN _ _ = wq
        have HRn : Hid (RngA wq b w1.heap.size R.length m (M.crB R) (strike L f t) k2) := by show RngA _ _ _ _ _ _ _ _; rw [← hwq]; exact HRA.out.blocks rfl rfl
        have HBn : Hid (Below w.heap.size w wq) := by show Below _ _ _; rw [← hwq]; exact below_drewN HBA.out _
        have HBn2 : Hid (Below w1.heap.size w1 wq) := by show Below _ _ _; rw [← hwq]; exact below_drewN HBoA.out _
        have HZn : Hid (w1.heap.size + 1 ≤ wq.heap.size) := by show _ ≤ _; rw [← hwq]; have := HZA.out; have := HS2.out; simp; omega
        clear hwq
        go_wp2
        go_roundw
        case rel => exact ⟨strike L f t, k2, q, rfl, g1', g2', HD2, HRn, HBn, HBn2, HZn.out⟩
        case measure => rw [HRn.out.left_eq, HR.out.left_eq]; exact HLt.out
theorem mem_nodes {R : List (List Int)} {v : Nat} (hv : v < R.length) : M.crN R v = true ↔ (v : Int) ∈ M.nodesL R := by
  rw [M.mem_nodesL]
  constructor
  · intro h; exact ⟨v, hv, h, rfl⟩
  · rintro ⟨f, _, h, e⟩
    have : v = f := by omega
    rw [this]; exact h
theorem nodes1c {n : Nat} {x : Int} : M.nodesB n [x] = M.inN n x := by
  unfold M.nodesB
  simp
set_option maxRecDepth 100000 in
set_option maxHeartbeats 4000000 in
theorem periodAt (a : Option Addr) (n cap : Nat) (R : List (List Int)) (x : Int) (w : World) (h : Mat w a n R) :
    Calls Tryz.prog 28 #[.slice a n cap, .int .i64 x] w fun e w' => e = .returned (.tuple #[.int .i64 (M.perRes R x).1, .int .i64 (M.perRes R x).2]) ∧ Below w.heap.size w w' := by
  have HA := Lib.hid h
  have hRn : R.length = n := h.1
  by_cases hk : M.crCode R = 0
  · obtain ⟨hs, hc⟩ := M.cr_code hk
    obtain ⟨-, n1, n2, -⟩ := sq_parts h hs
    have HS := Lib.hid hs
    have HC := Lib.hid hc
    have HRn := Lib.hid hRn
    obtain ⟨bi, hbi⟩ : ∃ bi, bi = M.inN n x := ⟨_, rfl⟩
    have HNb : Hid (M.nodesB n [x] = bi) := nodes1c.trans hbi.symm
    cases bi with
    | false =>
      have HE : Hid (M.perRes R x = (0, 2)) := by show _ = _; unfold M.perRes; rw [if_pos hk, hRn, ← hbi]; rfl
      clear h hk hs hc hRn hbi
      go_enter Tryz.func28, Tryz.ntmps28
      go_wp2_with fail
      refine (criticalArcs _ _ _ R _ HA.out HS.out HC.out).mono ?_
      rintro e w1 ⟨b1, m1, rfl, -, -, -, hb⟩
      have HB1 := Lib.hid hb
      clear hb
      go_wp2_with (go_at_call 107; refine (areNodes_b _ n _ _ _ _ _ _ false HNb.out (by omega) (own_lit1c _ 0 _ (Nat.zero_le _)).ints').mono ?_; rintro e w' ⟨rfl, rfl⟩)
      go_ret2
      rw [HE.out]
      exact ⟨rfl, HB1.out.alloc HB1.out.size _⟩
    | true =>
      obtain ⟨v, hv, rfl⟩ := M.inN_j hbi.symm
      have HE0 : Hid (M.perRes R (v : Int) = if M.crN R v then (M.perL R (M.compL (M.ent (M.crM R)) R.length v), 0) else (0, 5)) := by show _ = _; unfold M.perRes; rw [if_pos hk, hRn, ← hbi]; simp
      obtain ⟨t, ht⟩ : ∃ t, t = M.crN R v := ⟨_, rfl⟩
      have HIn : Hid (t = true ↔ (v : Int) ∈ M.nodesL R) := by show _ ↔ _; rw [ht]; exact mem_nodes (by rw [hRn]; exact hv)
      rw [← ht] at HE0
      clear h hk hs hc hRn hbi ht
      go_enter Tryz.func28, Tryz.ntmps28
      go_wp2_with fail
      refine (criticalArcs _ _ _ R _ HA.out HS.out HC.out).mono ?_
      rintro e w1 ⟨b1, m1, rfl, -, hm1, hI, hb⟩
      have HI := Lib.hid hI
      have HB1 := Lib.hid hb
      have hb1l := hI.lt
      clear hb hI
      obtain ⟨wa, hwa⟩ : ∃ x, x = w1.alloc (.cells #[.int .i64 (v : Int)] 2) := ⟨_, rfl⟩
      have hbA : Below w1.heap.size w1 wa := by rw [hwa]; exact b_alloc _ _
      have HIa := Lib.hid (HI.out.below hbA hb1l)
      have HBa := Lib.hid (HB1.out.trans (hbA.mono HB1.out.size))
      have HLa : Hid (Ints .i64 wa (some ⟨w1.heap.size, 0, none⟩) 1 [(v : Int)]) := by show Ints _ _ _ _ _; rw [hwa]; exact (own_lit1c _ 0 _ (Nat.zero_le _)).ints'
      clear hbA
      go_wp2_with fail
      simp only [← hwa]
      clear hwa
      refine (areNodes_b _ n _ _ _ _ _ _ true HNb.out (by omega) HLa.out).mono ?_
      rintro e w' ⟨rfl, rfl⟩
      go_wp2_with fail
      refine (criticalNodes n m1 b1 _ _ HIa.out n2 hm1).mono ?_
      rintro e w2 ⟨b2, c2, l, rfl, ho, ⟨ss, hl, hss⟩, hb⟩
      have hN : l = M.nodesL R := by rw [hl]; exact M.srt_nodes fun x => by rw [HRn.out]; exact hss x
      have HO2 := Lib.hid ho.ints'
      have HB2 := Lib.hid (HBa.out.trans (hb.mono HBa.out.size))
      have HI2 := Lib.hid (HIa.out.below hb HIa.out.lt)
      have HIn2 : Hid (t = true ↔ (v : Int) ∈ l) := by show _ ↔ _; rw [hN]; exact HIn.out
      clear hl hss hb hN ho
      cases t with
      | false =>
        have HE : Hid (M.perRes R (v : Int) = (0, 5)) := HE0.out
        go_wp2_with (go_at_call 108; refine (containsI b2 l.length c2 l (v : Int) false _ HO2.out HIn2.out).mono ?_; rintro e w' ⟨rfl, rfl⟩)
        go_ret2
        rw [HE.out]
        exact ⟨rfl, HB2.out⟩
      | true =>
        have HE : Hid (M.perRes R (v : Int) = (M.perL R (M.compL (M.ent (M.crM R)) R.length v), 0)) := HE0.out
        have HIm : Hid ((v : Int) ∈ l) := HIn2.out.1 rfl
        clear HIn2
        go_wp2_with (go_at_call 108; refine (containsI b2 l.length c2 l (v : Int) true _ HO2.out ⟨fun _ => HIm.out, fun _ => rfl⟩).mono ?_; rintro e w' ⟨rfl, rfl⟩)
        refine (periodOf R n m1 b1 v _ HRn.out HS.out HC.out HI2.out hv).mono ?_
        rintro e w3 ⟨rfl, hb⟩
        have HB3 := Lib.hid (HB2.out.trans (hb.mono HB2.out.size))
        clear hb
        go_wp2
        go_ret2
        rw [HE.out]
        exact ⟨rfl, HB3.out⟩
  · have HC := Lib.hid hk
    obtain ⟨k, hkk⟩ : ∃ k, k = M.crCode R := ⟨_, rfl⟩
    have HE : Hid (M.perRes R x = (0, k)) := by show _ = _; unfold M.perRes; rw [if_neg hk, hkk]
    have HK := Lib.hid hkk
    have hk0 : (k != 0) = true := by rw [hkk]; simpa using hk
    clear h hk hkk hRn
    go_enter Tryz.func28, Tryz.ntmps28
    go_wp2_with fail
    refine (criticalArcs_no _ _ _ R _ HA.out HC.out).mono ?_
    rintro e w1 ⟨rfl, hb⟩
    rw [← HK.out]
    have HB := Lib.hid hb
    clear hb
    go_wp2
    go_ret2
    rw [HE.out]
    exact ⟨rfl, HB.out⟩
set_option maxRecDepth 100000 in
set_option maxHeartbeats 4000000 in
theorem cyclicity (a : Option Addr) (n cap : Nat) (R : List (List Int)) (w : World) (h : Mat w a n R) :
    Calls Tryz.prog 30 #[.slice a n cap] w fun e w' => e = .returned (.tuple #[.int .i64 (M.cycloRes R).1, .int .i64 (M.cycloRes R).2]) ∧ Below w.heap.size w w' := by
  have HA := Lib.hid h
  have hRn : R.length = n := h.1
  by_cases hk : M.crCode R = 0
  · obtain ⟨hs, hc⟩ := M.cr_code hk
    obtain ⟨-, n1, n2, -⟩ := sq_parts h hs
    have HS := Lib.hid hs
    have HC := Lib.hid hc
    have HRn := Lib.hid hRn
    have HCm : Hid ((M.crComps R).length ≤ n) := by show _; rw [← hRn]; exact M.crComps_len R
    have HCb := Lib.hid (fun k (hk : k ≤ (M.crComps R).length) => M.cycP_big hs hc hk (by have := M.crComps_len R; omega))
    have HAt : Hid (∀ k, k < (M.crComps R).length → ∃ (v : Nat) (p : Int), v < n ∧ ((M.crComps R).getD k []).getD 0 0 = (v : Int) ∧ 1 ≤ ((M.crComps R).getD k []).length ∧ M.perL R (M.compL (M.ent (M.crM R)) R.length v) = p ∧ 1 ≤ p ∧ p ≤ 10 ∧ M.cycP R (k + 1) = M.cycP R k * p.tdiv (M.gI (M.cycP R k) p) ∧ 1 ≤ M.gI (M.cycP R k) p) := fun k hk => by
      obtain ⟨v, hv, -, e, e2, e3⟩ := M.comp_at hk
      have hp := M.comp_per hs hc hk
      have hb := (M.cycP_big hs hc (k := k) (by omega) (by have := M.crComps_len R; omega)).1
      refine ⟨v, M.perL R ((M.crComps R).getD k []), by omega, e2, e3, by rw [e], hp.1, by omega, ?_, M.gI_pos hb⟩
      rw [M.cycP_next hk]
      exact (M.lcm_two hb hp.1).1.symm
    obtain ⟨F, hF⟩ : ∃ F, F = M.cycP R := ⟨_, rfl⟩
    have HE : Hid (M.cycloRes R = (F (M.crComps R).length, 0)) := by show _ = _; unfold M.cycloRes; rw [if_pos hk, hF]
    rw [← hF] at HCb HAt
    have HF0 : Hid (F 0 = 1) := by show _ = _; rw [hF]; rfl
    clear h hk hs hc hRn hF
    go_enter Tryz.func30, Tryz.ntmps30
    go_wp2_with fail
    refine (criticalArcs _ _ _ R _ HA.out HS.out HC.out).mono ?_
    rintro e w1 ⟨b1, m1, rfl, -, hm1, hI, hb⟩
    have HI := Lib.hid hI
    have HB1 := Lib.hid hb
    have hb1l := hI.lt
    clear hb hI
    go_wp2_with fail
    refine (criticalComponents _ _ _ R b1 m1 _ (HA.out.below HB1.out) HS.out HI.out hm1).mono ?_
    rintro e w2 ⟨b2, m2, c2, rfl, ho, hb⟩
    have hm2 := ho.len
    have hcm := HCm.out
    rw [← hm2] at hcm
    have HM2 := Lib.hid hm2
    have HL2 := Lib.hid ho.mat
    have HI2 := Lib.hid (HI.out.below hb hb1l)
    have HB2 := Lib.hid (HB1.out.trans (hb.mono HB1.out.size))
    have hz2 := HB2.out.size
    have hb2l := HI2.out.lt
    clear ho hb hm2
    generalize hLC : M.crComps R = LC at *
    clear hLC
    go_wp2
    go_loopw [6, 8, 9, 22] (fun ov _ _ kv wr => ∃ (k : Nat) (q : Int), k ≤ m2 ∧ kv = .int .i64 k ∧ ov = .int .i64 q ∧ Hid (F k = q) ∧ Below w2.heap.size w2 wr) (fun _ _ _ kv _ => m2 - (intOf kv).toNat)
    case atStart => exact ⟨0, 1, Nat.zero_le _, rfl, rfl, HF0, Below.refl _ _⟩
    case round =>
      obtain ⟨k, q, hk, rfl, rfl, HK, hb⟩ := hrel
      have HB := Lib.hid hb
      have hzr : w2.heap.size ≤ wr.heap.size := hb.size
      clear hb
      obtain ⟨q1, q2⟩ := HCb.out k (by have := HM2.out; omega)
      rw [HK.out] at q1 q2
      by_cases hkl : k < m2
      · have hki : (k : Int) < (m2 : Int) := by omega
        obtain ⟨v, p, hv, l1, l2, l3, p1, p2, l4, g1⟩ := HAt.out k (by have := HM2.out; omega)
        obtain ⟨ab, ao, rb, ro, L, rc, x, rfl, hL, hx, d1, d2⟩ := (HL2.out.below HB.out).ent k 0 hkl (by omega)
        rw [l1] at hx
        rw [← hL] at l2
        subst hx
        rw [Nat.add_zero] at d2
        have hL0 : (0 : Int) < (L : Int) := by omega
        rw [HK.out] at l4 g1
        have HP := Lib.hid l3
        have HN := Lib.hid l4
        obtain ⟨c1, c2⟩ := HCb.out (k + 1) (by have := HM2.out; omega)
        rw [l4] at c1 c2
        obtain ⟨-, -, -, d1', d2', -, -⟩ := M.lcm_two q1 p1
        have hgc : M.gI q p = ((Int.gcd q p : Nat) : Int) := rfl
        rw [hgc] at g1 c1 c2 d1' d2' HN
        have hgne : (((Int.gcd q p : Nat) : Int) == 0) = false := by simp; omega
        have hnn : R.length = n := HRn.out
        have HIr := Lib.hid (HI2.out.below HB.out hb2l)
        have HPer : Hid (Calls Tryz.prog 110 #[.map (some b1), .int .i64 n, .int .i64 v] wr fun e w' => e = .returned (.int .i64 p) ∧ Below wr.heap.size wr w') := by
          have := periodOf R n m1 b1 v wr HRn.out HS.out HC.out HIr.out hv
          rw [HP.out] at this
          exact this
        clear l1 l3 l4 hL hgc hnn
        go_wp2_with fail
        refine HPer.out.mono ?_
        rintro e w3 ⟨rfl, hb⟩
        have HB3 := Lib.hid (HB.out.trans (hb.mono hzr))
        clear hb
        go_wp2_with (go_at_call 112; refine (divisor q p _ (by omega) (by omega) (by omega) (by omega)).mono ?_; rintro e w' ⟨rfl, rfl⟩)
        go_roundw
        case rel => exact ⟨k + 1, _, by omega, by go_num, rfl, HN, HB3.out⟩
        case measure => simp [intOf]; omega
      · obtain rfl : k = m2 := by omega
        have HE2 : Hid (M.cycloRes R = (q, 0)) := by show _ = _; rw [HE.out, ← HM2.out, HK.out]
        go_wp2
        go_ret2
        rw [HE2.out]
        exact ⟨rfl, HB2.out.trans (HB.out.mono hz2)⟩
  · have HC := Lib.hid hk
    obtain ⟨k, hkk⟩ : ∃ k, k = M.crCode R := ⟨_, rfl⟩
    have HE : Hid (M.cycloRes R = (0, k)) := by show _ = _; unfold M.cycloRes; rw [if_neg hk, hkk]
    have HK := Lib.hid hkk
    have hk0 : (k != 0) = true := by rw [hkk]; simpa using hk
    clear h hk hkk hRn
    go_enter Tryz.func30, Tryz.ntmps30
    go_wp2_with fail
    refine (criticalArcs_no _ _ _ R _ HA.out HC.out).mono ?_
    rintro e w1 ⟨rfl, hb⟩
    rw [← HK.out]
    have HB := Lib.hid hb
    clear hb
    go_wp2
    go_ret2
    rw [HE.out]
    exact ⟨rfl, HB.out⟩
end V
end Go.Proofs.YtmcihaihbnnblaaGreat

namespace Go.Proofs.YtmcihaihbnnblaaGreat
namespace M
theorem comp_has {R : List (List Int)} {k v : Nat} (hk : k < (crComps R).length) (hv : v < R.length) (h : hasB ((crComps R).getD k []) (v : Int) = true) : (crComps R).getD k [] = compL (ent (crM R)) R.length v ∧ crN R v = true := by
  obtain ⟨u, hu, hc, e, -, -⟩ := comp_at hk
  rw [e] at h ⊢
  unfold hasB at h
  rw [List.contains_iff_mem] at h
  obtain ⟨w, hw, hr, ew⟩ := mem_compP.1 h
  obtain rfl : w = v := by omega
  exact ⟨compL_eq hr, crN_rch rfl (relB_t.1 hr).2 hc⟩
theorem comp_no {R : List (List Int)} {v : Nat} (hv : v < R.length) (h : ∀ k, k < (crComps R).length → hasB ((crComps R).getD k []) (v : Int) = false) : crN R v = false := by
  cases hcn : crN R v with
  | false => rfl
  | true =>
    obtain ⟨r1, r2, r3⟩ := rep_t (A := ent (crM R)) hv
    have hrn := crN_rch rfl (relB_t.1 r2).2 hcn
    have he := compL_eq r2
    have hrr : repN (ent (crM R)) R.length (repN (ent (crM R)) R.length v) = repN (ent (crM R)) R.length v := by
      show ((compL (ent (crM R)) R.length (repN (ent (crM R)) R.length v)).getD 0 0).toNat = _
      rw [← he]; rfl
    have hm : compL (ent (crM R)) R.length (repN (ent (crM R)) R.length v) ∈ crComps R := by
      refine List.mem_filter.2 ⟨mem_compsP.2 ⟨_, r1, hrr, rfl⟩, ?_⟩
      have : vx (compL (ent (crM R)) R.length (repN (ent (crM R)) R.length v)) 0 = repN (ent (crM R)) R.length v := hrr
      rw [this]
      exact hrn
    obtain ⟨k, hk, e⟩ := List.mem_iff_getElem.1 hm
    have := h k hk
    rw [List.getD_eq_getElem?_getD, List.getElem?_eq_getElem hk, Option.getD_some, e, ← he] at this
    unfold hasB at this
    have hin : ((v : Nat) : Int) ∈ compL (ent (crM R)) R.length v := mem_compP.2 ⟨v, hv, relB_self hv, rfl⟩
    rw [List.contains_iff_mem.2 hin] at this
    cases this
end M
namespace V
set_option maxRecDepth 100000
open Go.RowKit
theorem own_lit1b (w : World) (B : Nat) (x : Int) (hB : B ≤ w.heap.size) : Own (w.alloc (.cells #[.int .i64 x] 2)) B (.slice (some ⟨w.heap.size, 0, none⟩) 1 1) [x] := World.ownsRow_lit w #[.int .i64 x] 1 hB (by decide) rfl
theorem lenV_step {A : Nat → Nat → Int} {n f k : Nat} {p : List Int} {g : Int} (h : M.vx p 0 < k) (ha : A k (M.lastV p) ≠ -1000000000000000) (hb : M.hasB p (k : Int) = false) : M.lenV A n f p g (k + 1) = M.lenG A n f (p ++ [(k : Int)]) (M.lenV A n f p g k) := by
  rw [M.lenV_next, M.stepL, if_pos ⟨h, ha, hb⟩]
theorem lenV_skip {A : Nat → Nat → Int} {n f k : Nat} {p : List Int} {g : Int} (h : A k (M.lastV p) = -1000000000000000 ∨ M.hasB p (k : Int) = true) : M.lenV A n f p g (k + 1) = M.lenV A n f p g k := by
  rw [M.lenV_next, M.stepL, if_neg]
  rintro ⟨-, h2, h3⟩
  rcases h with h | h
  · exact h2 h
  · rw [h] at h3; cases h3
theorem gI_bd {g : Int} {m : Nat} (h0 : 0 ≤ g) (h1 : 1 ≤ m) (h2 : m ≤ 10) : 0 ≤ M.gI g m ∧ M.gI g m ≤ 10 := by
  have := M.gI_le (a := g) (b := (m : Int)) (by omega)
  refine ⟨?_, by omega⟩
  unfold M.gI; omega
set_option maxRecDepth 100000 in
set_option maxHeartbeats 4000000 in
theorem sLengths (a : Option Addr) (n cap : Nat) (R : List (List Int)) (f : Nat) : ∀ (b : Option Addr) (N c : Nat) (p : List Int) (g : Int) (B : Nat) (w : World), Sq w a n R → Own w B (.slice b N c) p → M.nodesB n p = true → M.diffB p = true → 1 ≤ N → n + 1 ≤ f + N → 0 ≤ g → g ≤ 10 → B ≤ w.heap.size →
    Calls Tryz.prog 181 #[.slice a n cap, .slice b N c, .int .i64 g] w fun e w' => e = .returned (.int .i64 (M.lenG (M.ent R) n f p g)) ∧ 0 ≤ M.lenG (M.ent R) n f p g ∧ M.lenG (M.ent R) n f p g ≤ 10 ∧ Below w.heap.size w w' := by
  induction f with
  | zero =>
    intro b N c p g B w hS hO hn hd h1 hf hg1 hg2 hB
    have := M.diffB_len hn hd
    have := hO.len
    omega
  | succ f IH =>
    intro b N c p g B w hS hO hn hd h1 hf hg1 hg2 hB
    obtain ⟨N, rfl⟩ : ∃ m, N = m + 1 := ⟨N - 1, by omega⟩
    have HIH := Lib.hid IH
    have hpl : p.length = N + 1 := hO.len.symm
    have hle := M.diffB_len hn hd
    have hn10 := hS.2.2.2.2
    have h0 := M.nodesB_at hn (k := 0) (by omega)
    have hN := M.nodesB_at hn (k := N) (by omega)
    obtain ⟨pb, po, x0, rfl, -, hx0, c0⟩ := hO.ints'.at 0 (by omega)
    obtain ⟨pb2, po2, x1, hpe, -, hx1, c1⟩ := hO.ints'.at N (by omega)
    injection hpe with hpe
    injection hpe with e1 e2 e3
    subst e1 e2
    rw [← hx0] at h0
    rw [← hx1] at hN
    obtain ⟨i, rfl⟩ := Int.eq_ofNat_of_zero_le h0.1
    obtain ⟨j, rfl⟩ := Int.eq_ofNat_of_zero_le hN.1
    have hi : i < n := by omega
    have hj : j < n := by omega
    have hvi : M.vx p 0 = i := by unfold M.vx; rw [← hx0]; simp
    have hvj : M.lastV p = j := by unfold M.lastV M.vx; rw [hpl, Nat.add_sub_cancel, ← hx1]; simp
    obtain ⟨ab, ao, ra, rc, L, lr, rfl, -, hlr, cr, hIr⟩ := hS.1.at i hi
    have hL : L = n := by rw [← hIr.1, hlr]; exact hS.2.1.2 i hi
    subst hL
    obtain ⟨rb, ro, z, rfl, -, hz, cz⟩ := hIr.at j hj
    have hze : z = M.ent R i j := by rw [hz, hlr]; rfl
    have HS := Lib.hid hS
    have HO := Lib.hid hO
    have HNd := Lib.hid hn
    have HDf := Lib.hid hd
    have HPl := Lib.hid hpl
    have HVi := Lib.hid hvi
    have HVj := Lib.hid hvj
    have ht1 : ((N : Int) + 1 - 1) = (N : Int) := by omega
    have hNb : N + 1 ≤ 10 := by omega
    simp only [Nat.add_zero] at c0
    have HGd := Lib.hid (gI_bd (g := g) (m := N + 1) hg1 (by omega) hNb)
    have HV0 : Hid (M.lenV (M.ent R) L f p g (i + 1) = if z = -1000000000000000 then g else M.gI g ((N + 1 : Nat) : Int)) := by
      show _ = _
      rw [M.lenV_low (by omega), M.lenV_zero, hvi, hvj, ← hze, hpl]
      by_cases q : z = -1000000000000000
      · rw [if_pos q, if_neg (by omega)]
      · rw [if_neg q, if_pos q]
    have HEnd : Hid (M.lenG (M.ent R) L (f + 1) p g = M.lenV (M.ent R) L f p g L) := M.lenG_eq _ _ _ _ _
    have hi1 : IntKind.i64.wrap ((i : Int) + 1) = (i : Int) + 1 := IntWalk.i64_in _ (by omega)
    obtain ⟨F, hF⟩ : ∃ F, F = M.lenV (M.ent R) L f p g := ⟨_, rfl⟩
    have HF := Lib.hid hF
    rw [← hF] at HV0 HEnd
    clear hlr hIr hz hze hx0 hx1 h0 hN hvi hvj hn hd IH e3 hpl hS hO hF
    have HCR := Lib.hid cr
    have HCZ := Lib.hid cz
    clear cr cz
    go_enter Tryz.func181, Tryz.ntmps181
    go_wp2
    go_quiet (fail)
    generalize hwq : World.drewN w _ = wq
    have hbq : Below w.heap.size w wq := by rw [← hwq]; exact b_draws w _
    have cr := (hbq.cell (cell_lt HCR.out)).trans HCR.out
    have cz := (hbq.cell (cell_lt HCZ.out)).trans HCZ.out
    have HBq := Lib.hid hbq
    clear hwq c0 c1 hbq
    by_cases hzb : z = -1000000000000000
    · subst hzb
      have HQ : Hid (F (i + 1) = g) := by show _ = _; rw [HV0.out, if_pos rfl]
      clear HV0
      have HG0 : Hid (0 ≤ g ∧ g ≤ 10) := ⟨hg1, hg2⟩
      go_wp2
      go_loopw [2, 9] (fun gv v wr => ∃ (k : Nat) (q : Int), i + 1 ≤ k ∧ k ≤ L ∧ v = .int .i64 k ∧ gv = .int .i64 q ∧ Hid (F k = q) ∧ 0 ≤ q ∧ q ≤ 10 ∧ Below w.heap.size w wr) (fun _ v _ => L - (intOf v).toNat)
      case atStart => exact ⟨i + 1, _, by omega, by omega, by go_num, rfl, HQ, HG0.out.1, HG0.out.2, HBq.out⟩
      case round =>
        obtain ⟨k, q, hk1, hk2, rfl, rfl, HK, q1, q2, hb⟩ := hrel
        have HB1 := Lib.hid hb
        have hz1 : w.heap.size ≤ wr.heap.size := hb.size
        clear hb HQ HG0
        by_cases hk : k < L
        · have hki : (k : Int) < (L : Int) := by omega
          obtain ⟨ab', ao', ra', rc', L', lr, e', -, hlr, ck, hIr⟩ := (HS.out.below HB1.out).1.at k hk
          injection e' with e'
          injection e' with e1 e2 e3
          subst e1 e2
          have hL' : L' = L := by rw [← hIr.1, hlr]; exact HS.out.2.1.2 k hk
          subst hL'
          obtain ⟨rb', ro', y, rfl, -, hy, cy⟩ := hIr.at j hj
          have hye : y = M.ent R k j := by rw [hy, hlr]; rfl
          have HYe := Lib.hid hye
          clear hlr hIr hy hye e3
          by_cases hyb : y = -1000000000000000
          · have HKn : Hid (F (k + 1) = q) := by show _ = _; rw [← HK.out, HF.out]; exact lenV_skip (.inl (by rw [HVj.out, ← HYe.out]; exact hyb))
            subst hyb
            go_wp2
            go_roundw
            case rel => exact ⟨k + 1, q, by omega, by omega, by go_num, rfl, HKn, q1, q2, HB1.out⟩
            case measure => simp [intOf]; omega
          · have gy : (y != -1000000000000000) = true := by simpa using hyb
            have HIr := Lib.hid (HO.out.below HB1.out).ints'
            obtain ⟨hb0, hhb⟩ : ∃ hb0, hb0 = M.hasB p (k : Int) := ⟨_, rfl⟩
            have HHb := Lib.hid hhb
            clear hhb
            cases hb0 with
            | true =>
              have HKn : Hid (F (k + 1) = q) := by show _ = _; rw [← HK.out, HF.out]; exact lenV_skip (.inr HHb.out.symm)
              go_wp2_with (go_at_call 105; refine (sHas _ _ _ p _ _ (by exact HIr.out)).mono ?_; rintro e w' ⟨rfl, rfl⟩; rw [← HHb.out])
              go_roundw
              case rel => exact ⟨k + 1, q, by omega, by omega, by go_num, rfl, HKn, q1, q2, HB1.out⟩
              case measure => simp [intOf]; omega
            | false =>
              obtain ⟨t, ht⟩ : ∃ t, t = M.lenG (M.ent R) L' f (p ++ [(k : Int)]) q := ⟨_, rfl⟩
              have HTt := Lib.hid ht
              have HKn : Hid (F (k + 1) = t) := by
                show _ = _
                have h1 := HK.out
                rw [HF.out] at h1 ⊢
                rw [lenV_step (by rw [HVi.out]; omega) (by rw [HVj.out, ← HYe.out]; exact hyb) HHb.out.symm, h1]
                exact ht.symm
              have HN2 := Lib.hid (M.nodesB_snoc HNd.out hk)
              have HD2 := Lib.hid (M.diffB_snoc HDf.out HHb.out.symm)
              clear ht
              go_wp2_with (first | (go_at_call 105; refine (sHas _ _ _ p _ _ (by exact HIr.out)).mono ?_; rintro e w' ⟨rfl, rfl⟩; rw [← HHb.out]) | (go_at_call 89; refine (sOwn _ _ _ p _ HIr.out (by omega) (by omega)).mono ?_; rintro e w1 ⟨b1, c1, rfl, ho, hb⟩; have HO1 := Lib.hid ho; have HBo := Lib.hid hb; clear ho hb) | (at_builtin; refine append1 _ rfl (.tmp 55) (.tmp 57) rfl wr.heap.size _ p (k : Int) (N + 1) HPl.out rfl HO1.out rfl (by have := HPl.out; omega) HBo.out.size ?_))
              intro b2 c2 w2 ho2 hb2 _
              have HO2 := Lib.hid ho2
              have HB2 := Lib.hid (HBo.out.trans hb2)
              have hz2 : wr.heap.size ≤ w2.heap.size := HB2.out.size
              have HB3 := Lib.hid (HB1.out.trans (HB2.out.mono hz1))
              clear ho2 hb2
              go_wp2_with fail
              refine (HIH.out _ (N + 1 + 1) _ _ q wr.heap.size _ (HS.out.below HB3.out) HO2.out HN2.out HD2.out (by omega) (by omega) q1 q2 hz2).mono ?_
              rintro e w3 ⟨rfl, t1, t2, hb⟩
              rw [← HTt.out] at t1 t2 ⊢
              have HB4 := Lib.hid (HB3.out.trans (hb.mono HB3.out.size))
              clear hb
              go_wp2
              go_roundw
              case rel => exact ⟨k + 1, t, by omega, by omega, by go_num, rfl, HKn, t1, t2, HB4.out⟩
              case measure => simp [intOf]; omega
        · obtain rfl : k = L := by omega
          have HE : Hid (M.lenG (M.ent R) k (f + 1) p g = q) := HEnd.out.trans HK.out
          go_wp2
          go_ret
          rw [HE.out]
          exact ⟨rfl, q1, q2, HB1.out⟩
    · have HQ : Hid (F (i + 1) = M.gI g ((N + 1 : Nat) : Int)) := by show _ = _; rw [HV0.out, if_neg hzb]
      have g3 : (z != -1000000000000000) = true := by simpa using hzb
      clear HV0 hzb
      have HG0 := HGd
      go_wp2_with fail
      refine (sDivisor g ((N : Int) + 1) _ (by omega) (by omega) (by omega) (by omega)).mono ?_
      rintro e w' ⟨rfl, qn, rfl⟩
      go_wp2
      go_loopw [2, 9] (fun gv v wr => ∃ (k : Nat) (q : Int), i + 1 ≤ k ∧ k ≤ L ∧ v = .int .i64 k ∧ gv = .int .i64 q ∧ Hid (F k = q) ∧ 0 ≤ q ∧ q ≤ 10 ∧ Below w.heap.size w wr) (fun _ v _ => L - (intOf v).toNat)
      case atStart => exact ⟨i + 1, _, by omega, by omega, by go_num, rfl, HQ, HG0.out.1, HG0.out.2, below_drewN HBq.out _⟩
      case round =>
        obtain ⟨k, q, hk1, hk2, rfl, rfl, HK, q1, q2, hb⟩ := hrel
        have HB1 := Lib.hid hb
        have hz1 : w.heap.size ≤ wr.heap.size := hb.size
        clear hb HQ HG0
        by_cases hk : k < L
        · have hki : (k : Int) < (L : Int) := by omega
          obtain ⟨ab', ao', ra', rc', L', lr, e', -, hlr, ck, hIr⟩ := (HS.out.below HB1.out).1.at k hk
          injection e' with e'
          injection e' with e1 e2 e3
          subst e1 e2
          have hL' : L' = L := by rw [← hIr.1, hlr]; exact HS.out.2.1.2 k hk
          subst hL'
          obtain ⟨rb', ro', y, rfl, -, hy, cy⟩ := hIr.at j hj
          have hye : y = M.ent R k j := by rw [hy, hlr]; rfl
          have HYe := Lib.hid hye
          clear hlr hIr hy hye e3
          by_cases hyb : y = -1000000000000000
          · have HKn : Hid (F (k + 1) = q) := by show _ = _; rw [← HK.out, HF.out]; exact lenV_skip (.inl (by rw [HVj.out, ← HYe.out]; exact hyb))
            subst hyb
            go_wp2
            go_roundw
            case rel => exact ⟨k + 1, q, by omega, by omega, by go_num, rfl, HKn, q1, q2, HB1.out⟩
            case measure => simp [intOf]; omega
          · have gy : (y != -1000000000000000) = true := by simpa using hyb
            have HIr := Lib.hid (HO.out.below HB1.out).ints'
            obtain ⟨hb0, hhb⟩ : ∃ hb0, hb0 = M.hasB p (k : Int) := ⟨_, rfl⟩
            have HHb := Lib.hid hhb
            clear hhb
            cases hb0 with
            | true =>
              have HKn : Hid (F (k + 1) = q) := by show _ = _; rw [← HK.out, HF.out]; exact lenV_skip (.inr HHb.out.symm)
              go_wp2_with (go_at_call 105; refine (sHas _ _ _ p _ _ (by exact HIr.out)).mono ?_; rintro e w' ⟨rfl, rfl⟩; rw [← HHb.out])
              go_roundw
              case rel => exact ⟨k + 1, q, by omega, by omega, by go_num, rfl, HKn, q1, q2, HB1.out⟩
              case measure => simp [intOf]; omega
            | false =>
              obtain ⟨t, ht⟩ : ∃ t, t = M.lenG (M.ent R) L' f (p ++ [(k : Int)]) q := ⟨_, rfl⟩
              have HTt := Lib.hid ht
              have HKn : Hid (F (k + 1) = t) := by
                show _ = _
                have h1 := HK.out
                rw [HF.out] at h1 ⊢
                rw [lenV_step (by rw [HVi.out]; omega) (by rw [HVj.out, ← HYe.out]; exact hyb) HHb.out.symm, h1]
                exact ht.symm
              have HN2 := Lib.hid (M.nodesB_snoc HNd.out hk)
              have HD2 := Lib.hid (M.diffB_snoc HDf.out HHb.out.symm)
              clear ht
              go_wp2_with (first | (go_at_call 105; refine (sHas _ _ _ p _ _ (by exact HIr.out)).mono ?_; rintro e w' ⟨rfl, rfl⟩; rw [← HHb.out]) | (go_at_call 89; refine (sOwn _ _ _ p _ HIr.out (by omega) (by omega)).mono ?_; rintro e w1 ⟨b1, c1, rfl, ho, hb⟩; have HO1 := Lib.hid ho; have HBo := Lib.hid hb; clear ho hb) | (at_builtin; refine append1 _ rfl (.tmp 55) (.tmp 57) rfl wr.heap.size _ p (k : Int) (N + 1) HPl.out rfl HO1.out rfl (by have := HPl.out; omega) HBo.out.size ?_))
              intro b2 c2 w2 ho2 hb2 _
              have HO2 := Lib.hid ho2
              have HB2 := Lib.hid (HBo.out.trans hb2)
              have hz2 : wr.heap.size ≤ w2.heap.size := HB2.out.size
              have HB3 := Lib.hid (HB1.out.trans (HB2.out.mono hz1))
              clear ho2 hb2
              go_wp2_with fail
              refine (HIH.out _ (N + 1 + 1) _ _ q wr.heap.size _ (HS.out.below HB3.out) HO2.out HN2.out HD2.out (by omega) (by omega) q1 q2 hz2).mono ?_
              rintro e w3 ⟨rfl, t1, t2, hb⟩
              rw [← HTt.out] at t1 t2 ⊢
              have HB4 := Lib.hid (HB3.out.trans (hb.mono HB3.out.size))
              clear hb
              go_wp2
              go_roundw
              case rel => exact ⟨k + 1, t, by omega, by omega, by go_num, rfl, HKn, t1, t2, HB4.out⟩
              case measure => simp [intOf]; omega
        · obtain rfl : k = L := by omega
          have HE : Hid (M.lenG (M.ent R) k (f + 1) p g = q) := HEnd.out.trans HK.out
          go_wp2
          go_ret
          rw [HE.out]
          exact ⟨rfl, q1, q2, HB1.out⟩
end V
end Go.Proofs.YtmcihaihbnnblaaGreat

namespace Go.Proofs.YtmcihaihbnnblaaGreat
namespace V
set_option maxRecDepth 100000
open Go.RowKit
theorem nodes1 {n v : Nat} (h : v < n) : M.nodesB n [(v : Int)] = true := by
  unfold M.nodesB M.inN
  simp [h]
theorem diff1 (v : Int) : M.diffB [v] = true := by
  unfold M.diffB M.hasB
  simp
theorem perL_end (R : List (List Int)) (l : List Int) : M.perP R l l.length = M.perL R l := by unfold M.perP M.perL; rw [List.take_length]
set_option maxRecDepth 100000 in
set_option maxHeartbeats 4000000 in
theorem sPeriod (a : Option Addr) (n cap : Nat) (R : List (List Int)) (a' : Option Addr) (N cap' : Nat) (l : List Int) (w : World) (h : Mat w a n R) (hs : M.sqB R = true) (hc : M.hasCyc (M.ent R) R.length = true) (h' : Ints .i64 w a' N l) (hN : N ≤ 10) (hl : ∀ k, k < N → ∃ v : Nat, v < n ∧ l.getD k 0 = (v : Int)) :
    Calls Tryz.prog 106 #[.slice a n cap, .slice a' N cap'] w fun e w' => e = .returned (.int .i64 (M.perL R l)) ∧ 0 ≤ M.perL R l ∧ M.perL R l ≤ 10 ∧ Below w.heap.size w w' := by
  have HA := Lib.hid h
  have HI := Lib.hid h'
  have HLl : Hid (l.length = N) := h'.1
  have HRn := Lib.hid h.1
  have HL := Lib.hid hl
  obtain ⟨hr, n1, n2, -⟩ := sq_parts h hs
  have HSm := Lib.hid (M.crM_sm hs h.1)
  have HRc : Hid (Rect (M.crM R) n n) := by show Rect _ _ _; rw [← h.1]; exact rect_mk _ _ _
  have HS := Lib.hid hs
  have HC := Lib.hid hc
  obtain ⟨F, hF⟩ : ∃ F, F = M.perP R l := ⟨_, rfl⟩
  have HF0 : Hid (F 0 = 0) := by show _ = _; rw [hF]; rfl
  have HFn : Hid (∀ k, k < N → F (k + 1) = M.lenG (M.ent (M.crM R)) n n [l.getD k 0] (F k)) := fun k hk => by
    rw [hF, M.perP_next (by rw [h'.1]; exact hk), h.1]
  have HFe : Hid (M.perL R l = F N) := by show _ = _; rw [hF, ← h'.1]; exact (perL_end R l).symm
  clear h h' hl hs hc hr hF
  go_enter Tryz.func106, Tryz.ntmps106
  go_wp2_with fail
  refine (sMatrix _ _ _ R _ HA.out HS.out HC.out).mono ?_
  rintro e w1 ⟨b1, c1, rfl, ho, hb⟩
  have HQ : Hid (Sq w1 b1 n (M.crM R)) := ⟨ho.mat, HRc.out, fun i j hi hj => M.sm_wide (HSm.out i j hi hj), n1, n2⟩
  have HB1 := Lib.hid hb
  have hz1 : w.heap.size ≤ w1.heap.size := hb.size
  clear ho hb
  go_wp2
  go_loopw [6, 7] (fun gv kv wr => ∃ (k : Nat) (q : Int), k ≤ N ∧ kv = .int .i64 k ∧ gv = .int .i64 q ∧ Hid (F k = q) ∧ 0 ≤ q ∧ q ≤ 10 ∧ Below w1.heap.size w1 wr) (fun _ kv _ => N - (intOf kv).toNat)
  case atStart => exact ⟨0, 0, Nat.zero_le _, rfl, rfl, HF0, by omega, by omega, Below.refl _ _⟩
  case round =>
    obtain ⟨k, q, hk, rfl, rfl, HK, q1, q2, hb⟩ := hrel
    have HB := Lib.hid hb
    have hzr : w1.heap.size ≤ wr.heap.size := hb.size
    clear hb
    by_cases hkl : k < N
    · have hki : (k : Int) < (N : Int) := by omega
      obtain ⟨v, hv, hlv⟩ := HL.out k hkl
      obtain ⟨ib, io, x, rfl, -, hx, cx⟩ := ((HI.out.below HB1.out).below HB.out).at k hkl
      rw [hlv] at hx
      subst hx
      have HFk := Lib.hid (HFn.out k hkl)
      have hfk := HFk.out
      rw [hlv, HK.out] at hfk
      have HFk2 := Lib.hid hfk
      clear hfk HFk hlv
      go_wp2_with fail
      refine (sLengths _ n _ (M.crM R) n _ 1 1 [(v : Int)] q wr.heap.size _ (HQ.out.below (HB.out.alloc hzr _)) (own_lit1b wr _ _ (Nat.le_refl _)) (nodes1 hv) (diff1 _) (by omega) (by omega) q1 q2 (by simp)).mono ?_
      rintro e w2 ⟨rfl, t1, t2, hb⟩
      have HB2 : Hid (Below w1.heap.size w1 w2) := HB.out.trans (((b_alloc wr _).trans (hb.mono (by simp))).mono hzr)
      rw [← HFk2.out] at t1 t2 ⊢
      clear hb
      obtain ⟨t, ht⟩ : ∃ t, t = F (k + 1) := ⟨_, rfl⟩
      rw [← ht] at t1 t2 ⊢
      have HT : Hid (F (k + 1) = t) := ht.symm
      clear ht HFk2
      go_wp2
      go_roundw
      case rel => exact ⟨k + 1, t, by omega, by go_num, rfl, HT, t1, t2, HB2.out⟩
      case measure => simp [intOf]; omega
    · obtain rfl : k = N := by omega
      have HE := Lib.hid (HFe.out.trans HK.out)
      go_wp2
      go_ret
      rw [HE.out]
      exact ⟨rfl, q1, q2, HB1.out.trans (HB.out.mono hz1)⟩
theorem comp_nodes {R : List (List Int)} {v : Nat} : ∀ k, k < (M.compL (M.ent (M.crM R)) R.length v).length → ∃ u : Nat, u < R.length ∧ (M.compL (M.ent (M.crM R)) R.length v).getD k 0 = (u : Int) := fun k hk => by
  obtain ⟨w, hw, -, e⟩ := M.compL_at hk
  exact ⟨w, hw, e⟩
set_option maxRecDepth 100000 in
set_option maxHeartbeats 4000000 in
theorem sPeriodAt (a : Option Addr) (n cap : Nat) (R : List (List Int)) (x : Int) (w : World) (h : Mat w a n R) :
    Calls Tryz.prog 27 #[.slice a n cap, .int .i64 x] w fun e w' => e = .returned (.tuple #[.int .i64 (M.perRes R x).1, .int .i64 (M.perRes R x).2]) ∧ Below w.heap.size w w' := by
  have HA := Lib.hid h
  have hRn : R.length = n := h.1
  by_cases hk : M.crCode R = 0
  · obtain ⟨hs, hc⟩ := M.cr_code hk
    obtain ⟨-, n1, n2, -⟩ := sq_parts h hs
    have HS := Lib.hid hs
    have HC := Lib.hid hc
    have HK := Lib.hid hk
    have HRn := Lib.hid hRn
    obtain ⟨bi, hbi⟩ : ∃ bi, bi = M.inN n x := ⟨_, rfl⟩
    cases bi with
    | false =>
      have HE : Hid (M.perRes R x = (0, 2)) := by show _ = _; unfold M.perRes; rw [if_pos hk, hRn, ← hbi]; rfl
      have HI := Lib.hid hbi.symm
      clear h hk hs hc hRn hbi
      go_enter Tryz.func27, Tryz.ntmps27
      go_wp2_with fail
      refine (sCode _ _ _ R _ HA.out).mono ?_
      rintro e w1 ⟨rfl, hb⟩
      rw [HK.out]
      have HB1 := Lib.hid hb
      clear hb
      go_wp2_with (go_at_call 104; refine (sNode_b _ _ _ _ _ false HI.out (by omega)).mono ?_; rintro e w' ⟨rfl, rfl⟩)
      go_ret2
      rw [HE.out]
      exact ⟨rfl, HB1.out⟩
    | true =>
      obtain ⟨v, hv, rfl⟩ := M.inN_j hbi.symm
      have HE0 : Hid (M.perRes R (v : Int) = if M.crN R v then (M.perL R (M.compL (M.ent (M.crM R)) R.length v), 0) else (0, 5)) := by show _ = _; unfold M.perRes; rw [if_pos hk, hRn, ← hbi]; simp
      have HI := Lib.hid hbi.symm
      have HCm : Hid ((M.crComps R).length ≤ n) := by show _; rw [← hRn]; exact M.crComps_len R
      have HH := Lib.hid (fun k (hk : k < (M.crComps R).length) (hb : M.hasB ((M.crComps R).getD k []) (v : Int) = true) => M.comp_has hk (by rw [hRn]; exact hv) hb)
      have HNo := Lib.hid (M.comp_no (R := R) (v := v) (by rw [hRn]; exact hv))
      have HLe : Hid (∀ u, (M.compL (M.ent (M.crM R)) R.length u).length ≤ n) := fun u => by rw [← hRn]; exact M.compP_len _ _ _ _
      have HNd : Hid (∀ u k, k < (M.compL (M.ent (M.crM R)) R.length u).length → ∃ z : Nat, z < n ∧ (M.compL (M.ent (M.crM R)) R.length u).getD k 0 = (z : Int)) := fun u k hk => by rw [← hRn]; exact comp_nodes k hk
      clear h hk hs hc hRn hbi
      go_enter Tryz.func27, Tryz.ntmps27
      go_wp2_with fail
      refine (sCode _ _ _ R _ HA.out).mono ?_
      rintro e w1 ⟨rfl, hb⟩
      rw [HK.out]
      have HB1 := Lib.hid hb
      clear hb
      go_wp2_with (go_at_call 104; refine (sNode_b _ _ _ _ _ true HI.out (by omega)).mono ?_; rintro e w' ⟨rfl, rfl⟩)
      refine (sComponents6 _ _ _ R _ (HA.out.below HB1.out) HS.out HC.out).mono ?_
      rintro e w2 ⟨b2, m2, c2, rfl, ho, hb⟩
      have hm2 := ho.len
      have hcm := HCm.out
      rw [← hm2] at hcm
      have HM2 := Lib.hid hm2
      have HL2 := Lib.hid ho.mat
      have HB2 := Lib.hid (HB1.out.trans (hb.mono HB1.out.size))
      clear ho hb hm2
      generalize hLC : M.crComps R = LC at *
      clear hLC
      go_wp2
      go_loopw [8] (fun kv wr => ∃ k : Nat, k ≤ m2 ∧ kv = .int .i64 k ∧ Hid (∀ i, i < k → M.hasB (LC.getD i []) (v : Int) = false) ∧ wr = w2) (fun kv _ => m2 - (intOf kv).toNat)
      case atStart => exact ⟨0, Nat.zero_le _, rfl, fun i hi => absurd hi (Nat.not_lt_zero i), rfl⟩
      case round =>
        obtain ⟨k, hk, rfl, HF, rfl⟩ := hrel
        by_cases hkl : k < m2
        · have hki : (k : Int) < (m2 : Int) := by omega
          obtain ⟨ab, ao, ra, rc, L, lr, rfl, -, hlr, ck, hIr⟩ := HL2.out.at k hkl
          obtain ⟨t, ht⟩ : ∃ t, t = M.hasB (LC.getD k []) (v : Int) := ⟨_, rfl⟩
          have HT := Lib.hid ht
          rw [← hlr] at ht
          have HT2 := Lib.hid ht
          have HIr := Lib.hid hIr
          have HLr := Lib.hid hlr
          clear hIr hlr ht
          cases t with
          | false =>
            have HF2 : Hid (∀ i, i < k + 1 → M.hasB (LC.getD i []) (v : Int) = false) := fun i hi => by
              by_cases q : i = k
              · subst q; exact HT.out.symm
              · exact HF.out i (by omega)
            go_wp2_with (go_at_call 105; refine (sHas _ _ _ lr _ _ HIr.out).mono ?_; rintro e w' ⟨rfl, rfl⟩; rw [← HT2.out])
            go_roundw
            case rel => exact ⟨k + 1, by omega, by go_num, HF2, by first | rfl | trivial⟩
            case measure => simp [intOf]; omega
          | true =>
            obtain ⟨e1, e2⟩ := HH.out k (by have := HM2.out; omega) HT.out.symm
            have hlr2 := HLr.out.trans e1
            have HI2 := HIr.out
            rw [hlr2] at HI2
            have hLn : (M.compL (M.ent (M.crM R)) R.length v).length = L := HI2.1
            have HI3 := Lib.hid HI2
            have HE : Hid (M.perRes R (v : Int) = (M.perL R (M.compL (M.ent (M.crM R)) R.length v), 0)) := by show _ = _; rw [HE0.out, e2]; rfl
            have HLn := Lib.hid hLn
            have hL10 : L ≤ 10 := by have := HLe.out v; omega
            have HNd2 := Lib.hid (HNd.out v)
            clear e1 e2 hlr2 HI2 hLn
            generalize M.compL (M.ent (M.crM R)) R.length v = cl at *
            go_wp2_with (first | (go_at_call 105; refine (sHas _ _ _ lr _ _ HIr.out).mono ?_; rintro e w' ⟨rfl, rfl⟩; rw [← HT2.out]))
            refine (sPeriod _ _ _ R _ L _ cl _ (HA.out.below HB2.out) HS.out HC.out HI3.out hL10 (fun k hk => HNd2.out k (by rw [HLn.out]; exact hk))).mono ?_
            rintro e w3 ⟨rfl, -, -, hb⟩
            have HB3 := Lib.hid (HB2.out.trans (hb.mono HB2.out.size))
            clear hb
            go_wp2
            go_ret2
            rw [HE.out]
            exact ⟨rfl, HB3.out⟩
        · obtain rfl : k = m2 := by omega
          have HE : Hid (M.perRes R (v : Int) = (0, 5)) := by
            show _ = _
            rw [HE0.out, HNo.out (fun i hi => HF.out i (by have := HM2.out; omega))]; rfl
          go_wp2
          go_ret2
          rw [HE.out]
          exact ⟨rfl, HB2.out⟩
  · obtain ⟨k, hkk⟩ : ∃ k, k = M.crCode R := ⟨_, rfl⟩
    have HE : Hid (M.perRes R x = (0, k)) := by show _ = _; unfold M.perRes; rw [if_neg hk, hkk]
    have HK := Lib.hid hkk
    have hk0 : (k != 0) = true := by rw [hkk]; simpa using hk
    clear h hk hkk hRn
    go_enter Tryz.func27, Tryz.ntmps27
    go_wp2_with fail
    refine (sCode _ _ _ R _ HA.out).mono ?_
    rintro e w1 ⟨rfl, hb⟩
    rw [← HK.out]
    have HB := Lib.hid hb
    clear hb
    go_wp2
    go_ret2
    rw [HE.out]
    exact ⟨rfl, HB.out⟩
set_option maxRecDepth 100000 in
set_option maxHeartbeats 4000000 in
theorem sCyclicity6 (a : Option Addr) (n cap : Nat) (R : List (List Int)) (w : World) (h : Mat w a n R) (hs : M.sqB R = true) (hc : M.hasCyc (M.ent R) R.length = true) :
    Calls Tryz.prog 111 #[.slice a n cap] w fun e w' => e = .returned (.int .i64 (M.cycP R (M.crComps R).length)) ∧ Below w.heap.size w w' := by
  have HA := Lib.hid h
  have hRn : R.length = n := h.1
  obtain ⟨-, n1, n2, -⟩ := sq_parts h hs
  have HS := Lib.hid hs
  have HC := Lib.hid hc
  have HCm : Hid ((M.crComps R).length ≤ n) := by show _; rw [← hRn]; exact M.crComps_len R
  have HCb := Lib.hid (fun k (hk : k ≤ (M.crComps R).length) => M.cycP_big hs hc hk (by have := M.crComps_len R; omega))
  have HAt : Hid (∀ k, k < (M.crComps R).length → ((M.crComps R).getD k []).length ≤ n ∧ (∀ i, i < ((M.crComps R).getD k []).length → ∃ z : Nat, z < n ∧ ((M.crComps R).getD k []).getD i 0 = (z : Int)) ∧ 1 ≤ M.perL R ((M.crComps R).getD k []) ∧ M.cycP R (k + 1) = (M.cycP R k).tdiv (M.gI (M.cycP R k) (M.perL R ((M.crComps R).getD k []))) * M.perL R ((M.crComps R).getD k []) ∧ 1 ≤ M.gI (M.cycP R k) (M.perL R ((M.crComps R).getD k []))) := fun k hk => by
    obtain ⟨v, hv, -, e, -⟩ := M.comp_at hk
    have hp := (M.comp_per hs hc hk).1
    have hb := (M.cycP_big hs hc (k := k) (by omega) (by have := M.crComps_len R; omega)).1
    refine ⟨by rw [e, ← hRn]; exact M.compP_len _ _ _ _, fun i hi => ?_, hp, M.cycP_next hk, M.gI_pos hb⟩
    rw [e] at hi ⊢
    rw [← hRn]
    exact comp_nodes i hi
  obtain ⟨F, hF⟩ : ∃ F, F = M.cycP R := ⟨_, rfl⟩
  rw [← hF] at HCb HAt ⊢
  have HF0 : Hid (F 0 = 1) := by show _ = _; rw [hF]; rfl
  clear hF
  clear h hs hc hRn
  go_enter Tryz.func111, Tryz.ntmps111
  go_wp2_with fail
  refine (sComponents6 _ _ _ R _ HA.out HS.out HC.out).mono ?_
  rintro e w2 ⟨b2, m2, c2, rfl, ho, hb⟩
  have hm2 := ho.len
  have hcm := HCm.out
  rw [← hm2] at hcm
  have HM2 := Lib.hid hm2
  have HL2 := Lib.hid ho.mat
  have HB2 := Lib.hid hb
  have hz2 := hb.size
  clear ho hb hm2
  generalize hLC : M.crComps R = LC at *
  have HLC := Lib.hid hLC
  clear hLC
  go_wp2
  go_loopw [4, 5, 6] (fun ov kv _ wr => ∃ (k : Nat) (q : Int), k ≤ m2 ∧ kv = .int .i64 k ∧ ov = .int .i64 q ∧ Hid (F k = q) ∧ Below w2.heap.size w2 wr) (fun _ kv _ _ => m2 - (intOf kv).toNat)
  case atStart => exact ⟨0, 1, Nat.zero_le _, rfl, rfl, HF0, Below.refl _ _⟩
  case round =>
    obtain ⟨k, q, hk, rfl, rfl, HK, hb⟩ := hrel
    have HB := Lib.hid hb
    have hzr : w2.heap.size ≤ wr.heap.size := hb.size
    clear hb
    obtain ⟨q1, q2⟩ := HCb.out k (by have := HM2.out; omega)
    rw [HK.out] at q1 q2
    by_cases hkl : k < m2
    · have hki : (k : Int) < (m2 : Int) := by omega
      obtain ⟨l1, l2, p1, l3, g1⟩ := HAt.out k (by have := HM2.out; omega)
      obtain ⟨ab, ao, ra, rc, L, lr, rfl, -, hlr, ck, hIr⟩ := (HL2.out.below HB.out).at k hkl
      have HIr := Lib.hid hIr
      rw [← hlr] at l1 l2 l3 p1 g1
      rw [hIr.1] at l1 l2
      have HNd := Lib.hid l2
      obtain ⟨p, hp⟩ : ∃ p, p = M.perL R lr := ⟨_, rfl⟩
      rw [← hp, HK.out] at l3 g1
      rw [← hp] at p1
      have HP := Lib.hid hp
      clear hlr hIr l2 hp
      obtain ⟨c1, c2⟩ := HCb.out (k + 1) (by have := HM2.out; omega)
      rw [l3] at c1 c2
      have HN := Lib.hid l3
      have hL10 : L ≤ 10 := by omega
      obtain ⟨-, -, -, -, -, d1, d2⟩ := M.lcm_two q1 p1
      clear l3
      go_wp2_with fail
      refine (sPeriod _ _ _ R _ L _ lr _ ((HA.out.below HB2.out).below HB.out) HS.out HC.out HIr.out hL10 HNd.out).mono ?_
      rintro e w3 ⟨rfl, -, pb, hb⟩
      rw [← HP.out] at pb ⊢
      have HB3 := Lib.hid (HB.out.trans (hb.mono hzr))
      clear hb
      have hgc : M.gI q p = ((Int.gcd q p : Nat) : Int) := rfl
      rw [hgc] at g1 c1 c2 d1 d2 HN
      have HG := Lib.hid g1
      have hgne : (((Int.gcd q p : Nat) : Int) == 0) = false := by simp; omega
      clear hgc
      go_wp2_with (go_at_call 186; refine (sDivisor q p _ (by omega) (by omega) (by omega) (by omega)).mono ?_; rintro e w' ⟨rfl, qn, rfl⟩)
      have HB4 := Lib.hid (below_drewN HB3.out qn)
      go_roundw
      case rel => exact ⟨k + 1, _, by omega, by go_num, rfl, HN, HB4.out⟩
      case measure => simp [intOf]; omega
    · obtain rfl : k = m2 := by omega
      have HE : Hid (F LC.length = q) := by show _ = _; rw [← HM2.out]; exact HK.out
      go_wp2
      go_ret
      rw [HLC.out, HE.out]
      exact ⟨rfl, HB2.out.trans (HB.out.mono hz2)⟩
set_option maxRecDepth 100000 in
set_option maxHeartbeats 1000000 in
theorem sCyclicity (a : Option Addr) (n cap : Nat) (R : List (List Int)) (w : World) (h : Mat w a n R) :
    Calls Tryz.prog 29 #[.slice a n cap] w fun e w' => e = .returned (.tuple #[.int .i64 (M.cycloRes R).1, .int .i64 (M.cycloRes R).2]) ∧ Below w.heap.size w w' := by
  have HA := Lib.hid h
  by_cases hk : M.crCode R = 0
  · obtain ⟨hs, hc⟩ := M.cr_code hk
    have HS := Lib.hid hs
    have HC := Lib.hid hc
    have HK := Lib.hid hk
    have HE : Hid (M.cycloRes R = (M.cycP R (M.crComps R).length, 0)) := by show _ = _; unfold M.cycloRes; rw [if_pos hk]
    clear h hk hs hc
    go_enter Tryz.func29, Tryz.ntmps29
    go_wp2_with fail
    refine (sCode _ _ _ R _ HA.out).mono ?_
    rintro e w1 ⟨rfl, hb⟩
    rw [HK.out]
    have HB1 := Lib.hid hb
    clear hb
    go_wp2_with fail
    refine (sCyclicity6 _ _ _ R _ (HA.out.below HB1.out) HS.out HC.out).mono ?_
    rintro e w2 ⟨rfl, hb⟩
    have HB2 := Lib.hid (HB1.out.trans (hb.mono HB1.out.size))
    clear hb
    go_wp2
    go_ret2
    rw [HE.out]
    exact ⟨rfl, HB2.out⟩
  · obtain ⟨k, hkk⟩ : ∃ k, k = M.crCode R := ⟨_, rfl⟩
    have HE : Hid (M.cycloRes R = (0, k)) := by show _ = _; unfold M.cycloRes; rw [if_neg hk, hkk]
    have HK := Lib.hid hkk
    have hk0 : (k != 0) = true := by rw [hkk]; simpa using hk
    clear h hk hkk
    go_enter Tryz.func29, Tryz.ntmps29
    go_wp2_with fail
    refine (sCode _ _ _ R _ HA.out).mono ?_
    rintro e w1 ⟨rfl, hb⟩
    rw [← HK.out]
    have HB := Lib.hid hb
    clear hb
    go_wp2
    go_ret2
    rw [HE.out]
    exact ⟨rfl, HB.out⟩
end V
end Go.Proofs.YtmcihaihbnnblaaGreat

namespace Go.Proofs.YtmcihaihbnnblaaGreat.V
open Go.RowKit Go.ChangeShapes Go.WideShapes Go.Deep

theorem mat_open {H : Type} {enc : TypeId × Value → H} {P : Program} {w : World} {base : Nat} {held : Bool} {t e q : TypeId} {fuel : Nat} {cs : List Value} {x : DataW H × List MemPlace} (ht : P.underlying t = some (.slice e)) (he : P.underlying e = some (.slice q)) (hq : P.underlying q = some (.int .i64))
    (ce : P.cellsOf e = 1) (cq : P.cellsOf q = 1) (h : DataW.trod enc P w base (fun _ => true) held fuel t cs = some x) :
    ∃ a len cap R, cs = [.slice a len cap] ∧ Mat w a len R := by
  rcases open_int_rows ht he hq ce cq h with ⟨rfl, -⟩ | ⟨a, len, cap, A, L, C, Z, rfl, hb, hl, hm, -, hr⟩
  · exact ⟨none, 0, 0, [], rfl, rfl, Nat.zero_le _, .inl rfl⟩
  · refine ⟨some a, len, cap, (List.range len).map fun r => (Z r).take (L r), rfl, by simp, by omega, ?_⟩
    by_cases h0 : len = 0
    · exact .inl h0
    · have hsp : a.spot = none := by
        have := (hr 0 (by omega)).1
        simpa [Addr.add] using World.cell?_spot this
      obtain ⟨b, off, spot⟩ := a
      simp only at hsp
      subst hsp
      refine .inr ⟨b, off, rfl, ?_, fun i hi => ?_⟩
      · have := cell_lt (hr 0 (by omega)).1
        simpa [Addr.add] using this
      · obtain ⟨h1, h2, h3, h4, h5, h6, h7⟩ := hr i (by omega)
        have eR : ((List.range len).map fun r => (Z r).take (L r)).getD i [] = (Z i).take (L i) := by simp [hi]
        rw [eR]
        have eL : ((Z i).take (L i)).length = L i := by rw [List.length_take]; omega
        rw [eL]
        refine ⟨A i, C i, by rw [← Go.WideShapes.add_plain]; exact h1, eL, by omega, ?_⟩
        by_cases hL : L i = 0
        · exact .inl hL
        · cases hA : A i with
          | none => have := h6 hA; omega
          | some a' =>
            obtain ⟨-, hc⟩ := h7 a' hA
            obtain ⟨b', off', rfl, hc'⟩ := ints_at (k := .i64) (zs := Z i) (fun j hj => hc j (by omega)) (by omega)
            refine .inr ⟨b', off', rfl, cell_lt (hc' 0 (by omega)), fun j hj => ?_⟩
            rw [hc' j (by omega)]
            simp [List.getD_eq_getElem?_getD, hj]
end Go.Proofs.YtmcihaihbnnblaaGreat.V
