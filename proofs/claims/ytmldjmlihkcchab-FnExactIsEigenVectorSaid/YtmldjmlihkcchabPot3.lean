/- Texts laid together: Pot2, Pot3. -/
import Derived.Test.YtmldjmlihkcchabPot1
namespace Go.Proofs.Ytmldjmlihkcchab
namespace M
theorem apply_at (R : List (List Int)) (l : List Int) {i : Nat} (hi : i < R.length) : (applyM R l).getD i 0 = dotV R l i l.length := by
  unfold applyM
  rw [List.getD_eq_getElem?_getD, List.getElem?_map, List.getElem?_range hi]; rfl
theorem isPotB_of {R : List (List Int)} {a b : Int} {x : List Int} (hs : sqB R = true) (hr : isRat a b = true) (hl : x.length = R.length) (hf : x.all isFin = true) :
    isPotB R a b x = (List.range R.length).all fun i => decide ((applyM (mk R.length R.length (shf (ent R) a b)) x).getD i 0 ≤ x.getD i 0) := by
  unfold isPotB holdsB
  rw [hs, hr, hf, decide_eq_true hl]
  have e : ∀ i, i < R.length → (applyM (mk R.length R.length (shf (ent R) a b)) x).getD i 0 = sumN R.length fun j => times (shf (ent R) a b i j) (x.getD j 0) := fun i hi => by
    rw [apply_at _ _ (by rw [mk_length]; exact hi), hl]
    unfold dotV
    exact sumN_congr fun j hj => by rw [ent_mk _ _ _ _ _ hi hj]
  simp only [Bool.true_and]
  rw [Bool.eq_iff_iff, List.all_eq_true, List.all_eq_true]
  constructor
  · intro h i hi; rw [e i (List.mem_range.1 hi)]; exact h i hi
  · intro h i hi; rw [← e i (List.mem_range.1 hi)]; exact h i hi
theorem isPotB_no {R : List (List Int)} {a b : Int} {x : List Int} (h : ¬ (x.length = R.length ∧ x.all isFin = true)) : isPotB R a b x = false := by
  unfold isPotB holdsB
  by_cases h1 : x.length = R.length
  · have h2 : x.all isFin = false := by
      cases e : x.all isFin with
      | false => rfl
      | true => exact absurd ⟨h1, e⟩ h
    rw [h2]; simp
  · rw [decide_eq_false h1]; simp
end M
namespace V
open Go.RowKit
theorem vec_fin {l : List Int} (hv : M.isVec l = true) {b : Bool} (hb : l.all M.isFin = b) : (!b) = true ↔ (-1000000000000000 : Int) ∈ l := by
  subst hb
  rw [Bool.not_eq_true', ← Bool.not_eq_true, List.all_eq_true]
  constructor
  · intro h
    apply Classical.byContradiction
    intro hn
    apply h
    intro x hx
    obtain ⟨i, hi, rfl⟩ := List.mem_iff_getElem.1 hx
    have := M.isVal_t ((M.isVec_t hv).2.2 i hi)
    simp only [List.getD_eq_getElem?_getD, List.getElem?_eq_getElem hi, Option.getD_some] at this
    rcases this with e | e
    · rw [e] at hx; exact absurd hx hn
    · simp [M.isFin]; omega
  · intro h k
    have := k _ h
    exact absurd this (by decide)
end V
end Go.Proofs.Ytmldjmlihkcchab

namespace Go.Proofs.Ytmldjmlihkcchab
namespace M
def okArc (P : Nat → Nat → Int) (x : List Int) (i k : Nat) : Prop := P i k = -1000000000000000 ∨ P i k + x.getD k 0 ≤ x.getD i 0
theorem holdsB_of {R : List (List Int)} {a b : Int} {x : List Int} (hl : x.length = R.length) (hf : x.all isFin = true) :
    holdsB R a b x = true ↔ ∀ i, i < R.length → ∀ k, k < R.length → okArc (shf (ent R) a b) x i k := by
  unfold holdsB
  rw [hf, decide_eq_true hl]
  simp only [Bool.true_and, Bool.and_true, List.all_eq_true, List.mem_range, decide_eq_true_eq]
  have hfin : ∀ k, k < R.length → -1000000 ≤ x.getD k 0 ∧ x.getD k 0 ≤ 1000000 := fun k hk => by
    have hk' : k < x.length := by omega
    have := List.all_eq_true.1 hf x[k] (List.getElem_mem hk')
    rw [List.getD_eq_getElem?_getD, List.getElem?_eq_getElem hk']
    exact isFin_t this
  have ht : ∀ i k, k < R.length → times (shf (ent R) a b i k) (x.getD k 0) = if shf (ent R) a b i k = -1000000000000000 then -1000000000000000 else shf (ent R) a b i k + x.getD k 0 := fun i k hk => by
    have := hfin k hk
    unfold times
    by_cases e : shf (ent R) a b i k = -1000000000000000
    · rw [if_pos (.inl e), if_pos e]
    · rw [if_neg (by rintro (h | h) <;> omega), if_neg e]
  constructor
  · intro h i hi k hk
    have h1 := sum_ge (f := fun j => times (shf (ent R) a b i j) (x.getD j 0)) hk
    have h2 := h i hi
    have h1 : times (shf (ent R) a b i k) (x.getD k 0) ≤ _ := h1
    rw [ht i k hk] at h1
    by_cases e : shf (ent R) a b i k = -1000000000000000
    · exact .inl e
    · rw [if_neg e] at h1; exact .inr (Int.le_trans h1 h2)
  · intro h i hi
    have := hfin i hi
    refine sum_le (by omega) fun k hk => ?_
    show times (shf (ent R) a b i k) (x.getD k 0) ≤ _
    rw [ht i k hk]
    rcases h i hi k hk with e | e
    · rw [if_pos e]; omega
    · by_cases e2 : shf (ent R) a b i k = -1000000000000000
      · rw [if_pos e2]; omega
      · rw [if_neg e2]; exact e
end M
namespace V
open Go.RowKit
end V
end Go.Proofs.Ytmldjmlihkcchab
