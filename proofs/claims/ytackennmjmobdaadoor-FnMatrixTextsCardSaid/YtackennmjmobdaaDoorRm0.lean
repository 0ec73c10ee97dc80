/- Splitting by a loop, plainly. -/
import Derived.Test.YtackennmjmobdaaDoorSpl
namespace Go.Proofs.YtackennmjmobdaaDoor.M
open Go.Lib

/-- Where the loop of a splitting stands: at k, with P laid and a piece begun at f. -/
def SplitInv (c : UInt8) (l : List UInt8) (f k : Nat) (P : List (List UInt8)) : Prop :=
  P.length ≤ f ∧ ((k ≤ l.length ∧ f ≤ k ∧ splitL c l = P ++ splitL c (l.drop f) ∧ ∀ x ∈ (l.drop f).take (k - f), x ≠ c) ∨ (k = l.length + 1 ∧ f = k ∧ splitL c l = P))
theorem inv0 (c : UInt8) (l : List UInt8) : SplitInv c l 0 0 [] := ⟨Nat.le_refl _, .inl ⟨Nat.zero_le _, Nat.le_refl _, by simp, by simp⟩⟩
theorem inv_le {c : UInt8} {l : List UInt8} {f k : Nat} {P : List (List UInt8)} (h : SplitInv c l f k P) : k ≤ l.length + 1 ∧ f ≤ k ∧ P.length ≤ f := by
  obtain ⟨h0, ⟨h1, h2, -, -⟩ | ⟨h1, h2, -⟩⟩ := h <;> omega
theorem inv_end {c : UInt8} {l : List UInt8} {f : Nat} {P : List (List UInt8)} (h : SplitInv c l f l.length P) : SplitInv c l (l.length + 1) (l.length + 1) (P ++ [(l.drop f).take (l.length - f)]) := by
  obtain ⟨h0, ⟨-, h2, h3, h4⟩ | ⟨h1, -⟩⟩ := h
  · have e : (l.drop f).take (l.length - f) = l.drop f := List.take_of_length_le (by simp)
    rw [e] at h4 ⊢
    exact ⟨by simp; omega, .inr ⟨rfl, rfl, by rw [h3, splitL_miss c _ h4]⟩⟩
  · omega
theorem inv_hit {c : UInt8} {l : List UInt8} {f k : Nat} {P : List (List UInt8)} (h : SplitInv c l f k P) (hk : k < l.length) (hc : l[k] = c) : SplitInv c l (k + 1) (k + 1) (P ++ [(l.drop f).take (k - f)]) := by
  obtain ⟨h0, ⟨-, h2, h3, h4⟩ | ⟨h1, -⟩⟩ := h
  · have e : l.drop f = (l.drop f).take (k - f) ++ c :: l.drop (k + 1) := by
      conv => lhs; rw [← List.take_append_drop (k - f) (l.drop f)]
      rw [List.drop_drop, show f + (k - f) = k from by omega, List.drop_eq_getElem_cons hk, hc]
    refine ⟨by simp; omega, .inl ⟨hk, Nat.le_refl _, ?_, by simp⟩⟩
    rw [h3]
    conv => lhs; rw [e, splitL_hit c _ _ h4]
    simp
  · omega
theorem inv_miss {c : UInt8} {l : List UInt8} {f k : Nat} {P : List (List UInt8)} (h : SplitInv c l f k P) (hk : k < l.length) (hc : l[k] ≠ c) : SplitInv c l f (k + 1) P := by
  obtain ⟨h0, ⟨-, h2, h3, h4⟩ | ⟨h1, -⟩⟩ := h
  · refine ⟨h0, .inl ⟨hk, by omega, h3, fun x hx => ?_⟩⟩
    rw [show k + 1 - f = (k - f) + 1 from by omega, List.take_add_one] at hx
    rcases List.mem_append.1 hx with hx | hx
    · exact h4 x hx
    · rw [List.getElem?_drop, show f + (k - f) = k from by omega, List.getElem?_eq_getElem hk] at hx
      simp at hx
      rw [hx]; exact hc
  · omega
theorem inv_fin {c : UInt8} {l : List UInt8} {f : Nat} {P : List (List UInt8)} (h : SplitInv c l f (l.length + 1) P) : P = splitL c l := by
  obtain ⟨h0, ⟨h1, -⟩ | ⟨-, -, h3⟩⟩ := h
  · omega
  · exact h3.symm
end Go.Proofs.YtackennmjmobdaaDoor.M
