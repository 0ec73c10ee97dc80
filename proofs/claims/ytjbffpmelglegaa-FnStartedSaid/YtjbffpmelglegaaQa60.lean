/- Texts laid together: Rcw. -/
import Derived.Test.YtjbffpmelglegaaQa57
set_option linter.unusedSimpArgs false
set_option linter.unusedVariables false
set_option linter.unusedSectionVars false
namespace Go.Proofs.Ytjbffpmelglegaa
namespace M
theorem stRes_ok (x : Int) (l : List Pc) (n : Int) (S : List Int) : pre (stRes x l n S).1 (stRes x l n S).1.length ≤ 2000 ∧ (stRes x l n S).1.length ≤ 101 := by
  unfold stRes
  by_cases h : inCode (lvCode x l) (inB n 0 50 && tmsB x S) = 0
  · rw [if_pos h]
    obtain ⟨h1, h2⟩ := inCode_t h
    rw [Bool.and_eq_true] at h2
    have hx : x.toNat ≤ 10 := by
      have := (lv_zero h1).1
      unfold isGr inB at this
      simp only [Bool.and_eq_true, decide_eq_true_eq] at this
      omega
    have hn : n.toNat ≤ 50 := by
      have h2 := h2.1
      unfold inB at h2
      simp only [Bool.and_eq_true, decide_eq_true_eq] at h2
      omega
    split
    · show pre (mk _ _ _) (mk _ _ _).length ≤ 2000 ∧ (mk _ _ _).length ≤ 101
      rw [pre_mk, mk_length]
      have : n.toNat * x.toNat ≤ 50 * 10 := Nat.mul_le_mul hn hx
      omega
    · exact ⟨by simp [pre], by simp⟩
  · rw [if_neg h]
    exact ⟨by simp [pre], by simp⟩
end M
end Go.Proofs.Ytjbffpmelglegaa
