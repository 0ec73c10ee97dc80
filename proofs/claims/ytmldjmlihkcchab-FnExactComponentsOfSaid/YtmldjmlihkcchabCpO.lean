/- The components are few and short. -/
import Derived.Test.YtmldjmlihkcchabCps
namespace Go.Proofs.Ytmldjmlihkcchab
namespace M
theorem pre_sum (L : List (List Int)) : pre L L.length = sumLen L := by
  unfold pre
  rw [List.take_length]
  induction L with
  | nil => rfl
  | cons l L ih => rw [List.map_cons, List.sum_cons, ih]; rfl
theorem cmps_ok (R : List (List Int)) : pre (cmpsRes R).1 (cmpsRes R).1.length ≤ 100 ∧ (cmpsRes R).1.length ≤ 10 := by
  unfold cmpsRes
  by_cases h : sqB R = true
  · rw [if_pos h]
    obtain ⟨n1, n2, -⟩ := sq_sm h
    refine ⟨?_, ?_⟩
    · show pre (compsL _ _) (compsL _ _).length ≤ 100
      rw [pre_sum, sum_compsL]; omega
    · have := compsP_len (ent R) R.length R.length
      show (compsL _ _).length ≤ 10
      unfold compsL; omega
  · rw [if_neg h]; exact ⟨by unfold pre; simp, by simp⟩
end M
end Go.Proofs.Ytmldjmlihkcchab
