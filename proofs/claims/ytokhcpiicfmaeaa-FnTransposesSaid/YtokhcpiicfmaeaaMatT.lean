/- Plain facts on transposes and on products with a column. -/
import Derived.Test.YtokhcpiicfmaeaaMatM
namespace Go.Proofs.Ytokhcpiicfmaeaa
namespace M
theorem times_comm (a b : Int) : times a b = times b a := by
  unfold times
  by_cases h : a = -1000000000000000 ∨ b = -1000000000000000
  · rw [if_pos h, if_pos (Or.symm h)]
  · rw [if_neg h, if_neg (fun h2 => h (Or.symm h2)), Int.add_comm]
theorem trans_trans {R : List (List Int)} (h : isMat R = true) : transM (transM R) = R := by
  obtain ⟨m1, m2, c1, c2, h5, -⟩ := isMat_t h
  have hl : (transM R).length = wid R := mk_length _ _ _
  have hw : wid (transM R) = R.length := mk_wid _ _ _ (by omega)
  show mk (wid (transM R)) (transM R).length (fun i j => ent (transM R) j i) = R
  rw [hl, hw]
  refine Eq.trans (mk_congr fun i hi j hj => ?_) (mk_self R (wid R) h5)
  unfold transM
  rw [ent_mk _ _ _ _ _ hj hi]
theorem transRes_back {R : List (List Int)} (h : isMat R = true) : transRes (transM R) = (R, 0) := by
  unfold transRes
  rw [if_pos (transM_ok h), trans_trans h]
theorem dot_turn (R : List (List Int)) (h : isMat R = true) (i j k : Nat) (hi : i < R.length) (hj : j < R.length) (hk : k ≤ wid R) : dot R (transM R) i j k = dot R (transM R) j i k := by
  unfold dot
  refine sumN_congr fun t ht => ?_
  unfold transM
  rw [ent_mk _ _ _ _ _ (by omega) hj, ent_mk _ _ _ _ _ (by omega) hi, times_comm]
theorem mul_turn {R : List (List Int)} (h : isMat R = true) : transM (mulM R (transM R)) = mulM R (transM R) := by
  obtain ⟨m1, m2, c1, c2, h5, -⟩ := isMat_t h
  have hl : (transM R).length = wid R := mk_length _ _ _
  have hw : wid (transM R) = R.length := mk_wid _ _ _ (by omega)
  have hm : mulM R (transM R) = mk R.length R.length (fun i j => dot R (transM R) i j (wid R)) := by unfold mulM; rw [hl, hw]
  rw [hm]
  show mk (wid (mk _ _ _)) (mk _ _ _).length (fun i j => ent (mk _ _ _) j i) = _
  rw [mk_length, mk_wid _ _ _ (by omega)]
  refine mk_congr fun i hi j hj => ?_
  rw [ent_mk _ _ _ _ _ hj hi]
  exact dot_turn R h j i _ hj hi (Nat.le_refl _)
theorem mulRes_turn {R : List (List Int)} (h : isMat R = true) : mulRes R (transM R) = ([], 3) ∨ (isMat (mulM R (transM R)) = true ∧ mulRes R (transM R) = (mulM R (transM R), 0) ∧ transRes (mulM R (transM R)) = (mulM R (transM R), 0)) := by
  have hl : (transM R).length = wid R := mk_length _ _ _
  unfold mulRes
  rw [h, transM_ok h, if_pos (by rfl), if_pos hl.symm]
  by_cases hM : isMat (mulM R (transM R)) = true
  · right
    refine ⟨hM, if_pos hM, ?_⟩
    unfold transRes
    rw [if_pos hM, mul_turn h]
  · left
    rw [if_neg hM]
end M
end Go.Proofs.Ytokhcpiicfmaeaa
