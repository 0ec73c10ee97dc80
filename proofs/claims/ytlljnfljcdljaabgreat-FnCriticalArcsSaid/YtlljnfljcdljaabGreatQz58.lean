/- Texts laid together: Pcb. -/
import Derived.Test.YtlljnfljcdljaabGreatQz31
import Derived.Test.YtlljnfljcdljaabGreatQz52
import Derived.Test.YtlljnfljcdljaabGreatQz54
import Derived.Test.YtlljnfljcdljaabGreatQz56
import Derived.Test.YtlljnfljcdljaabGreatQz21
import Derived.Test.YtlljnfljcdljaabGreatQz14
import Derived.Test.YtlljnfljcdljaabGreatQz19
import Derived.Test.YtlljnfljcdljaabGreatQz57
import Derived.Test.YtlljnfljcdljaabGreatQz16
import Derived.Test.YtlljnfljcdljaabGreatQz10
set_option linter.unusedSimpArgs false
set_option linter.unusedVariables false
set_option linter.unusedSectionVars false
namespace Go.Proofs.YtlljnfljcdljaabGreat
namespace M
theorem ca_law {R L : List (List Int)} {N : List Int} {X : List (List Int)} {nc xc : Int} (h1 : arcsRes R = (L, 0)) (h2 : nodesRes R = (N, nc)) (h3 : matRes R = (X, xc)) :
    ∀ k, k < L.length → ∃ j i : Nat, j < R.length ∧ i < R.length ∧ L.getD k [] = [(j : Int), (i : Int)] ∧ (j : Int) ∈ N ∧ (i : Int) ∈ N ∧ X.length = R.length ∧ (X.getD i []).length = R.length ∧ (R.getD i []).length = R.length ∧ (X.getD i []).getD j 0 = (R.getD i []).getD j 0 := by
  have hc : crCode R = 0 := by
    unfold arcsRes at h1
    by_cases e : crCode R = 0
    · exact e
    · rw [if_neg e] at h1; exact congrArg Prod.snd h1
  have e1 : L = arcsL R := by unfold arcsRes at h1; rw [if_pos hc] at h1; exact (congrArg Prod.fst h1).symm
  have e2 : N = nodesL R := by unfold nodesRes at h2; rw [if_pos hc] at h2; exact (congrArg Prod.fst h2).symm
  have e3 : X = crM R := by unfold matRes at h3; rw [if_pos hc] at h3; exact (congrArg Prod.fst h3).symm
  subst e1 e2 e3
  intro k hk
  obtain ⟨j, i, hj, hi, he, hm1, hm2, hf⟩ := arc_ok hc hk
  have hs := (cr_code hc).1
  refine ⟨j, i, hj, hi, he, hm1, hm2, by simp [crM], ?_, ?_, ?_⟩
  · unfold crM; exact mk_rowlen _ _ _ _ hi
  · have := (isMat_t (sqB_t hs).1).2.2.2.2.1 i hi
    rw [this]; exact (sqB_t hs).2.symm
  · show ((mk R.length R.length (crF R)).getD i []).getD j 0 = _
    rw [mk_ent _ _ _ _ _ hi hj]; exact hf
theorem cb_law {R : List (List Int)} {y : List Int} {ok : Bool} (h1 : isCritRes R y = (ok, 0)) (h2 : isCycB R y = true) :
    ∃ L, arcsRes R = (L, 0) ∧ 1 ≤ y.length ∧ y.length ≤ 10 ∧ L.length ≤ 100 ∧ (∀ k, k < L.length → ∃ j i : Nat, L.getD k [] = [(j : Int), (i : Int)]) ∧ (ok = true ↔ ∀ k, k < y.length → ∃ q, q < L.length ∧ L.getD q [] = [y.getD k 0, y.getD ((k + 1) % y.length) 0]) := by
  have hc : crCode R = 0 := by
    unfold isCritRes at h1
    by_cases e : crCode R = 0
    · exact e
    · rw [if_neg e] at h1; exact congrArg Prod.snd h1
  have h3 : arcsRes R = (arcsL R, 0) := by unfold arcsRes; rw [if_pos hc]
  have h100 : (arcsL R).length ≤ 100 := by have := (arcsRes_ok R).2; rw [h3] at this; exact this
  refine ⟨arcsL R, h3, ?_⟩
  have hcy : cycB R y = true := by unfold isCycB at h2; rw [Bool.and_eq_true] at h2; exact h2.2
  obtain ⟨hl, hn, hdf, -⟩ := crCycB_t hcy
  have hR := (sq_sm (cr_code hc).1).2.1
  have hl10 := diffB_len hn hdf
  have hok : ok = crAll R y := by
    unfold isCritRes at h1
    rw [if_pos hc, hcy, Bool.true_and] at h1
    exact (congrArg Prod.fst h1).symm
  refine ⟨hl, by omega, h100, fun k hk => ?_, ?_⟩
  · obtain ⟨j, i, -, -, he, -⟩ := arc_ok hc hk
    exact ⟨j, i, he⟩
  · rw [hok, all_in hn]
    constructor
    · intro h k hk
      obtain ⟨q, hq, e⟩ := List.getElem_of_mem (h k hk)
      exact ⟨q, hq, by rw [List.getD_eq_getElem?_getD, List.getElem?_eq_getElem hq, Option.getD_some]; exact e⟩
    · intro h k hk
      obtain ⟨q, hq, e⟩ := h k hk
      rw [← e, List.getD_eq_getElem?_getD, List.getElem?_eq_getElem hq, Option.getD_some]
      exact List.getElem_mem hq
end M
end Go.Proofs.YtlljnfljcdljaabGreat
