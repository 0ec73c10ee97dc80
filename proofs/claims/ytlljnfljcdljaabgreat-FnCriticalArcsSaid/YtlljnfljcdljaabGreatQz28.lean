/- Texts laid together: Cmc. -/
import Derived.Test.YtlljnfljcdljaabGreatQz19
import Derived.Test.YtlljnfljcdljaabGreatQz21
import Derived.Test.YtlljnfljcdljaabGreatQz25
import Derived.Test.YtlljnfljcdljaabGreatQz27
set_option linter.unusedSimpArgs false
set_option linter.unusedVariables false
set_option linter.unusedSectionVars false
namespace Go.Proofs.YtlljnfljcdljaabGreat
namespace M
theorem crRow {R : List (List Int)} {n k : Nat} (hn : R.length = n) (hk : k < (compsL (ent (crM R)) n).length) :
    1 ≤ ((compsL (ent (crM R)) n).getD k []).length ∧ hasB (nodesL R) (((compsL (ent (crM R)) n).getD k []).getD 0 0) = crN R (vx ((compsL (ent (crM R)) n).getD k []) 0) := by
  have hm : (compsL (ent (crM R)) n).getD k [] ∈ compsL (ent (crM R)) n := by rw [List.getD_eq_getElem?_getD, List.getElem?_eq_getElem hk]; exact List.getElem_mem hk
  generalize (compsL (ent (crM R)) n).getD k [] = l at hm ⊢
  obtain ⟨v, hv, -, rfl⟩ := mem_compsP.1 hm
  have hp := compL_pos (A := ent (crM R)) hv
  refine ⟨hp, ?_⟩
  obtain ⟨x, hx, -, ex⟩ := compL_at (k := 0) hp
  unfold vx
  rw [ex]
  apply Bool.eq_iff_iff.2
  rw [hasB_iff, mem_nodesL]
  constructor
  · rintro ⟨f, hf, hc, e⟩
    obtain rfl : x = f := by omega
    simpa using hc
  · intro h; exact ⟨x, by omega, by simpa using h, rfl⟩
def crPick (R : List (List Int)) (l : List Int) : Bool := crN R (vx l 0)
theorem crM_sm {R : List (List Int)} (hs : sqB R = true) {n : Nat} (hn : R.length = n) : ∀ i j, i < n → j < n → Sm 1000000 (ent (crM R) i j) := by
  intro i j hi hj
  obtain ⟨-, -, hA⟩ := sq_sm hs
  subst hn
  unfold crM
  rw [ent_mk _ _ _ _ _ hi hj]
  unfold crF
  split
  · exact hA i j hi hj
  · exact .inl rfl
theorem crComps_ids {R : List (List Int)} {n : Nat} (hn : R.length = n) : (idsK (compsL (ent (crM R)) n) (crPick R) (compsL (ent (crM R)) n).length).map (fun i => (compsL (ent (crM R)) n).getD i []) = crComps R := by
  subst hn
  exact filter_ids _ _
end M
namespace V
set_option maxRecDepth 100000
open Go.RowKit
end V
end Go.Proofs.YtlljnfljcdljaabGreat
