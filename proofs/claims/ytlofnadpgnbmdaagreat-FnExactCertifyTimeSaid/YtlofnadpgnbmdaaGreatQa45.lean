/- Texts laid together: Cje. -/
import Derived.Test.YtlofnadpgnbmdaaGreatQa44
import Derived.BigQuiet
set_option linter.unusedSimpArgs false
set_option linter.unusedVariables false
set_option linter.unusedSectionVars false
namespace Go.Proofs.YtlofnadpgnbmdaaGreat
namespace M
theorem inN_of {n : Nat} {c : List Int} (h : ∀ i, i < c.length → inN n (c.getD i 0) = true) : nodesB n c = true := List.all_eq_true.2 fun z hz => by
  obtain ⟨i, hi, rfl⟩ := List.mem_iff_getElem.1 hz
  have := h i hi
  rwa [List.getD_eq_getElem?_getD, List.getElem?_eq_getElem hi] at this
theorem inN_no {n : Nat} {c : List Int} {i : Nat} (hi : i < c.length) (h : inN n (c.getD i 0) = false) : nodesB n c = false := by
  cases e : nodesB n c with
  | false => rfl
  | true =>
    have := List.all_eq_true.1 e (c.getD i 0) (by rw [List.getD_eq_getElem?_getD, List.getElem?_eq_getElem hi]; exact List.getElem_mem hi)
    rw [h] at this; cases this
theorem cir_no4 {l : List (Int × Int × Int × Int)} {c : List Int} (h : diffB (c.map (frI l)) = false) : cirB l c = false := by unfold cirB; rw [h]; simp
theorem cir_yes2 {l : List (Int × Int × Int × Int)} {c : List Int} (h1 : 1 ≤ c.length) (h2 : nodesB l.length c = true) (h3 : chnB l c = true) (h4 : diffB (c.map (frI l)) = true) : cirB l c = true := by rw [cir_yes h1 h2 h3, h4]
theorem map_take_has {l : List (Int × Int × Int × Int)} {c : List Int} {k : Nat} (hk : k < c.length) : hasB ((c.map (frI l)).take k) ((c.map (frI l)).getD k 0) = hasB ((c.take k).map (frI l)) (frI l (c.getD k 0)) := by
  rw [map_getD _ hk, List.map_take]
end M
namespace V
set_option maxRecDepth 100000
open Go.RowKit
end V
end Go.Proofs.YtlofnadpgnbmdaaGreat
