/- Texts laid together: OpenM. -/
import Derived.Test.YtmhpgnndjagogaaGreatRows
import Derived.Test.YtmhpgnndjagogaaGreatQz1
import Derived.Test.YtmhpgnndjagogaaGreatQz2
import Derived.WalkKit
import Derived.ProofKit
import Derived.WalkSmall
import Derived.Deep.QuietTactic
import Derived.BigQuiet
import Derived.BigRegion
import Derived.Deep.Draws
import Derived.Deep.OwnRows
import Derived.Maps.AppendAt
import Derived.Deep.Onto
import Derived.Lib.Hide
import Derived.Deep.Matrix
set_option linter.unusedSimpArgs false
set_option linter.unusedVariables false
set_option linter.unusedSectionVars false
namespace Go.Proofs.YtmhpgnndjagogaaGreat.V
open Go.RowKit Go.ChangeShapes Go.WideShapes Go.Deep

theorem mat_open {H : Type} {enc : TypeId × Value → H} {P : Program} {w : World} {base : Nat} {held : Bool} {t e q : TypeId} {fuel : Nat} {cs : List Value} {x : DataW H × List MemPlace} (ht : P.underlying t = some (.slice e)) (he : P.underlying e = some (.slice q)) (hq : P.underlying q = some (.int .i64))
    (ce : P.cellsOf e = 1) (cq : P.cellsOf q = 1) (h : DataW.trod enc P w base (fun _ => true) held fuel t cs = some x) :
    ∃ a len cap R, cs = [.slice a len cap] ∧ Mat w a len R := by
  rcases open_int_rows ht he hq ce cq h with ⟨rfl, -⟩ | ⟨a, len, cap, A, L, C, Z, rfl, hb, hl, hm, -, hr⟩
  · exact ⟨none, 0, 0, [], rfl, rfl, Nat.zero_le _, .inl rfl⟩
  · refine ⟨some a, len, cap, (List.range len).map fun r => (Z r).take (L r), rfl, by simp, by omega, ?_⟩
    by_cases h0 : len = 0
    · exact .inl h0
    · have hsp : a.spot = none := by
        have := (hr 0 (by omega)).1
        simpa [Addr.add] using World.cell?_spot this
      obtain ⟨b, off, spot⟩ := a
      simp only at hsp
      subst hsp
      refine .inr ⟨b, off, rfl, ?_, fun i hi => ?_⟩
      · have := cell_lt (hr 0 (by omega)).1
        simpa [Addr.add] using this
      · obtain ⟨h1, h2, h3, h4, h5, h6, h7⟩ := hr i (by omega)
        have eR : ((List.range len).map fun r => (Z r).take (L r)).getD i [] = (Z i).take (L i) := by simp [hi]
        rw [eR]
        have eL : ((Z i).take (L i)).length = L i := by rw [List.length_take]; omega
        rw [eL]
        refine ⟨A i, C i, by rw [← Go.WideShapes.add_plain]; exact h1, eL, by omega, ?_⟩
        by_cases hL : L i = 0
        · exact .inl hL
        · cases hA : A i with
          | none => have := h6 hA; omega
          | some a' =>
            obtain ⟨-, hc⟩ := h7 a' hA
            obtain ⟨b', off', rfl, hc'⟩ := ints_at (k := .i64) (zs := Z i) (fun j hj => hc j (by omega)) (by omega)
            refine .inr ⟨b', off', rfl, cell_lt (hc' 0 (by omega)), fun j hj => ?_⟩
            rw [hc' j (by omega)]
            simp [List.getD_eq_getElem?_getD, hj]
end Go.Proofs.YtmhpgnndjagogaaGreat.V
