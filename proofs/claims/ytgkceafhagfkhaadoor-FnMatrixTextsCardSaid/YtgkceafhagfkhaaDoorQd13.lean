/- Texts laid together: Rm5, OpenM. -/
import Derived.Test.YtgkceafhagfkhaaDoorRows
import Derived.Test.YtgkceafhagfkhaaDoorQd1
import Derived.Test.YtgkceafhagfkhaaDoorQd3
import Derived.Test.YtgkceafhagfkhaaDoorQd4
import Derived.Test.YtgkceafhagfkhaaDoorQd5
import Derived.Test.YtgkceafhagfkhaaDoorQd2
import Derived.Test.YtgkceafhagfkhaaDoorQd9
import Derived.Test.YtgkceafhagfkhaaDoorQd10
import Derived.Test.YtgkceafhagfkhaaDoorQd12
import Derived.Test.YtgkceafhagfkhaaDoorQd6
import Derived.Test.YtgkceafhagfkhaaDoorQd7
import Derived.WalkKit
import Derived.ProofKit
import Derived.WalkSmall
import Derived.Deep.QuietTactic
import Derived.BigQuiet
import Derived.BigRegion
import Derived.Deep.Draws
import Derived.Deep.OwnRows
import Derived.Lib.Hide
import Derived.Maps.AppendAt
import Derived.Deep.Onto
import Derived.Deep.Matrix
set_option linter.unusedSimpArgs false
set_option linter.unusedVariables false
set_option linter.unusedSectionVars false
namespace Go.Proofs.YtgkceafhagfkhaaDoor.V
open Go.RowKit

set_option maxRecDepth 100000 in
set_option maxHeartbeats 1000000 in
theorem drawMatrixText (a : Option Addr) (n cap : Nat) (w : World) (h : Bytes w a n) :
    Calls Tryd.prog 7 #[.slice a n cap] w (DrawnM w) := by
  have HB := Lib.hid h
  clear h
  go_enter Tryd.func7, Tryd.ntmps7
  go_wp2_with fail
  refine (from_ _ _ _ _ HB.out).mono ?_
  rintro e w1 ⟨rfl, hs1, hb1⟩
  have HS1 := Lib.hid hs1
  have HB1 := Lib.hid hb1
  clear hs1 hb1
  go_wp2_with fail
  refine (draw _ _ HS1.out).mono ?_
  rintro e w2 ⟨a2, n2, c2, R, rfl, ho, hs2, ht2⟩
  have HO := Lib.hid ho.mat
  have HB2 := Lib.hid (HB1.out.trans ht2.below)
  clear ho hs2 ht2
  go_wp2
  go_ret
  exact ⟨a2, n2, c2, R, rfl, HO.out, HB2.out⟩

set_option maxRecDepth 100000 in
set_option maxHeartbeats 1000000 in
theorem drawReadMatrix (a : Option Addr) (n cap : Nat) (w : World) (h : Bytes w a n) :
    Calls Tryd.prog 10 #[.slice a n cap] w (DrawnS w) := by
  have HB := Lib.hid h
  clear h
  go_enter Tryd.func10, Tryd.ntmps10
  go_wp2_with fail
  refine (from_ _ _ _ _ HB.out).mono ?_
  rintro e w1 ⟨rfl, hs1, hb1⟩
  have HS1 := Lib.hid hs1
  have HB1 := Lib.hid hb1
  clear hs1 hb1
  go_wp2_with fail
  refine (draw _ _ HS1.out).mono ?_
  rintro e w2 ⟨a2, n2, c2, R, rfl, ho, hs2, ht2⟩
  have HO := Lib.hid ho.mat
  have HS2 := Lib.hid hs2
  have HB2 := Lib.hid (HB1.out.trans ht2.below)
  clear ho hs2 ht2
  go_wp2_with fail
  refine (sMatrixText _ _ _ _ _ HO.out).mono ?_
  rintro e w3 ⟨t, rfl, ht, hb3⟩
  have htl : t.size ≤ 2110 := by
    rw [ht]
    have := mtxt_len R
    simpa [ByteArray.size] using this
  have HS3 := Lib.hid (HS2.out.below (hb3.mono (by have := HS2.out.lt; omega)))
  have HB3 := Lib.hid (HB2.out.trans (hb3.mono HB2.out.size))
  clear hb3 ht
  go_wp2_with fail
  refine (next _ _ _ (by decide) HS3.out).mono ?_
  rintro e w4 ⟨c, rfl, hc1, hc2, hs4, ht4⟩
  have HS4 := Lib.hid hs4
  have HB4 := Lib.hid (HB3.out.trans ht4.below)
  clear hs4 ht4 hc2
  by_cases h0 : c = 0
  · subst h0
    go_wp2_with fail
    refine (damage _ t _ HS4.out (by omega)).mono ?_
    rintro e w5 ⟨u, rfl, hu, hs5, ht5⟩
    have HB5 := Lib.hid (HB4.out.trans ht5.below)
    clear hs5 ht5
    go_wp2
    go_ret
    exact ⟨_, rfl, by omega, HB5.out⟩
  · have e0 : (c == 0) = false := by simp; omega
    go_wp2
    go_ret
    exact ⟨_, rfl, by omega, HB4.out⟩
end Go.Proofs.YtgkceafhagfkhaaDoor.V

namespace Go.Proofs.YtgkceafhagfkhaaDoor.V
open Go.RowKit Go.ChangeShapes Go.WideShapes Go.Deep

theorem mat_open {H : Type} {enc : TypeId × Value → H} {P : Program} {w : World} {base : Nat} {held : Bool} {t e q : TypeId} {fuel : Nat} {cs : List Value} {x : DataW H × List MemPlace} (ht : P.underlying t = some (.slice e)) (he : P.underlying e = some (.slice q)) (hq : P.underlying q = some (.int .i64))
    (ce : P.cellsOf e = 1) (cq : P.cellsOf q = 1) (h : DataW.trod enc P w base (fun _ => true) held fuel t cs = some x) :
    ∃ a len cap R, cs = [.slice a len cap] ∧ Mat w a len R := by
  rcases open_int_rows ht he hq ce cq h with ⟨rfl, -⟩ | ⟨a, len, cap, A, L, C, Z, rfl, hb, hl, hm, -, hr⟩
  · exact ⟨none, 0, 0, [], rfl, rfl, Nat.zero_le _, .inl rfl⟩
  · refine ⟨some a, len, cap, (List.range len).map fun r => (Z r).take (L r), rfl, by simp, by omega, ?_⟩
    by_cases h0 : len = 0
    · exact .inl h0
    · have hsp : a.spot = none := by
        have := (hr 0 (by omega)).1
        simpa [Addr.add] using World.cell?_spot this
      obtain ⟨b, off, spot⟩ := a
      simp only at hsp
      subst hsp
      refine .inr ⟨b, off, rfl, ?_, fun i hi => ?_⟩
      · have := cell_lt (hr 0 (by omega)).1
        simpa [Addr.add] using this
      · obtain ⟨h1, h2, h3, h4, h5, h6, h7⟩ := hr i (by omega)
        have eR : ((List.range len).map fun r => (Z r).take (L r)).getD i [] = (Z i).take (L i) := by simp [hi]
        rw [eR]
        have eL : ((Z i).take (L i)).length = L i := by rw [List.length_take]; omega
        rw [eL]
        refine ⟨A i, C i, by rw [← Go.WideShapes.add_plain]; exact h1, eL, by omega, ?_⟩
        by_cases hL : L i = 0
        · exact .inl hL
        · cases hA : A i with
          | none => have := h6 hA; omega
          | some a' =>
            obtain ⟨-, hc⟩ := h7 a' hA
            obtain ⟨b', off', rfl, hc'⟩ := ints_at (k := .i64) (zs := Z i) (fun j hj => hc j (by omega)) (by omega)
            refine .inr ⟨b', off', rfl, cell_lt (hc' 0 (by omega)), fun j hj => ?_⟩
            rw [hc' j (by omega)]
            simp [List.getD_eq_getElem?_getD, hj]
end Go.Proofs.YtgkceafhagfkhaaDoor.V
