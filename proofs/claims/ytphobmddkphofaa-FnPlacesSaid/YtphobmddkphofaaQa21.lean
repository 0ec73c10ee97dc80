/- Texts laid together: Lvi. -/
import Derived.Test.YtphobmddkphofaaQa20
import Derived.Test.YtphobmddkphofaaQa11
import Derived.Test.YtphobmddkphofaaQa12
import Derived.Deep.RegionHeld3
import Derived.StillTailTactics
set_option linter.unusedSimpArgs false
set_option linter.unusedVariables false
set_option linter.unusedSectionVars false
namespace Go.Proofs.Ytphobmddkphofaa
namespace M
def levRes (x : Int) (l : List Pc) : List Int × Int := if isGr x l then (if liveB (wtF fOne l) x.toNat then (levL (wtF fOne l) x.toNat, 0) else ([], 5)) else ([], 1)
theorem levRes_len (x : Int) (l : List Pc) : (levRes x l).1.length ≤ 30 := by
  unfold levRes
  split
  · next h =>
    split
    · have hx : x.toNat ≤ 10 := by
        unfold isGr inB at h
        simp only [Bool.and_eq_true, decide_eq_true_eq] at h
        omega
      show (levL (wtF fOne l) x.toNat).length ≤ 30
      simp [levL]; omega
    · simp
  · simp
theorem lev_none {x : Int} {l : List Pc} (h : lvCode x l ≠ 0) : levRes x l = ([], lvCode x l) := by
  have h2 := lv_none h
  unfold ordRes at h2
  unfold levRes
  split
  · next hg =>
    rw [if_pos hg] at h2
    split
    · next hl => rw [if_pos hl] at h2; exact absurd (Prod.mk.inj h2).2.symm h
    · next hl => rw [if_neg hl] at h2; exact h2
  · next hg => rw [if_neg hg] at h2; exact h2
end M
namespace V
set_option maxRecDepth 100000
open Go.RowKit
theorem M.topN_sum (f : Nat → Int) (h : -1000000000000000 ≤ f 0) (m : Nat) : M.topN f m = M.sumN (m + 1) f := by
  induction m with
  | zero => show f 0 = max (-1000000000000000) (f 0); omega
  | succ m ih => show max _ _ = max _ _; rw [ih]
theorem M.top_lev {l : List M.Pc} {N i : Nat} (n1 : 1 ≤ N) (n2 : N ≤ 10) (hp : M.noPos (M.wtF M.fOne l) N = true) (hi : i < N) : M.topN (fun j => ((M.starM (M.wtM M.fOne N l) N).getD i []).getD j 0) (N - 1) = M.lev (M.wtF M.fOne l) N i := by
  have hs : ∀ j, j < N → ((M.starM (M.wtM M.fOne N l) N).getD i []).getD j 0 = M.starF (M.wtF M.fOne l) N i j := fun j hj => M.wt_star M.fOne hi hj
  have h0 := M.star_sm n2 (fun i j _ _ => M.uz_sm (M.uz_graph l) i j) hp hi (j := 0) n1
  rw [M.topN_sum _ (by rw [hs 0 n1]; unfold M.Sm at h0; omega), show N - 1 + 1 = N by omega]
  exact M.sumN_congr hs
theorem keep2 {w0 w1 w2 : World} {G : Nat} {i j : Nat} {p q : Value} (h : w1.cell? ⟨G, i, none⟩ = some p ∧ w1.cell? ⟨G, j, none⟩ = some q ∧ Below w0.heap.size w0 w1) (hb : Below w1.heap.size w1 w2) :
    w2.cell? ⟨G, i, none⟩ = some p ∧ w2.cell? ⟨G, j, none⟩ = some q ∧ Below w0.heap.size w0 w2 := by
  obtain ⟨h1, h2, h5⟩ := h
  exact ⟨(hb.cell (cell_lt h1)).trans h1, (hb.cell (cell_lt h2)).trans h2, h5.trans (hb.mono h5.size)⟩
end V
end Go.Proofs.Ytphobmddkphofaa
