/- Texts laid together: Dgj. -/
import Derived.Test.YtphobmddkphofaaQa29
import Derived.Test.YtphobmddkphofaaQa27
import Derived.Test.YtphobmddkphofaaQa28
import Derived.Test.YtphobmddkphofaaQa4
import Derived.Test.YtphobmddkphofaaQa5
import Derived.Test.YtphobmddkphofaaQa15
import Derived.Test.YtphobmddkphofaaQa30
set_option linter.unusedSimpArgs false
set_option linter.unusedVariables false
set_option linter.unusedSectionVars false
namespace Go.Proofs.Ytphobmddkphofaa
namespace M
theorem evS_le (f : Pc → Int) (l : List Pc) (k e : Nat) : evS f l k e ≤ k * e := by
  induction e with
  | zero => exact Nat.le_refl _
  | succ e ih =>
    show evS f l k e + (plcL f l (e : Int) k).length ≤ _
    have := plcL_len f l (e : Int) k
    rw [Nat.mul_succ]
    omega
end M
namespace V
set_option maxRecDepth 100000
open Go.RowKit
def GL (x : Int) (L : List M.Pc) (cd : Int) (w : World) (e : Ending) (w' : World) : Prop :=
  ∃ a n c, e = .returned (.tuple #[.agg #[.int .i64 x, .slice a n c], .int .i64 cd]) ∧ OwnPl w' w.heap.size (.slice a n c) L ∧ Below w.heap.size w w'
theorem ownPl_cap {w : World} {B n cap : Nat} {a : Option Addr} {l : List M.Pc} (h : OwnPl w B (.slice a n cap) l) : n ≤ cap ∧ cap ≤ 9223372036854775807 := by
  obtain ⟨a', c', hv, hc, hm, -⟩ := h.form
  injection hv with e1 e2 e3
  subst e1 e2 e3
  unfold maxLen at hm
  exact ⟨hc, by omega⟩
theorem plc_gr {x y : Int} {l : List M.Pc} {L : List Int} (h : (L, (0 : Int)) = M.plcRes M.pTo x l y) : ∃ N : Nat, x = (N : Int) ∧ M.isGr (N : Int) l = true ∧ l.length ≤ 30 := by
  cases hg : M.isGr x l with
  | false => unfold M.plcRes at h; rw [hg] at h; injection h with _ h; cases h
  | true =>
    obtain ⟨N, hN, -, -⟩ := gr_nat hg
    subst hN
    exact ⟨N, rfl, hg, (gr_N hg).2.2⟩
theorem chg_backR {x i d t e3 : Int} {l L3 : List M.Pc} (h : (e3, L3, (0 : Int)) = M.chgRes x l i d t) : ∃ I : Nat, i = (I : Int) ∧ I < l.length ∧ M.chgRes e3 L3 i (l.getD I M.pz).2.2.1 (l.getD I M.pz).2.2.2 = (x, l, 0) := by
  have h2 : (M.chgRes x l i d t).2.2 = 0 := by rw [← h]
  obtain ⟨k1, k2, k3⟩ := M.chg_back h2
  rw [← h] at k3
  exact ⟨i.toNat, by omega, k2, k3⟩
theorem plc_in {N e : Nat} {l : List M.Pc} (f : M.Pc → Int) (hg : M.isGr (N : Int) l = true) (he : e < N) : M.plcRes f (N : Int) l (e : Int) = (M.plcL f l (e : Int) l.length, 0) := by
  unfold M.plcRes
  rw [if_pos hg, if_pos]
  unfold M.inB
  simp only [Bool.and_eq_true, decide_eq_true_eq]
  omega
theorem placesInto_in {N e : Nat} {l : List M.Pc} {a : Option Addr} {n : Nat} (cap : Nat) (hg : M.isGr (N : Int) l = true) (he : e < N) {w : World} (h : Pls w a n l) :
    Calls Try.prog 19 #[.agg #[.int .i64 N, .slice a n cap], .int .i64 e] w (VL (M.plcL M.pTo l (e : Int) l.length) 0 w) := by
  have := placesInto (N : Int) a n cap l (e : Int) w h
  rw [plc_in _ hg he] at this
  exact this
theorem placesFrom_in {N e : Nat} {l : List M.Pc} {a : Option Addr} {n : Nat} (cap : Nat) (hg : M.isGr (N : Int) l = true) (he : e < N) {w : World} (h : Pls w a n l) :
    Calls Try.prog 21 #[.agg #[.int .i64 N, .slice a n cap], .int .i64 e] w (VL (M.plcL M.pFrom l (e : Int) l.length) 0 w) := by
  have := placesFrom (N : Int) a n cap l (e : Int) w h
  rw [plc_in _ hg he] at this
  exact this
end V
end Go.Proofs.Ytphobmddkphofaa
