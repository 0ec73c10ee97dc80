/- Texts laid together: Grk, Grl, Grm, Grn, Gro, Grp, IMul2. -/
import Derived.Test.YtjbffpmelglegaaQa12
import Derived.Deep.RegionWith
import Derived.Deep.RegionHeld3
import Derived.Deep.DeepCutAuto
import Derived.Test.YtjbffpmelglegaaRows
import Derived.Test.YtjbffpmelglegaaQa1
import Derived.Test.YtjbffpmelglegaaQa2
import Derived.WalkKit
import Derived.ProofKit
import Derived.WalkSmall
import Derived.Deep.QuietTactic
import Derived.BigQuiet
import Derived.BigRegion
import Derived.Deep.Draws
import Derived.Lib.Hide
import Derived.OpenShut
import Derived.Deep.OwnRows
import Derived.Test.YtjbffpmelglegaaQa3
import Derived.Test.YtjbffpmelglegaaQa4
import Derived.Test.YtjbffpmelglegaaQa5
import Derived.StillTailTactics
set_option linter.unusedSimpArgs false
set_option linter.unusedVariables false
set_option linter.unusedSectionVars false
namespace Go.Proofs.Ytjbffpmelglegaa
namespace M
def dropRes (e : Int) (l : List Pc) (i : Int) : Int × List Pc × Int := if isGr e l then (if inB i 0 ((l.length : Int) - 1) then (e, l.take i.toNat ++ l.drop (i.toNat + 1), 0) else (0, [], 2)) else (0, [], 1)
theorem dropRes_len (e : Int) (l : List Pc) (i : Int) : (dropRes e l i).2.1.length ≤ 30 := by
  unfold dropRes
  cases h : isGr e l with
  | false => simp
  | true =>
    have := (isGr_in h).2
    cases h2 : inB i 0 ((l.length : Int) - 1) with
    | false => simp
    | true => simp; omega
theorem drop_cases (e : Int) (l : List Pc) (i : Int) :
    (isGr e l = false ∧ ixCode e l i = 1 ∧ dropRes e l i = (0, [], 1)) ∨ (isGr e l = true ∧ l.length ≤ 30 ∧ inB i 0 ((l.length : Int) - 1) = false ∧ ixCode e l i = 2 ∧ dropRes e l i = (0, [], 2)) ∨
    (∃ k : Nat, i = k ∧ k < l.length ∧ l.length ≤ 30 ∧ isGr e l = true ∧ inB i 0 ((l.length : Int) - 1) = true ∧ ixCode e l i = 0 ∧ dropRes e l i = (e, l.take k ++ l.drop (k + 1), 0)) := by
  unfold ixCode dropRes
  cases h : isGr e l with
  | false => exact .inl ⟨rfl, rfl, rfl⟩
  | true =>
    refine .inr ?_
    cases h2 : inB i 0 ((l.length : Int) - 1) with
    | false => exact .inl ⟨rfl, (isGr_in h).2, rfl, rfl, rfl⟩
    | true =>
      refine .inr ?_
      have h3 := h2
      unfold inB at h3
      simp at h3
      exact ⟨i.toNat, by omega, by omega, (isGr_in h).2, rfl, rfl, rfl, rfl⟩
end M
namespace V
set_option maxRecDepth 100000
open Go.RowKit
theorem Pls.take {w : World} {a : Option Addr} {n : Nat} {l : List M.Pc} (h : Pls w a n l) {k : Nat} (hk : k ≤ n) : Pls w a k (l.take k) := by
  obtain ⟨h1, h2, h3⟩ := h
  refine ⟨by rw [List.length_take]; omega, by omega, ?_⟩
  rcases h3 with h3 | ⟨b, off, rfl, hlt, hc⟩
  · exact .inl (by omega)
  · refine .inr ⟨b, off, rfl, hlt, fun i hi => ?_⟩
    rw [List.getD_eq_getElem?_getD, List.getElem?_take_of_lt hi, ← List.getD_eq_getElem?_getD]
    exact hc i (by omega)
theorem Pls.drop {w : World} {b off n : Nat} {l : List M.Pc} (h : Pls w (some ⟨b, off, none⟩) n l) {k : Nat} (hk : k ≤ n) : Pls w (some ⟨b, off + k * 4, none⟩) (n - k) (l.drop k) := by
  obtain ⟨h1, h2, h3⟩ := h
  refine ⟨by rw [List.length_drop]; omega, by omega, ?_⟩
  rcases h3 with h3 | ⟨b', off', e, hlt, hc⟩
  · exact .inl (by omega)
  · injection e with e
    injection e with e1 e2
    subst e1 e2
    refine .inr ⟨b, off + k * 4, rfl, hlt, fun i hi => ?_⟩
    rw [List.getD_eq_getElem?_getD, List.getElem?_drop, ← List.getD_eq_getElem?_getD]
    have := hc (k + i) (by omega)
    rw [show off + (k + i) * 4 = off + k * 4 + i * 4 by omega] at this
    exact this
end V
end Go.Proofs.Ytjbffpmelglegaa

namespace Go.Proofs.Ytjbffpmelglegaa
namespace V
set_option maxRecDepth 100000
open Go.RowKit
theorem run_append_zero (w : World) (base : Option Addr) (n c : Nat) (p : Option Addr) (c2 : Nat) (hnc : n ≤ c) (ty : TypeId) :
    (Builtin.append_ #[39, 39] ty #[.slice base n c, .slice p 0 c2]).run Try.prog w = .ok (.slice base n c) w := by
  obtain ⟨i0, hi, hz0, hz1, hz2⟩ := infoP_parts
  have ht := Try.underlying39
  cases p with
  | none =>
    cases base with
    | none => simp [Builtin.append_, run_underlying ht, sizeOf, typeInfo, zeroValue, hi, hz0, Builtin.lenOf, hnc, Question.forced, run_firstCells_none, storeCells]
    | some b => simp [Builtin.append_, run_underlying ht, sizeOf, typeInfo, zeroValue, hi, hz0, Builtin.lenOf, hnc, Question.forced, run_firstCells_none, storeCells]
  | some a =>
    have hf := run_firstCells_some (P := Try.prog) w i0.size 0 a 0 c2 [] (by simp) (by simp)
    cases base with
    | none => simp [Builtin.append_, run_underlying ht, sizeOf, typeInfo, zeroValue, hi, hz0, Builtin.lenOf, hnc, Question.forced, hf, storeCells]
    | some b => simp [Builtin.append_, run_underlying ht, sizeOf, typeInfo, zeroValue, hi, hz0, Builtin.lenOf, hnc, Question.forced, hf, storeCells]
end V
end Go.Proofs.Ytjbffpmelglegaa

namespace Go.Proofs.Ytjbffpmelglegaa
namespace V
set_option maxRecDepth 100000
open Go.RowKit
end V
end Go.Proofs.Ytjbffpmelglegaa

namespace Go.Proofs.Ytjbffpmelglegaa
namespace M
def addpRes (e : Int) (l : List Pc) (p : Pc) : Int × List Pc × Int := if isGr e l then (if plW (e - 1) p then (if l.length = 30 then (0, [], 3) else (e, l ++ [p], 0)) else (0, [], 2)) else (0, [], 1)
theorem addpRes_len (e : Int) (l : List Pc) (p : Pc) : (addpRes e l p).2.1.length ≤ 30 := by
  unfold addpRes
  cases h : isGr e l with
  | false => simp
  | true =>
    have := (isGr_in h).2
    cases h2 : plW (e - 1) p with
    | false => simp
    | true =>
      by_cases h3 : l.length = 30
      · simp [h3]
      · simp [h3]; omega
theorem add_cases (e : Int) (l : List Pc) (p : Pc) :
    (isGr e l = false ∧ addpRes e l p = (0, [], 1)) ∨ (isGr e l = true ∧ inB e 1 10 = true ∧ plW (e - 1) p = false ∧ addpRes e l p = (0, [], 2)) ∨
    (isGr e l = true ∧ inB e 1 10 = true ∧ plW (e - 1) p = true ∧ l.length = 30 ∧ addpRes e l p = (0, [], 3)) ∨ (isGr e l = true ∧ inB e 1 10 = true ∧ plW (e - 1) p = true ∧ l.length < 30 ∧ addpRes e l p = (e, l ++ [p], 0)) := by
  unfold addpRes
  cases h : isGr e l with
  | false => exact .inl ⟨rfl, rfl⟩
  | true =>
    refine .inr ?_
    have := (isGr_in h).2
    cases h2 : plW (e - 1) p with
    | false => exact .inl ⟨rfl, (isGr_in h).1, rfl, rfl⟩
    | true =>
      refine .inr ?_
      by_cases h3 : l.length = 30
      · exact .inl ⟨rfl, (isGr_in h).1, rfl, h3, by simp [h3]⟩
      · exact .inr ⟨rfl, (isGr_in h).1, rfl, by omega, by simp [h3]⟩
end M
namespace V
set_option maxRecDepth 100000
open Go.RowKit
theorem step_append_run (w : World) {ops : Array Oper} {o : Oper} {a : Act} {K : Act → World → Prop} {Q : Exit → Act → World → Prop} {E : Prop} (hgd : o.guard = none) (s x : Operand) (t tn : TypeId)
    (ho : o.op = .call { callee := .builtin .append, args := #[s, x], argTypes := #[t, tn] }) (vs vx : Value) (hs : a.eval s = vs) (hx : a.eval x = vx)
    (v' : Value) (w' : World) (hr : (Builtin.append_ #[t, tn] o.type #[vs, vx]).run Try.prog w = .ok v' w') (h : K (a.put o.dst v') w') :
    if Region.wanted o (yielded ops a.tmps) = true then Oper.wp Try.prog o a w K Q else E := by
  have hw : Region.wanted o (yielded ops a.tmps) = true := by simp [Region.wanted, hgd]
  rw [if_pos hw]
  exact Lib.wp_append_run w s x t tn ho vs vx hs hx v' w' hr h
/-- The box of a place. -/
def PBox (w : World) (g : Nat) (p0 p1 p2 p3 : Int) : Prop := w.cell? ⟨g, 0, none⟩ = some (.int .i64 p0) ∧ w.cell? ⟨g, 1, none⟩ = some (.int .i64 p1) ∧ w.cell? ⟨g, 2, none⟩ = some (.int .i64 p2) ∧ w.cell? ⟨g, 3, none⟩ = some (.int .i64 p3)
theorem PBox.below {w w' : World} {g : Nat} {p0 p1 p2 p3 : Int} (h : PBox w g p0 p1 p2 p3) (hb : Below w.heap.size w w') : PBox w' g p0 p1 p2 p3 :=
  ⟨(hb.cell (cell_lt h.1)).trans h.1, (hb.cell (cell_lt h.2.1)).trans h.2.1, (hb.cell (cell_lt h.2.2.1)).trans h.2.2.1, (hb.cell (cell_lt h.2.2.2)).trans h.2.2.2⟩
end V
end Go.Proofs.Ytjbffpmelglegaa

namespace Go.Proofs.Ytjbffpmelglegaa
namespace V
set_option maxRecDepth 100000
open Go.RowKit
end V
end Go.Proofs.Ytjbffpmelglegaa

namespace Go.Proofs.Ytjbffpmelglegaa
namespace V
set_option maxRecDepth 100000
open Go.RowKit
/-- A box sb of a graph whose places lie in memory of their own. -/
def SRel (w1 wx : World) (s : Value) (x : Int) (l : List M.Pc) : Prop :=
  ∃ (sb : Nat) (sa : Option Addr) (sn sc B : Nat) (w0 : World), s = .pointer (some ⟨sb, 0, none⟩) ∧ GBox wx sb x sa sn sc ∧ w1.heap.size ≤ sb ∧ w1.heap.size ≤ B ∧ B ≤ wx.heap.size ∧ OwnPl w0 B (.slice sa sn sc) l ∧ w0.heap.size ≤ wx.heap.size ∧ Same B w0.heap.size w0 wx ∧ ¬ (B ≤ sb ∧ sb < w0.heap.size) ∧ Below w1.heap.size w1 wx
theorem sRel_new {w1 wv : World} {sa : Option Addr} {sn sc B : Nat} {x : Int} {l : List M.Pc} {t : TypeId} (hO : OwnPl wv B (.slice sa sn sc) l) (hB : w1.heap.size ≤ B) (hB2 : B ≤ wv.heap.size) (hb : Below w1.heap.size w1 wv) : SRel w1 (wv.alloc (.cells #[.int .i64 x, .slice sa sn sc] t)) (.pointer (some ⟨wv.heap.size, 0, none⟩)) x l :=
  ⟨wv.heap.size, sa, sn, sc, B, wv, rfl, gBox_new _ _ _ _ _ _, hb.size, hB, by simp; omega, hO, by simp, fun k _ q2 => Below.heap_alloc wv _ _ q2, by omega, hb.trans ((b_alloc wv _).mono hb.size)⟩
theorem sRel_old {w1 wv : World} {sa : Option Addr} {sb sn sc B : Nat} {x : Int} {l : List M.Pc} (hR : ResG wv sb) (hs1 : w1.heap.size ≤ sb) (hs : sb < B) (hB2 : B ≤ wv.heap.size) (hO : OwnPl wv B (.slice sa sn sc) l) (hb : Below w1.heap.size w1 wv) : SRel w1 ((wv.setCell ⟨sb, 0, none⟩ (.int .i64 x)).setCell ⟨sb, 1, none⟩ (.slice sa sn sc)) (.pointer (some ⟨sb, 0, none⟩)) x l := by
  obtain ⟨r0, r1, -, -⟩ := hR
  refine ⟨sb, sa, sn, sc, B, wv, rfl, ⟨by simp [go_sem, r0, r1, cell_lt r0], by simp [go_sem, r0, r1, cell_lt r0]⟩, hs1, by omega, by simpa using hB2, hO, by simp, fun k q1 q2 => ?_, by omega, (hb.setCell (p := ⟨sb, 0, none⟩) hs1 _).setCell (p := ⟨sb, 1, none⟩) hs1 _⟩
  rw [Below.heap_setCell _ _ _ _ (by show k ≠ sb; omega), Below.heap_setCell _ _ _ _ (by show k ≠ sb; omega)]
theorem resG_dr (w : World) (t : TypeId) : ResG (w.alloc (.cells #[.int .i64 0, .slice none 0 0] t)).drew w.heap.size := ⟨by simp [go_sem], by simp [go_sem], by simp [go_sem], by simp [go_sem]⟩
end V
end Go.Proofs.Ytjbffpmelglegaa

namespace Go.Proofs.Ytjbffpmelglegaa.V
open Go.RowKit

end Go.Proofs.Ytjbffpmelglegaa.V
