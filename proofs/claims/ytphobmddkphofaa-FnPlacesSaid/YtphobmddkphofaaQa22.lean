/- Texts laid together: Lvs. -/
import Derived.Test.YtphobmddkphofaaQa17
import Derived.Test.YtphobmddkphofaaQa4
set_option linter.unusedSimpArgs false
set_option linter.unusedVariables false
set_option linter.unusedSectionVars false
namespace Go.Proofs.Ytphobmddkphofaa
namespace M
/-- No place leads to the event. -/
def noInto (l : List Pc) (ev : Int) : Bool := l.all fun p => decide (p.2.1 ≠ ev)
def srcL (l : List Pc) (k : Nat) : List Int := ((List.range k).filter fun e : Nat => noInto l (e : Int)).map fun e : Nat => (e : Int)
def srcRes (x : Int) (l : List Pc) : List Int × Int := if isGr x l then (srcL l x.toNat, 0) else ([], 1)
theorem srcL_next (l : List Pc) (k : Nat) : srcL l (k + 1) = if noInto l (k : Int) then srcL l k ++ [(k : Int)] else srcL l k := by
  unfold srcL
  rw [List.range_succ, List.filter_append, List.map_append]
  cases h : noInto l (k : Int) with
  | true => rw [if_pos rfl, List.filter_cons_of_pos (by rw [h])]; rfl
  | false => rw [if_neg (by simp), List.filter_cons_of_neg (by rw [h]; simp)]; simp
theorem srcL_len (l : List Pc) (k : Nat) : (srcL l k).length ≤ k := by
  unfold srcL
  rw [List.length_map]
  exact Nat.le_trans (List.length_filter_le _ _) (by simp)
theorem srcRes_len (x : Int) (l : List Pc) : (srcRes x l).1.length ≤ 30 := by
  unfold srcRes
  split
  · next h =>
    have hx : x.toNat ≤ 10 := by
      unfold isGr inB at h
      simp only [Bool.and_eq_true, decide_eq_true_eq] at h
      omega
    have := srcL_len l x.toNat
    show (srcL l x.toNat).length ≤ 30
    omega
  · simp
theorem noInto_plc (l : List Pc) (ev : Int) : decide ((plcL pTo l ev l.length).length = 0) = noInto l ev := by
  unfold plcL noInto
  rw [List.length_map]
  rw [Bool.eq_iff_iff, decide_eq_true_eq, List.length_eq_zero_iff, List.filter_eq_nil_iff, List.all_eq_true]
  constructor
  · intro h p hp
    obtain ⟨i, hi, rfl⟩ := List.mem_iff_getElem.1 hp
    have := h i (List.mem_range.2 hi)
    rw [List.getD_eq_getElem?_getD, List.getElem?_eq_getElem hi] at this
    exact decide_eq_true (fun q => this (decide_eq_true q))
  · intro h i hi
    have hi := List.mem_range.1 hi
    have := h l[i] (List.getElem_mem hi)
    rw [List.getD_eq_getElem?_getD, List.getElem?_eq_getElem hi]
    exact fun q => of_decide_eq_true this (of_decide_eq_true q)
end M
namespace V
set_option maxRecDepth 100000
open Go.RowKit
end V
end Go.Proofs.Ytphobmddkphofaa
