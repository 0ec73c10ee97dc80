/- Texts laid together: Frp. -/
import Derived.Test.YtjbffpmelglegaaQa10
set_option linter.unusedSimpArgs false
set_option linter.unusedVariables false
set_option linter.unusedSectionVars false
namespace Go.Proofs.Ytjbffpmelglegaa
namespace M
/-- Event, Number, Time. -/
abbrev Fr := Int × Int × Int
def fz : Fr := (0, 0, 0)
def cntF (l : List Fr) (e : Int) : Nat := (l.filter fun f => decide (f.1 = e)).length
def hsF (l : List Fr) (e : Int) : List Int := (l.filter fun f => decide (f.1 = e)).map fun f => f.2.2
def findF (l : List Fr) (e k : Int) : Option Int := (l.find? fun f => decide (f.1 = e) && decide (f.2.1 = k)).map fun f => f.2.2
theorem hsF_len (l : List Fr) (e : Int) : (hsF l e).length = cntF l e := by simp [hsF, cntF]
theorem cntF_le (l : List Fr) (e : Int) : cntF l e ≤ l.length := List.length_filter_le _ _
theorem takeF_snoc {α : Type} (l : List α) (d : α) {k : Nat} (h : k < l.length) : l.take (k + 1) = l.take k ++ [l.getD k d] := by
  rw [List.take_add_one, List.getD_eq_getElem?_getD, List.getElem?_eq_getElem h]; rfl
theorem hsF_app (l : List Fr) (f : Fr) (e : Int) : hsF (l ++ [f]) e = if f.1 = e then hsF l e ++ [f.2.2] else hsF l e := by
  unfold hsF
  rw [List.filter_append]
  by_cases h : f.1 = e
  · rw [if_pos h, List.filter_cons_of_pos (by simpa using h)]; simp
  · rw [if_neg h, List.filter_cons_of_neg (by simpa using h)]; simp
theorem cntF_app (l : List Fr) (f : Fr) (e : Int) : cntF (l ++ [f]) e = if f.1 = e then cntF l e + 1 else cntF l e := by
  rw [← hsF_len, hsF_app, ← hsF_len]
  split <;> simp
theorem findF_app (l : List Fr) (f : Fr) (e k : Int) : findF (l ++ [f]) e k = match findF l e k with | some t => some t | none => if f.1 = e ∧ f.2.1 = k then some f.2.2 else none := by
  unfold findF
  rw [List.find?_append]
  cases h : l.find? fun f => decide (f.1 = e) && decide (f.2.1 = k) with
  | some g => rfl
  | none =>
    by_cases q : f.1 = e ∧ f.2.1 = k
    · rw [if_pos q]; simp [q.1, q.2]
    · rw [if_neg q]
      have : (decide (f.1 = e) && decide (f.2.1 = k)) = false := by
        by_cases a : f.1 = e
        · have b : ¬ f.2.1 = k := fun b => q ⟨a, b⟩
          simp [b]
        · simp [a]
      simp [this]
/-- TimesIn. -/
def tmsRes (l : List Fr) (e : Int) : List Int × Int := if l.length ≤ 500 then (hsF l e, 0) else ([], 2)
theorem hsF_next (l : List Fr) (e : Int) {k : Nat} (hk : k < l.length) : hsF (l.take (k + 1)) e = if (l.getD k fz).1 = e then hsF (l.take k) e ++ [(l.getD k fz).2.2] else hsF (l.take k) e := by
  rw [takeF_snoc l fz hk, hsF_app]
theorem hsF_len_le (l : List Fr) (e : Int) (k : Nat) : (hsF (l.take k) e).length ≤ k := by
  rw [hsF_len]
  exact Nat.le_trans (cntF_le _ _) (by rw [List.length_take]; omega)
theorem tmsRes_len (l : List Fr) (e : Int) : (tmsRes l e).1.length ≤ 500 := by
  unfold tmsRes
  split
  · have := cntF_le l e
    show (hsF l e).length ≤ 500
    rw [hsF_len]; omega
  · simp
end M
end Go.Proofs.Ytjbffpmelglegaa
