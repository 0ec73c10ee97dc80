/- What the frames share: the words at the head of the translation. -/
import Derived.Test.YtlofnadpgnbmdaaGreatRows
import Derived.ProofKit
import Derived.JoinedOf
set_option linter.unusedSimpArgs false
set_option linter.unusedVariables false
set_option linter.unusedSectionVars false
namespace Go.Proofs.YtlofnadpgnbmdaaGreat.Fr
set_option maxRecDepth 100000
def codes : List Nat := [104, 97, 114, 110, 101, 115, 115, 32, 54, 54, 56, 98, 52, 101, 98, 97, 100, 57, 99, 56, 55, 101, 57, 48, 57, 53, 101, 100, 56, 48, 49, 100, 52, 53, 56, 97, 100, 49, 98, 101, 100, 98, 102, 52, 98, 53, 55, 100, 57, 53, 55, 55, 101, 99, 57, 97, 54, 100, 52, 55, 55, 100, 52, 50, 50, 102, 51, 50, 53, 53, 55, 48, 32, 99, 117, 116, 32, 97, 116, 32, 108, 111, 111, 112, 46, 101, 120, 97, 109, 112, 108, 101, 47, 103, 48, 48, 57, 52, 49, 47, 108, 97, 119, 115, 46, 70, 110, 83, 116, 97, 116, 101, 115, 32, 108, 111, 111, 112, 46, 101, 120, 97, 109, 112, 108, 101, 47, 103, 48, 48, 57, 52, 49, 47, 108, 97, 119, 115, 46, 70, 110, 67, 121, 99, 108, 101, 84, 105, 109, 101, 115, 32, 108, 111, 111, 112, 46, 101, 120, 97, 109, 112, 108, 101, 47, 103, 48, 48, 57, 52, 49, 47, 108, 97, 119, 115, 46, 70, 110, 69, 120, 97, 99, 116, 67, 101, 114, 116, 105, 102, 121, 84, 105, 109, 101]
theorem order : Tryz.pinned.checked.prog.initOrder = String.ofList (List.map Char.ofNat codes) := by kernel_rfl
theorem signs : Tryz.pinned.checked.prog.initOrder.toList = List.map Char.ofNat codes := by rw [order]; exact String.toList_ofList
def cutW : List Char := [Char.ofNat 99, Char.ofNat 117, Char.ofNat 116]
theorem head : (behindMainWord (wordsSigns Tryz.pinned.checked.prog.initOrder.toList)).head? = some cutW := by rw [signs]; kernel_rfl
theorem make_of {P : Program} (h : (behindMainWord (wordsSigns P.initOrder.toList)).head? = some cutW) (h1 : (cutW == "gc".toList || cutW == "spec".toList) = false) (h2 : (cutW == "cut".toList) = true) : P.make = some .cut := by
  unfold Program.make
  cases e : behindMainWord (wordsSigns P.initOrder.toList) with
  | nil => rw [e] at h; cases h
  | cons a l =>
    rw [e] at h
    obtain rfl : a = cutW := Option.some.inj h
    simp only [h1, h2, Bool.false_eq_true, if_false, Bool.true_or, if_true]
theorem make : Tryz.pinned.checked.prog.make = some .cut := make_of head (by kernel_rfl) (by kernel_rfl)
theorem lifts : Tryz.pinned.checked.prog.liftsFinal = false := by unfold Program.liftsFinal Program.headLifts; rw [signs]; kernel_rfl
theorem strip_of : ∀ (os : List String) (rest : List (List Char)), os.all (fun o => !(cutW == o.toList)) = true → stripLifts os (cutW :: rest) = ([], cutW :: rest) := by
  intro os
  induction os with
  | nil => intro rest _; rfl
  | cons o os ih =>
    intro rest h
    rw [List.all_cons, Bool.and_eq_true] at h
    have h1 : (cutW == o.toList) = false := by simpa using h.1
    show (if (cutW == o.toList) = true then _ else _) = _
    rw [if_neg (by rw [h1]; exact Bool.false_ne_true)]
    exact ih rest h.2
theorem strip (rest : List (List Char)) : stripLifts liftWords (cutW :: rest) = ([], cutW :: rest) := strip_of liftWords rest (by kernel_rfl)
theorem enter_of {P : Program} (h : (behindMainWord (wordsSigns P.initOrder.toList)).head? = some cutW) (h2 : (some cutW == some "cut".toList) = true) (l1 : P.laysLater = false) (l2 : P.bearsReflect = false) (l3 : P.doorFits [] = true) : P.mayEnter = true := by
  unfold Program.mayEnter
  cases e : behindMainWord (wordsSigns P.initOrder.toList) with
  | nil => rw [e] at h; cases h
  | cons a l =>
    rw [e] at h
    obtain rfl : a = cutW := Option.some.inj h
    simp only [strip, List.head?_cons, h2, l1, l2, l3, List.contains_nil, Bool.not_false, Bool.or_true, Bool.true_and, Bool.and_true, Bool.false_or]
theorem enter : Tryz.pinned.checked.prog.mayEnter = true := enter_of head (by kernel_rfl) (by kernel_rfl) (by kernel_rfl) (by kernel_rfl)
end Go.Proofs.YtlofnadpgnbmdaaGreat.Fr
