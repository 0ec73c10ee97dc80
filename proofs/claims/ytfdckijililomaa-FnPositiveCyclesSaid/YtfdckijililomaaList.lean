/- Plain facts on lists of integers. -/
import Derived.Test.YtfdckijililomaaMath1
namespace Go.Proofs.Ytfdckijililomaa
namespace M
theorem take_snoc (l : List Int) (k : Nat) (h : k < l.length) : l.take (k + 1) = l.take k ++ [l.getD k 0] := by
  rw [List.take_succ_eq_append_getElem h]
  simp [h]
theorem take_all (l : List Int) (k : Nat) (h : l.length ≤ k) : l.take k = l := List.take_of_length_le h
def maxL (l : List Int) : Int := l.foldl max (-1000000000000000)
def sumM (l : List Int) : Int × Int := if 200 < l.length then (0, 3) else if l.all isVal then (maxL l, 0) else (0, 1)
theorem maxL_snoc (l : List Int) (x : Int) : maxL (l ++ [x]) = max (maxL l) x := by simp [maxL]
theorem all_snoc (p : Int → Bool) (l : List Int) (x : Int) : (l ++ [x]).all p = (l.all p && p x) := by simp
theorem all_false (p : Int → Bool) (l : List Int) (k : Nat) (h : k < l.length) (hp : p (l.getD k 0) = false) : l.all p = false := by
  rw [List.all_eq_false]
  refine ⟨l.getD k 0, ?_, by rw [hp]; exact Bool.false_ne_true⟩
  simp [h]
theorem ifmax (a x : Int) : max a x = if a < x then x else a := by split <;> omega
theorem maxL_val (l : List Int) (h : l.all isVal = true) : isVal (maxL l) = true := by
  unfold maxL
  suffices hs : ∀ (l : List Int) (a : Int), isVal a = true → l.all isVal = true → isVal (l.foldl max a) = true from hs l _ bot_val h
  intro l
  induction l with
  | nil => intro a ha _; exact ha
  | cons x t ih =>
    intro a ha hl
    simp only [List.all_cons, Bool.and_eq_true] at hl
    refine ih _ ?_ hl.2
    rcases Int.le_total a x with h | h
    · rw [Int.max_eq_right h]; exact hl.1
    · rw [Int.max_eq_left h]; exact ha
end M
end Go.Proofs.Ytfdckijililomaa
