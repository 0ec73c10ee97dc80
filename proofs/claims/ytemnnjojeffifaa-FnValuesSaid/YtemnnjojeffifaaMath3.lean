/- Plain facts on sums of lists: products distribute over sums. -/
import Derived.Test.YtemnnjojeffifaaMath1
import Derived.Test.YtemnnjojeffifaaList
namespace Go.Proofs.Ytemnnjojeffifaa
namespace M
theorem times_bot (a : Int) : times a (-1000000000000000) = -1000000000000000 := by simp [times]
theorem times_max {a x y : Int} (ha : isVal a = true) (hx : isVal x = true) (hy : isVal y = true) : times a (max x y) = max (times a x) (times a y) := by
  have h1 := isVal_t ha
  have h2 := isVal_t hx
  have h3 := isVal_t hy
  unfold times
  split <;> split <;> split <;> omega
theorem maxL_times {a : Int} (ha : isVal a = true) (l : List Int) (hl : l.all isVal = true) : times a (maxL l) = maxL (l.map (times a)) := by
  unfold maxL
  suffices hs : ∀ (l : List Int) (b : Int), isVal b = true → l.all isVal = true → times a (l.foldl max b) = (l.map (times a)).foldl max (times a b) by
    have := hs l (-1000000000000000) bot_val hl
    rw [times_bot] at this
    exact this
  intro l
  induction l with
  | nil => intro b _ _; rfl
  | cons x t ih =>
    intro b hb hl
    simp only [List.all_cons, Bool.and_eq_true] at hl
    simp only [List.foldl_cons, List.map_cons]
    rw [ih _ ?_ hl.2, times_max ha hb hl.1]
    rcases Int.le_total b x with h | h
    · rw [Int.max_eq_right h]; exact hl.1
    · rw [Int.max_eq_left h]; exact hb
theorem sumM_ok {l : List Int} (h : (sumM l).2 = 0) : l.length ≤ 200 ∧ l.all isVal = true ∧ sumM l = (maxL l, 0) := by
  unfold sumM at h ⊢
  by_cases h1 : 200 < l.length
  · rw [if_pos h1] at h; simp at h
  · rw [if_neg h1] at h
    rw [if_neg h1]
    by_cases h2 : l.all isVal = true
    · rw [if_pos h2]; exact ⟨by omega, h2, rfl⟩
    · rw [if_neg h2] at h; simp at h
theorem sumM_of {l : List Int} (h1 : l.length ≤ 200) (h2 : l.all isVal = true) : sumM l = (maxL l, 0) := by
  unfold sumM
  rw [if_neg (by omega), if_pos h2]
theorem chk_val {x : Int} (h : isVal x = true) : chk x = (x, 0) := by simp [chk, h]
theorem prod_each {a x : Int} (ha : isVal a = true) (hx : isVal x = true) : prodOf a x = chk (times a x) := by simp [prodOf, ha, hx]
theorem chk_no {x : Int} (h : isVal x = false) : chk x = (0, 3) := by simp [chk, h]
theorem end_prod {a : Int} {l : List Int} (ha : isVal a = true) (hl : l.all isVal = true) (he : (l.map (times a)).all isVal = true) : prodOf a (maxL l) = (maxL (l.map (times a)), 0) := by
  rw [prod_each ha (maxL_val l hl), maxL_times ha l hl, chk_val (maxL_val _ he)]
theorem end_zero {a : Int} (ha : isVal a = true) : prodOf a 0 = (a, 0) := by
  have h0 : isVal 0 = true := by decide
  have : times a 0 = a := by
    unfold times
    split <;> omega
  rw [prod_each ha h0, this, chk_val ha]
theorem end_more {a : Int} (ha : isVal a = true) : sumM [a, -1000000000000000] = (a, 0) := by
  have h := isVal_bound ha
  rw [sumM_of (by simp) (by simp [ha, bot_val])]
  have : maxL [a, -1000000000000000] = a := by
    simp only [maxL, List.foldl_cons, List.foldl_nil]
    omega
  rw [this]
theorem map_snoc (a : Int) (l : List Int) (x : Int) : (l ++ [x]).map (times a) = l.map (times a) ++ [times a x] := by simp
theorem getD_all {l : List Int} {k : Nat} (h : k < l.length) (hl : l.all isVal = true) : isVal (l.getD k 0) = true := by
  have := List.all_eq_true.1 hl (l.getD k 0) (by simp [h])
  exact this
end M
end Go.Proofs.Ytemnnjojeffifaa
