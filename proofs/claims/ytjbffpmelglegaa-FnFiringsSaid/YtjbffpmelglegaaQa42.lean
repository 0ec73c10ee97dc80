/- Texts laid together: Rcd. -/
import Derived.Test.YtjbffpmelglegaaQa10
import Derived.Test.YtjbffpmelglegaaQa22
set_option linter.unusedSimpArgs false
set_option linter.unusedVariables false
set_option linter.unusedSectionVars false
namespace Go.Proofs.Ytjbffpmelglegaa
namespace M
/-- The code of a graph that has to be live, beside other arguments. -/
def inCode (c : Int) (b : Bool) : Int := if c ≠ 1 ∧ b = false then 2 else c
section
variable {l : List (Int × Int × Int × Int)} {N : Nat}
def plOk (l : List (Int × Int × Int × Int)) (N : Nat) : Prop := ∀ p ∈ l, (0 ≤ p.1 ∧ p.1 < (N : Int)) ∧ (0 ≤ p.2.2.1 ∧ p.2.2.1 ≤ 1000) ∧ 0 ≤ p.2.2.2 ∧ p.2.2.2 ≤ 5
theorem plOk.times (h : plOk l N) : ∀ p ∈ l, (0 ≤ p.1 ∧ p.1 < (N : Int)) ∧ 0 ≤ p.2.2.2 := fun p hp => ⟨(h p hp).1, (h p hp).2.2.1⟩
theorem plOk.delays (h : plOk l N) : ∀ p ∈ l, 0 ≤ p.2.2.1 ∧ p.2.2.1 ≤ 1000 := fun p hp => (h p hp).2.1
theorem del_bd (h : plOk l N) (m : Int) (i j : Nat) : wtF (fDel m) l i j = -1000000000000000 ∨ (0 ≤ wtF (fDel m) l i j ∧ wtF (fDel m) l i j ≤ 1000) :=
  wtF_of (P := fun x => x = -1000000000000000 ∨ (0 ≤ x ∧ x ≤ 1000)) (fun p hp => by
    have := (h p hp).2.1
    unfold fDel
    split
    · exact .inl rfl
    · exact .inr this) (.inl rfl) i j
theorem del_sm (h : plOk l N) (m : Int) (i j : Nat) : Sm 1000001000000 (wtF (fDel m) l i j) := by
  have := del_bd h m i j
  unfold Sm; omega
theorem del_sq (h : plOk l N) (m : Int) (n1 : 1 ≤ N) (n2 : N ≤ 10) : sqB (wtM (fDel m) N l) = true := wt_isMat n1 n2 fun p hp => by
  have := (h p hp).2.1
  unfold fDel isVal isFin
  split
  · decide
  · simp; omega
theorem del_arc (h : plOk l N) {i j : Nat} (ha : wtF (fDel 0) l i j ≠ -1000000000000000) : wtF fOne l i j ≠ -1000000000000000 := by
  have key := wtF_two (P := fun a b => -1000000000000000 ≤ a ∧ -1000000000000000 ≤ b ∧ (a ≠ -1000000000000000 → b ≠ -1000000000000000)) (f := fDel 0) (g := fOne) (l := l) (fun p hp a b hab => by
    have h1 := (h p hp).2
    obtain ⟨k1, k2, k3⟩ := hab
    unfold fDel fOne
    by_cases q : p.2.2.2 = 0
    · rw [if_neg (fun z => z q), if_neg (by omega)]
      refine ⟨by omega, by omega, fun _ => by omega⟩
    · rw [if_pos q, if_pos (by omega), Int.max_eq_left k1, Int.max_eq_left k2]
      exact ⟨k1, k2, k3⟩) ⟨Int.le_refl _, Int.le_refl _, fun z => absurd rfl z⟩ i j
  exact key.2.2 ha
/-- A live graph has no cycles of places without tokens, so there is a star. -/
theorem del_noPos (h : plOk l N) (n2 : N ≤ 10) (hl : liveB (wtF fOne l) N = true) : noPos (wtF (fDel 0) l) N = true := by
  cases e : noPos (wtF (fDel 0) l) N with
  | true => rfl
  | false =>
    obtain ⟨v, s, g1, g2, g3, g4⟩ := gain_of n2 (fun i j _ _ => del_sm h 0 i j) e
    have ha : ∀ u, u < s → wtF fOne l (v (u + 1)) (v u) ≠ -1000000000000000 := fun u hu => by
      refine del_arc h fun hx => ?_
      refine owk_arcs (f := fun i j => o (wtF (fDel 0) l i j)) (v := v) (s := s) (fun hy => g4 (by rw [hy]; exact ole_none _)) u hu ?_
      show o (wtF (fDel 0) l _ _) = none
      rw [hx]; exact o_bot
    have h1 := ord_walk (n := N) g1 g2 g3 ha N 0 (Nat.zero_le _)
    have h2 := ord_all (ord_nodes (wtF fOne l) N N).1 (ord_nodes (wtF fOne l) N N).2.1 (of_decide_eq_true hl) (g3 0 (Nat.zero_le _))
    rw [h1] at h2
    cases h2
/-- The closed matrix. -/
def closF (l : List (Int × Int × Int × Int)) (N : Nat) (m : Int) (i j : Nat) : Int := dot (starM (wtM (fDel 0) N l) N) (wtM (fDel m) N l) i j N
def closM (l : List (Int × Int × Int × Int)) (N : Nat) (m : Int) : List (List Int) := mk N N (closF l N m)
end
end M
end Go.Proofs.Ytjbffpmelglegaa
