/- Texts laid together: Lvj. -/
import Derived.Test.YtphobmddkphofaaQa21
import Derived.Test.YtphobmddkphofaaQa22
import Derived.Test.YtphobmddkphofaaQa24
import Derived.Test.YtphobmddkphofaaQa6
set_option linter.unusedSimpArgs false
set_option linter.unusedVariables false
set_option linter.unusedSectionVars false
namespace Go.Proofs.Ytphobmddkphofaa
namespace M
/-- A graph is not valid, or live, or has a dead cycle. -/
theorem ord_cases (x : Int) (l : List Pc) :
    (ordRes x l = ([], 1) ∧ deadRes x l = ([], 1) ∧ levRes x l = ([], 1) ∧ liveRes x l = (false, 1)) ∨
    (∃ N : Nat, x = (N : Int) ∧ isGr x l = true ∧ N ≤ 10 ∧ noPos (wtF fOne l) N = true ∧ ordRes x l = (ordL (wtF fOne l) N N, 0) ∧ deadRes x l = ([], 4) ∧ levRes x l = (levL (wtF fOne l) N, 0) ∧ liveRes x l = (true, 0)) ∨
    (ordRes x l = ([], 5) ∧ (∃ Q, deadRes x l = (Q, 0)) ∧ levRes x l = ([], 5) ∧ liveRes x l = (false, 0)) := by
  cases hg : isGr x l with
  | false =>
    left
    unfold ordRes deadRes levRes liveRes
    rw [hg]
    exact ⟨rfl, rfl, rfl, rfl⟩
  | true =>
    right
    have hx : 1 ≤ x ∧ x ≤ 10 := by
      unfold isGr inB at hg
      simp only [Bool.and_eq_true, decide_eq_true_eq] at hg
      exact hg.1
    have hd := dead_is (l := l) (N := x.toNat) (by omega)
    unfold ordRes deadRes levRes liveRes
    rw [hg]
    by_cases q : (deadQ l x.toNat).length = 0
    · left
      rw [decide_eq_true q] at hd
      refine ⟨x.toNat, by omega, rfl, by omega, by rw [← live_is (uz_graph l) (by omega)]; exact hd.symm, ?_, ?_, ?_, ?_⟩
      · simp [← hd]
      · simp [q]
      · simp [← hd]
      · simp [q]
    · right
      rw [decide_eq_false q] at hd
      refine ⟨?_, ⟨deadQ l x.toNat, ?_⟩, ?_, ?_⟩
      · simp [← hd]
      · simp [q]
      · simp [← hd]
      · simp [q]
theorem levL_at {A : Nat → Nat → Int} {N i : Nat} (hi : i < N) : (levL A N).getD i 0 = lev A N i := by
  unfold levL
  rw [List.getD_eq_getElem?_getD, List.getElem?_map, List.getElem?_range hi]; rfl
theorem levL_len (A : Nat → Nat → Int) (N : Nat) : (levL A N).length = N := by simp [levL]
/-- A place without tokens is an arc. -/
theorem wt_arc {l : List Pc} {k i j : Nat} (hk : k < l.length) {p2 : Int} (hp : l.getD k pz = ((j : Int), (i : Int), p2, 0)) : wtF fOne l i j ≠ -1000000000000000 := by
  intro h
  have h1 := wtF_low fOne (l.take (k + 1)) i j
  have h2 := wtF_next fOne l hk i j
  have e : l.getD k (0, 0, 0, 0) = ((j : Int), (i : Int), p2, 0) := hp
  rw [e] at h2
  have h3 : wtF fOne (l.take (k + 1)) i j = max (wtF fOne (l.take k) i j) 1 := by rw [h2]; exact if_pos ⟨rfl, rfl⟩
  have h4 : wtF fOne (l.take (k + 1)) i j ≤ wtF fOne l i j := by
    have e2 : wtF fOne l i j = (l.drop (k + 1)).foldl (wtS fOne i j) (wtF fOne (l.take (k + 1)) i j) := by
      unfold wtF
      rw [← List.foldl_append, List.take_append_drop]
    rw [e2]
    suffices H : ∀ (r : List Pc) (m : Int), m ≤ r.foldl (wtS fOne i j) m from H _ _
    intro r
    induction r with
    | nil => intro m; exact Int.le_refl _
    | cons p r ih =>
      intro m
      refine Int.le_trans ?_ (ih _)
      unfold wtS
      split <;> omega
  omega
end M
namespace V
open Go.RowKit
def VL (L : List Int) (cd : Int) (w : World) (e : Ending) (w' : World) : Prop := ∃ a n cap, e = .returned (.tuple #[.slice a n cap, .int .i64 cd]) ∧ Own w' w.heap.size (.slice a n cap) L ∧ Below w.heap.size w w'
def BL (b : Bool) (cd : Int) (w : World) (e : Ending) (w' : World) : Prop := e = .returned (.tuple #[.bool b, .int .i64 cd]) ∧ Below w.heap.size w w'
end V
end Go.Proofs.Ytphobmddkphofaa
