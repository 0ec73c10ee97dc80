/- Plain facts: the first cycle with a weight over a given one, by growing paths. -/
import Derived.Test.YtfdckijililomaaMatP
namespace Go.Proofs.Ytfdckijililomaa
namespace M
/-- The first answer that is not empty. -/
def pick (g : Nat → List Int) : Nat → Nat → List Int
  | 0, _ => []
  | c + 1, v => if (g v).length = 0 then pick g c (v + 1) else g v
theorem pick_no {g : Nat → List Int} {n k : Nat} (hk : k < n) (h : (g k).length = 0) : pick g (n - k) k = pick g (n - (k + 1)) (k + 1) := by
  rw [show n - k = n - (k + 1) + 1 by omega]
  show (if _ then _ else _) = _
  rw [if_pos h]
theorem pick_yes {g : Nat → List Int} {n k : Nat} (hk : k < n) (h : (g k).length ≠ 0) : pick g (n - k) k = g k := by
  rw [show n - k = n - (k + 1) + 1 by omega]
  show (if _ then _ else _) = _
  rw [if_neg h]
theorem pick_end {g : Nat → List Int} {n : Nat} : pick g (n - n) n = [] := by rw [Nat.sub_self]; rfl
def lastV (p : List Int) : Nat := vx p (p.length - 1)
/-- Whether the path closes to a cycle with a weight over the given one. -/
def clB (A : Nat → Nat → Int) (over : Int) (p : List Int) (wt : Int) : Bool := decide (A (vx p 0) (lastV p) ≠ -1000000000000000) && decide (over < wt + A (vx p 0) (lastV p))
def grow (A : Nat → Nat → Int) (n : Nat) (over : Int) : Nat → List Int → Int → List Int
  | 0, _, _ => []
  | f + 1, p, wt => if clB A over p wt then p else
      pick (fun v => if A v (lastV p) = -1000000000000000 ∨ hasB p (v : Int) = true then [] else grow A n over f (p ++ [(v : Int)]) (wt + A v (lastV p))) (n - (vx p 0 + 1)) (vx p 0 + 1)
def stepG (A : Nat → Nat → Int) (n : Nat) (over : Int) (f : Nat) (p : List Int) (wt : Int) (v : Nat) : List Int := if A v (lastV p) = -1000000000000000 ∨ hasB p (v : Int) = true then [] else grow A n over f (p ++ [(v : Int)]) (wt + A v (lastV p))
theorem grow_yes {A : Nat → Nat → Int} {n f : Nat} {over wt : Int} {p : List Int} (h : clB A over p wt = true) : grow A n over (f + 1) p wt = p := by
  show (if _ then _ else _) = _
  rw [if_pos h]
theorem grow_no {A : Nat → Nat → Int} {n f : Nat} {over wt : Int} {p : List Int} (h : clB A over p wt = false) : grow A n over (f + 1) p wt = pick (stepG A n over f p wt) (n - (vx p 0 + 1)) (vx p 0 + 1) := by
  show (if _ then _ else _) = _
  rw [h, if_neg (by simp)]; rfl
theorem step_bot {A : Nat → Nat → Int} {n f : Nat} {over wt : Int} {p : List Int} {v : Nat} (h : A v (lastV p) = -1000000000000000) : (stepG A n over f p wt v).length = 0 := by
  unfold stepG; rw [if_pos (.inl h)]; rfl
theorem step_has {A : Nat → Nat → Int} {n f : Nat} {over wt : Int} {p : List Int} {v : Nat} (h : hasB p (v : Int) = true) : (stepG A n over f p wt v).length = 0 := by
  unfold stepG; rw [if_pos (.inr h)]; rfl
theorem step_go {A : Nat → Nat → Int} {n f : Nat} {over wt : Int} {p : List Int} {v : Nat} (h : A v (lastV p) ≠ -1000000000000000) (h2 : hasB p (v : Int) = false) : stepG A n over f p wt v = grow A n over f (p ++ [(v : Int)]) (wt + A v (lastV p)) := by
  unfold stepG; rw [if_neg]; rintro (e | e); exact h e; rw [h2] at e; simp at e
def overL (A : Nat → Nat → Int) (n : Nat) (over : Int) : List Int := pick (fun v => grow A n over n [(v : Int)] 0) n 0
theorem diffB_snoc {p : List Int} {v : Int} (h : diffB p = true) (h2 : hasB p v = false) : diffB (p ++ [v]) = true := by
  refine diffB_of fun i hi => ?_
  simp at hi
  by_cases e : i = p.length
  · subst e
    rw [List.take_left' rfl]
    simpa [List.getD_eq_getElem?_getD] using h2
  · have hi' : i < p.length := by omega
    have := List.all_eq_true.1 h i (List.mem_range.2 hi')
    rw [List.take_append_of_le_length (by omega), List.getD_eq_getElem?_getD, List.getElem?_append_left hi', ← List.getD_eq_getElem?_getD]
    simpa using this
theorem nodesB_snoc {n : Nat} {p : List Int} {v : Nat} (h : nodesB n p = true) (hv : v < n) : nodesB n (p ++ [(v : Int)]) = true := by
  unfold nodesB at *
  rw [List.all_append, h]
  simp [inN]; omega
theorem snoc_first {p : List Int} {v : Int} (h : 1 ≤ p.length) : vx (p ++ [v]) 0 = vx p 0 := by
  unfold vx; rw [List.getD_eq_getElem?_getD, List.getElem?_append_left (by omega), ← List.getD_eq_getElem?_getD]
theorem snoc_last {p : List Int} {v : Nat} : lastV (p ++ [(v : Int)]) = v := by
  unfold lastV vx; simp
theorem grow_nodes (A : Nat → Nat → Int) (n : Nat) (over : Int) (f : Nat) : ∀ p wt, (grow A n over f p wt).length ≤ p.length + f := by
  induction f with
  | zero => intro p wt; show 0 ≤ _; omega
  | succ f ih =>
    intro p wt
    by_cases h : clB A over p wt = true
    · rw [grow_yes h]; omega
    · rw [grow_no (by simpa using h)]
      have key : ∀ c v, (pick (stepG A n over f p wt) c v).length ≤ p.length + (f + 1) := by
        intro c
        induction c with
        | zero => intro v; show 0 ≤ _; omega
        | succ c ih2 =>
          intro v
          show (if _ then _ else _ : List Int).length ≤ _
          split
          · exact ih2 _
          · unfold stepG
            split
            · simp
            · have := ih (p ++ [(v : Int)]) (wt + A v (lastV p))
              simp at this; omega
      exact key _ _
def posRes (R : List (List Int)) : List Int × Int := if sqB R then (if (overL (ent R) R.length 0).length = 0 then ([], 4) else (overL (ent R) R.length 0, 0)) else ([], 1)
end M
end Go.Proofs.Ytfdckijililomaa
