/- Texts laid together: It2. -/
import Derived.Test.YtlofnadpgnbmdaaGreatQa1
import Derived.Test.YtlofnadpgnbmdaaGreatQa9
import Derived.Test.YtlofnadpgnbmdaaGreatQa16
import Derived.BigRegion
import Derived.BigQuiet
set_option linter.unusedSimpArgs false
set_option linter.unusedVariables false
set_option linter.unusedSectionVars false
namespace Go.Proofs.YtlofnadpgnbmdaaGreat.V
open Go Go.RowKit

def srchF (sa v : Value) (U : Nat → Bool) (l : Nat) : Nat → Value := fun i => if i = 0 then sa else if i = 1 then v else if i = 12 then .func (.yield l) #[] #[] else .bool (U (i - 2))
theorem step_append2 (w : World) {ops : Array Oper} {o : Oper} {a : Act} {K : Act → World → Prop} {Q : Exit → Act → World → Prop} {E : Prop} (hgd : o.guard = none) (s x : Operand)
    (ho : o.op = .call { callee := .builtin .append, args := #[s, x], argTypes := #[43, 43] }) (B : Nat) (v : Value) (l : List Int) (y : Int) (g n : Nat) (hn : l.length = n) (hs : a.eval s = v) (hown : Own w B v l)
    (hx : a.eval x = .slice (some ⟨g, 0, none⟩) 1 1) (hy : w.cell? ⟨g, 0, none⟩ = some (.int .i64 y)) (hlen : n ≤ 2000000) (hB : B ≤ w.heap.size)
    (h : ∀ b' c' w', Own w' B (.slice (some ⟨b', 0, none⟩) (n + 1) c') (l ++ [y]) → Below B w w' → (∀ k, k < w.heap.size → v.ownBlock ≠ some k → w'.heap[k]? = w.heap[k]?) → K (a.put o.dst (.slice (some ⟨b', 0, none⟩) (n + 1) c')) w') :
    if Region.wanted o (yielded ops a.tmps) = true then Oper.wp Tryz.prog o a w K Q else E := by
  subst hn
  obtain ⟨i0, hi, hz0, hz1, hz2⟩ := info_parts info64
  refine step_append_lies w hgd s x 43 ho B 2 i0 (.int .i64 0) 1 8 Tryz.underlying43 hi hz0 hz1 hz2 rfl (by decide) v l.length (l.map (Value.int .i64)) hs hown ⟨g, 0, none⟩ 1 1 [.int .i64 y] hx rfl ?c1 ?c2 (by decide) ?c3 ?c4 hB w.heap.size rfl ?_
  case c1 =>
    intro j u hj
    have : j = 0 := by
      cases j with
      | zero => rfl
      | succ j => simp at hj
    subst this
    simp at hj
    subst hj
    exact hy
  case c2 => intro u hu; simp at hu; subst hu; rfl
  case c3 => unfold maxLen; omega
  case c4 => omega
  · intro g' cap' w' hown' hgrow hat hlt
    have ho' : Own w' B (.slice (some ⟨g', 0, none⟩) (l.length + 1) cap') (l ++ [y]) := by
      show w'.ownsRow B _ 1 _ (l ++ [y]).length ((l ++ [y]).map (Value.int .i64))
      simpa using hown'
    refine h _ _ w' ho' ((Below.refl B w).grown hgrow hB (fun k hk => (own_lt hown hk).1)) (fun k hk hne => ?_)
    obtain ⟨g1, g2, g3, g4, g5⟩ := hgrow
    exact g5 k hk (fun e => hne e.symm)
theorem own_cut {w : World} {B g n c : Nat} {p : List Int} {x : Int} (h : Own w B (.slice (some ⟨g, 0, none⟩) (n + 1) c) (p ++ [x])) : Own w B (.slice (some ⟨g, 0, none⟩) n c) p := by
  have hl : n = p.length := by have := h.len; simp at this; omega
  subst hl
  obtain ⟨h1, ⟨hv, -⟩ | ⟨g', cap', cur, hv, hb, hg, hle, hcm, hsz, ht⟩⟩ := h
  · cases hv
  · injection hv with e1 e2 e3
    injection e1 with e1
    injection e1 with e1
    subst e1 e3
    simp at hle hsz ht
    refine ⟨by simp, .inr ⟨g, c, cur, rfl, hb, hg, by omega, hcm, by simpa using hsz, ?_⟩⟩
    have := congrArg (List.take p.length) ht
    rw [List.take_take] at this
    simpa using this
theorem own_cap {w : World} {B n c : Nat} {b : Option Addr} {p : List Int} (h : Own w B (.slice b n c) p) : n ≤ c ∧ c ≤ maxLen := by
  have hl := h.len
  obtain ⟨a', c', hv, h1, h2, -⟩ := own_form h
  injection hv with e1 e2 e3
  subst e3
  exact ⟨by omega, h2⟩
theorem hasB_app (p : List Int) (v x : Int) : M.hasB (p ++ [v]) x = (M.hasB p x || decide (x = v)) := by
  rw [Bool.eq_iff_iff, M.hasB_iff, Bool.or_eq_true, M.hasB_iff, decide_eq_true_eq]
  simp
/-- What is handed to a round: a cycle and its weight; if that is positive it is the one that is looked for. -/
def PreC (ov : Int) (B : Nat) (res : List Int) (x : Array Value) (W : World) : Prop :=
  ∃ (b : Option Addr) (L c : Nat) (p : List Int) (wt : Int), x = #[.slice b L c, .int .i64 wt] ∧ Own W B (.slice b L c) p ∧ 1 ≤ L ∧ L ≤ 10 ∧ (ov < wt → p = res)
def GoC (ov : Int) (x : Array Value) : Prop := ∃ (v : Value) (wt : Int), x = #[v, .int .i64 wt] ∧ wt ≤ ov
end Go.Proofs.YtlofnadpgnbmdaaGreat.V
