/- Texts laid together: Scp, It0, It1. -/
import Derived.Test.YtlofnadpgnbmdaaGreatQa15
import Derived.StillTailTactics
import Derived.RangeFuncNested
import Derived.RangeFuncBound
import Derived.RangeFuncCalls
import Derived.RangeFuncLeaves
import Derived.Shelf.Abstract
import Derived.WalkKit
import Derived.OwnWalkIn
import Derived.TacticsInMore
import Derived.LoopNIn
import Derived.LoopIn
import Derived.Test.YtlofnadpgnbmdaaGreatProg
set_option linter.unusedSimpArgs false
set_option linter.unusedVariables false
set_option linter.unusedSectionVars false
namespace Go.Proofs.YtlofnadpgnbmdaaGreat.V
open Go.RowKit
end Go.Proofs.YtlofnadpgnbmdaaGreat.V

namespace Go.Proofs.YtlofnadpgnbmdaaGreat.V
open Go Go.RowKit

section
variable {P : Program} {ops : Array Oper} {md : Region.Mode} {w : World}
theorem wpIn_of_still {n : Nat} {o : Oper} {a : Act} {K : Act → Prop} {K' : Act → World → Prop} {Q' : Exit → Act → World → Prop} (h : ∀ a, K a → K' a w) (hh : o.still P a w K) : o.wpIn Fence.wide n P a w K' Q' := by
  refine ⟨fun _ _ => trivial, ?_⟩
  show o.uponIn Fence.wide n P a K' Q' ((execOp a.eval o).run P w)
  unfold Oper.still at hh
  generalize (execOp a.eval o).run P w = r at *
  cases r with
  | ok m w' =>
    cases m <;> simp only [Oper.stillUpon] at hh <;> simp only [Oper.uponIn]
    case enter f args =>
      obtain ⟨rfl, v, hc, hn⟩ := hh
      exact ⟨fun h => by simp [Fence.wide] at h, callsIn_wide.2 (hc.mono fun e w'' ⟨he, hw⟩ => by subst he; subst hw; exact h _ hn)⟩
    all_goals (obtain ⟨rfl, h2⟩ := hh; exact h _ h2)
  | halt x w' => simp only [Oper.stillUpon] at hh
theorem wpOpIn_of_stOp {n i : Nat} {a : Act} {K : Act → Prop} {K' : Act → World → Prop} {Q' : Exit → Act → World → Prop} (h : ∀ a, K a → K' a w) (hh : stOp P ops w i K a) : wpOpIn Fence.wide n P ops Q' i K' a w := by
  unfold stOp at hh
  unfold wpOpIn
  split
  · rename_i ho; simp only [ho] at hh; exact h _ hh
  · rename_i o ho
    simp only [ho] at hh
    split
    · rename_i hw; simp only [hw, if_true] at hh; exact wpIn_of_still h hh
    · rename_i hw; simp only [hw] at hh; exact ⟨fun _ _ => trivial, h _ hh⟩
theorem wpAnyIn_of_head {m n g : Nat} {L : Array Bool → Act → Prop} {Q' : Exit → Act → World → Prop} (hL : ∀ listed a, L listed a → wpAnyIn Fence.wide m P md ops Q' g listed a w) :
    ∀ (f : Nat) (listed : Array Bool) (a : Act), wpAnyL P md ops w n L f listed a → wpAnyIn Fence.wide m P md ops Q' (f + g) listed a w
  | 0, listed, a, h => by rw [Nat.zero_add]; exact hL _ _ h
  | f + 1, listed, a, h => by
    rw [show f + 1 + g = (f + g) + 1 by omega]
    exact ⟨fun h0 => absurd h0 h.1, fun i hi => wpOpIn_of_stOp (fun a' h' => wpAnyIn_of_head hL f _ a' h') (h.2 i hi).2⟩
theorem wpAnyIn_of_seq {m : Nat} {Q' : Exit → Act → World → Prop} : ∀ (l : List Oper) (k : Nat) (listed : Array Bool) (a : Act) (w : World), (∀ j, l[j]? = ops[k + j]?) →
    Region.seqB md ops l.length k listed = true → wpListIn Fence.wide m P ops Q' l a w → wpAnyIn Fence.wide m P md ops Q' l.length listed a w
  | [], _, _, _, _, _, hB, h => ⟨by simpa [Region.seqB] using hB, h⟩
  | o :: l, k, listed, a, w, hl, hB, h => by
    have h0 : ops[k]? = some o := by simpa using (hl 0).symm
    simp only [List.length_cons, Region.seqB, Bool.and_eq_true, decide_eq_true_eq] at hB
    refine ⟨fun h1 => (by rw [hB.1] at h1; cases h1), fun i hi => ?_⟩
    rw [hB.1] at hi
    have hik : i = k := by simpa using hi
    subst hik
    have hw : wpOpIn Fence.wide m P ops Q' i (wpListIn Fence.wide m P ops Q' l) a w := by unfold wpOpIn; simp only [h0]; exact h
    exact wpOpIn_mono (fun a' w' h' => wpAnyIn_of_seq l (i + 1) _ a' w' (fun j => by have := hl (j + 1); simpa [Nat.add_assoc, Nat.add_comm 1 j] using this) hB.2 h') hw
theorem wpIn_region_still_tail {id m : Nat} {Q : Exit → Act → World → Prop} {a : Act} {w : World} {l : List Oper} (n : Nat) (hm : P.follows .mixedOrders = true) (hB : Region.lexTailB .any l.toArray n = true)
    (h : wpStill P l.toArray { w with drawn := w.drawn + 1 } (fun a' => wpListIn Fence.wide m P l.toArray Q (l.drop n) a' { w with drawn := w.drawn + 1 }) (l.take n) a) : (Code.region id l.toArray true).wpIn Fence.wide m P Q a w := by
  simp only [Region.lexTailB, Bool.and_eq_true, decide_eq_true_eq] at hB
  obtain ⟨⟨⟨⟨hsel, hn⟩, hs⟩, hc⟩, hlex⟩ := hB
  have hn' : n < l.length := by simpa using hn
  have htl : (l.take n).length = n := by simp; omega
  have hdl : (l.drop n).length = l.toArray.size - n := by simp
  have inv0 : HeadInv .any l.toArray n (Array.replicate l.toArray.size false) :=
    ⟨by simp, fun j oj _ hl => (by rw [getD_replicate_false] at hl; cases hl), fun t _ ht => getD_in (by simpa using ht) (getD_replicate_false _ _)⟩
  have H := wpAnyL_lex (md := .any) (g := l.toArray.size - n) hsel hs hc hn (l.take n) 0 _ a (fun j hj => by
    have hj' : j < n := by rw [htl] at hj; exact hj
    simp [hj']) (by simpa using htl) inv0 (by rw [htl]; exact hlex) h
  refine wpIn_region_any hm ?_
  have := wpAnyIn_of_head (m := m) (Q' := Q) (g := l.toArray.size - n) (fun listed a' hL => by
    have := wpAnyIn_of_seq (m := m) (md := .any) (Q' := Q) (l.drop n) n listed a' { w with drawn := w.drawn + 1 } (fun j => by simp [List.getElem?_drop]) (by rw [hdl]; exact hL.1) hL.2
    rwa [hdl] at this) _ _ _ H
  rw [htl, show n + (l.toArray.size - n) = l.toArray.size by omega] at this
  exact this
end
end Go.Proofs.YtlofnadpgnbmdaaGreat.V

namespace Go.Proofs.YtlofnadpgnbmdaaGreat.V
open Go Go.RowKit

/-- Of the blocks that were there, at most k₀ has changed. -/
def Chg1 (k₀ : Nat) (A B : World) : Prop := B.os = A.os ∧ B.tape = A.tape ∧ B.output = A.output ∧ A.heap.size ≤ B.heap.size ∧ ∀ k, k < A.heap.size → k ≠ k₀ → B.heap[k]? = A.heap[k]?
theorem Chg1.refl (k₀ : Nat) (A : World) : Chg1 k₀ A A := ⟨rfl, rfl, rfl, Nat.le_refl _, fun _ _ _ => rfl⟩
theorem Chg1.trans {k₀ : Nat} {A B C : World} (h : Chg1 k₀ A B) (g : Chg1 k₀ B C) : Chg1 k₀ A C :=
  ⟨g.1.trans h.1, g.2.1.trans h.2.1, g.2.2.1.trans h.2.2.1, Nat.le_trans h.2.2.2.1 g.2.2.2.1, fun k hk hne => (g.2.2.2.2 k (Nat.lt_of_lt_of_le hk h.2.2.2.1) hne).trans (h.2.2.2.2 k hk hne)⟩
theorem Chg1.drew (k₀ : Nat) {A B : World} (h : Chg1 k₀ A B) : Chg1 k₀ A B.drew := ⟨h.1, h.2.1, h.2.2.1, h.2.2.2.1, h.2.2.2.2⟩
theorem Chg1.setCell {A B : World} {p : Addr} (h : Chg1 p.block A B) (v : Value) : Chg1 p.block A (B.setCell p v) :=
  ⟨h.1, h.2.1, h.2.2.1, by have := h.2.2.2.1; simpa [World.setCell] using this, fun k hk hne => (Below.heap_setCell B p v k hne).trans (h.2.2.2.2 k hk hne)⟩
theorem Chg1.putObj (A : World) (l : Nat) (o : Obj) : Chg1 l A (A.putObj l o) := ⟨rfl, rfl, rfl, by simp, fun k _ hne => World.putObj_heap_other hne⟩

/-- How a round may end: all as it was, or a jump out of the loop. -/
def EndOf (D l : Nat) (Go : Array Value → Prop) (Stop : Nat → Array Value → World → World → Prop) (x : Array Value) (W Wb : World) : Exit → Act → World → Prop
  | .normal, _, W3 => Below W.heap.size Wb W3 ∧ Go x
  | .exit id, _, W3 => W3.heap[D]? = Wb.heap[D]? ∧ W3.heap[l]? = Wb.heap[l]? ∧ Wb.heap.size ≤ W3.heap.size ∧ (∀ k, D + 2 ≤ k → k < W.heap.size → W3.heap[k]? = Wb.heap[k]?) ∧ Stop id x W W3
  | _, _, _ => False

theorem rangeState {P : Program} {n : Nat} {g : Operand} {ps : Array Tmp} {assign body : Code} {Q : Exit → Act → World → Prop} {a : Act} {w : World}
    {gf : Nat} {lb : Array Value} (hg : a.eval g = .func (.func gf) #[] lb) (eg : ∀ args w, (callFunc gf args).run P w = .ok (.enter gf args) w)
    (Pre : Array Value → World → Prop) (hps : ∀ x W, Pre x W → x.size = ps.size) (Go : Array Value → Prop) (Stop : Nat → Array Value → World → World → Prop) (Fin : Prop)
    (hMove : ∀ id x W A B k₀, Stop id x W A → Chg1 k₀ A B → (k₀ = w.heap.size + 1 ∨ (w.heap.size + 2 ≤ k₀ ∧ k₀ < W.heap.size)) → Stop id x W B)
    (hiter : ∀ (T : Array Value → World → World → Prop) (W1 : World), Below w.heap.size w W1 → W1.heap.size = w.heap.size + 2 →
      (∀ x W m, Pre x W → Below (w.heap.size + 2) W1 W → YieldAt Fence.wide m P (w.heap.size + 1) x W fun e W' => (e = .returned (.bool true) ∧ Below W.heap.size W W' ∧ Go x) ∨ (e = .returned (.bool false) ∧ T x W W' ∧ W.heap.size ≤ W'.heap.size ∧ ∀ k, w.heap.size + 2 ≤ k → k < W.heap.size → W'.heap[k]? = W.heap[k]?)) →
      CallsIn Fence.wide (n - 1) P gf (#[.func (.yield (w.heap.size + 1)) #[] #[]] ++ lb) W1 fun e W' => (∃ v, e = .returned v) ∧
        ((Fin ∧ Below (w.heap.size + 2) W1 W') ∨ ∃ x W2 W3 S, Pre x W2 ∧ Below (w.heap.size + 2) W1 W2 ∧ T x W2 W3 ∧ w.heap.size + 2 ≤ S ∧ S < W2.heap.size ∧ W2.heap.size ≤ W3.heap.size ∧ Chg1 S W3 W'))
    (a₁ : Array Value → Act)
    (hassign : ∀ l x W m (K : Act → World → Prop), Pre x W → K (a₁ x) W → assign.wpIn (Fence.wide.inRound l) m P (Exit.then K (fun _ _ _ => False)) { tmps := (ps.zip x).foldl (fun t (p, v) => t.setIfInBounds p v) a.tmps, defers := [] } W)
    (hbody : ∀ x W o m, Pre x W → Below w.heap.size w W → w.heap.size + 2 ≤ W.heap.size → body.wpIn (Fence.wide.inRound (w.heap.size + 1)) m P (EndOf w.heap.size (w.heap.size + 1) Go Stop x W (W.putObj (w.heap.size + 1) o)) (a₁ x) (W.putObj (w.heap.size + 1) o))
    (hdone : ∀ W, Fin → Below w.heap.size w W → w.heap.size + 2 ≤ W.heap.size → W.heap[w.heap.size]? = some (.deferred (some [])) → Q .normal { a with defers := { target := .collected w.heap.size, args := #[] } :: a.defers } W)
    (hstop : ∀ id x W2 W, Pre x W2 → Below w.heap.size w W2 → Stop id x W2 W → W.heap[w.heap.size]? = some (.deferred (some [])) → (Code.exit id).wpIn Fence.wide n P Q { a with defers := { target := .collected w.heap.size, args := #[] } :: a.defers } W) :
    (Code.rangeFunc g ps assign body).wpIn Fence.wide n P Q a w := by
  refine wpIn_rangeFunc ?_
  intro fn hfn
  obtain ⟨rec, hrec⟩ : ∃ rec : LoopState → Option Code → Loop, rec = fun st pe => { state := st, pending := pe, fn, tmps := a.tmps, params := ps, assign, body, defers := w.heap.size } := ⟨_, rfl⟩
  obtain ⟨W1, hW1⟩ : ∃ W1, (w.alloc (.deferred (some []))).alloc (.loop (rec .ready none)) = W1 := ⟨_, rfl⟩
  have hL1 : W1.heap[w.heap.size + 1]? = some (.loop (rec .ready none)) := by
    rw [← hW1]; have := World.alloc_heap_new (w.alloc (.deferred (some []))) (.loop (rec .ready none)); rwa [World.size_alloc] at this
  have hK1 : W1.heap[w.heap.size]? = some (.deferred (some [])) := by
    rw [← hW1]; exact (Below.heap_alloc _ _ _ (by simp)).trans (World.alloc_heap_new w _)
  have hb1 : Below w.heap.size w W1 := by
    rw [← hW1]; exact ((Below.refl _ w).alloc (Nat.le_refl _) _).alloc (by simp) _
  have hs1 : W1.heap.size = w.heap.size + 2 := by rw [← hW1]; simp
  refine ⟨w.heap.size + 1, [{ target := .collected w.heap.size, args := #[] }], W1, { target := .fn (.func gf) lb, args := #[.func (.yield (w.heap.size + 1)) #[] #[]] }, W1, gf,
    #[.func (.yield (w.heap.size + 1)) #[] #[]] ++ lb, W1, ?_, ?_, fun _ _ => trivial, ?_, fun h => by simp [Fence.wide] at h, ?_⟩
  · rw [← hW1, hrec]; exact run_enterLoop_outer _ _ _ _ _
  · simp only [resolve, hg]
    simp [go_sem]
  · simp [invoke, go_sem, eg]
  · refine (hiter (fun x W W' => ∃ id, Stop id x W W' ∧ W'.heap[w.heap.size + 1]? = some (.loop (rec .done (some (.exit id)))) ∧ W'.heap[w.heap.size]? = some (.deferred (some []))) W1 hb1 hs1 ?_).mono ?_
    · intro x W m hp hbW
      have hsz : w.heap.size + 2 ≤ W.heap.size := by have := hbW.size; omega
      have hl : W.heap[w.heap.size + 1]? = some (.loop (rec .ready none)) := (hbW.block _ (by omega)).trans hL1
      have hk : W.heap[w.heap.size]? = some (.deferred (some [])) := (hbW.block _ (by omega)).trans hK1
      have hy := run_yield (P := P) (args := x) hl (by rw [hrec]; exact hps x W hp)
      rw [hrec] at hy
      refine ⟨fn, _, assign, body, hy, roundIn_of_wpIn trivial (hassign _ x W _ _ hp ⟨_, run_beginRound hl (by rw [hrec]), ?_⟩)⟩
      have hl2 : (W.putObj (w.heap.size + 1) (.loop { rec .ready none with state := .busy })).heap[w.heap.size + 1]? = some (.loop { rec .ready none with state := .busy }) := World.putObj_heap_same (by omega)
      have hk2 : (W.putObj (w.heap.size + 1) (.loop { rec .ready none with state := .busy })).heap[w.heap.size]? = some (.deferred (some [])) := (World.putObj_heap_other (by omega)).trans hk
      refine wpIn_mono (hbody x W _ _ hp (hb1.trans (hbW.mono (by omega))) hsz) ?_
      rintro e a3 W3 hq
      cases e with
      | normal =>
        obtain ⟨hq, hgo⟩ := hq
        have hl3 := (hq.block _ (by omega)).trans hl2
        have hr := run_endRound (P := P) none hl3
        refine ⟨_, _, hr, .inl ⟨rfl, ⟨hq.os, hq.tape, hq.output, ?_, ?_⟩, hgo⟩⟩
        · have := hq.size; simpa using this
        · intro k hk'
          by_cases e : k = w.heap.size + 1
          · subst e
            rw [World.putObj_heap_same (by have := hq.size; simp at this; omega), hl, hrec]; rfl
          · rw [World.putObj_heap_other e, hq.block k hk', World.putObj_heap_other e]
      | exit id =>
        obtain ⟨h1, h2, h4, h5, h3⟩ := hq
        have hl3 := h2.trans hl2
        have hr := run_endRound (P := P) (some (.exit id)) hl3
        refine ⟨_, _, hr, .inr ⟨rfl, ⟨id, hMove _ _ _ _ _ _ h3 (Chg1.putObj _ _ _) (.inl rfl), ?_, (World.putObj_heap_other (by omega)).trans (h1.trans hk2)⟩, by simpa using h4, fun k hk3 hk4 => (World.putObj_heap_other (by omega)).trans ((h5 k hk3 hk4).trans (World.putObj_heap_other (by omega)))⟩⟩
        rw [World.putObj_heap_same (Array.getElem?_eq_some_iff.1 hl3).1, hrec]; rfl
      | ret => exact hq.elim
      | goto t => exact hq.elim
      | panic ch => exact hq.elim
      | outgrown => exact hq.elim
    · rintro e W2 ⟨⟨v, rfl⟩, (⟨hF, hb⟩ | ⟨x, A, B, S, hp, hbA, ⟨id, hS, hl, hk⟩, hS1, hS2, hAB, hc⟩)⟩
      · have hl : W2.heap[w.heap.size + 1]? = some (.loop (rec .ready none)) := (hb.block _ (by omega)).trans hL1
        have hk : W2.heap[w.heap.size]? = some (.deferred (some [])) := (hb.block _ (by omega)).trans hK1
        have hsz : w.heap.size + 2 ≤ W2.heap.size := by have := hb.size; omega
        refine ⟨none, _, by have := run_endLoop (P := P) hl (by rw [hrec]; simp); rw [hrec] at this; exact this, hdone _ hF ?_ (by simpa using hsz) ((World.putObj_heap_other (by omega)).trans hk)⟩
        have := hb1.trans (hb.mono (by omega : w.heap.size ≤ w.heap.size + 2))
        exact ⟨this.os, this.tape, this.output, by have := this.size; simpa using this, fun k hk' => (World.putObj_heap_other (by omega)).trans (this.block k hk')⟩
      · have hBl := (Array.getElem?_eq_some_iff.1 hl).1
        have hl2 : W2.heap[w.heap.size + 1]? = some (.loop (rec .done (some (.exit id)))) := (hc.2.2.2.2 _ hBl (by omega)).trans hl
        have hk2 : W2.heap[w.heap.size]? = some (.deferred (some [])) := (hc.2.2.2.2 _ (by omega) (by omega)).trans hk
        refine ⟨some (.exit id), _, by have := run_endLoop (P := P) hl2 (by rw [hrec]; simp); rw [hrec] at this; exact this, hstop id x A _ hp (hb1.trans (hbA.mono (by omega))) ?_ ((World.putObj_heap_other (by omega)).trans hk2)⟩
        exact hMove _ _ _ _ _ _ (hMove _ _ _ _ _ _ hS hc (.inr ⟨hS1, hS2⟩)) (Chg1.putObj _ _ _) (.inl rfl)
end Go.Proofs.YtlofnadpgnbmdaaGreat.V
