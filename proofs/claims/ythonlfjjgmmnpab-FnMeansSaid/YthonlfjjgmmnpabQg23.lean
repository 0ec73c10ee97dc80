/- Texts laid together: Itz. -/
import Derived.StillTailTactics
import Derived.RangeFuncNested
import Derived.RangeFuncBound
import Derived.RangeFuncCalls
import Derived.RangeFuncLeaves
import Derived.Shelf.Abstract
import Derived.WalkKit
import Derived.OwnWalkIn
import Derived.TacticsInMore
import Derived.LoopNIn
import Derived.LoopIn
import Derived.Test.YthonlfjjgmmnpabProg
import Derived.Test.YthonlfjjgmmnpabQg1
import Derived.Test.YthonlfjjgmmnpabQg10
import Derived.BigRegion
import Derived.BigQuiet
import Derived.Test.YthonlfjjgmmnpabQg8
import Derived.Test.YthonlfjjgmmnpabQg15
import Derived.WalkMore
import Derived.Deep.LoopGhost
import Derived.Scope
namespace Go.Proofs.Ythonlfjjgmmnpab.V
open Go Go.RowKit

section
variable {P : Program} {ops : Array Oper} {md : Region.Mode} {w : World}
theorem wpIn_of_still {n : Nat} {o : Oper} {a : Act} {K : Act → Prop} {K' : Act → World → Prop} {Q' : Exit → Act → World → Prop} (h : ∀ a, K a → K' a w) (hh : o.still P a w K) : o.wpIn Fence.wide n P a w K' Q' := by
  refine ⟨fun _ _ => trivial, ?_⟩
  show o.uponIn Fence.wide n P a K' Q' ((execOp a.eval o).run P w)
  unfold Oper.still at hh
  generalize (execOp a.eval o).run P w = r at *
  cases r with
  | ok m w' =>
    cases m <;> simp only [Oper.stillUpon] at hh <;> simp only [Oper.uponIn]
    case enter f args =>
      obtain ⟨rfl, v, hc, hn⟩ := hh
      exact ⟨fun h => by simp [Fence.wide] at h, callsIn_wide.2 (hc.mono fun e w'' ⟨he, hw⟩ => by subst he; subst hw; exact h _ hn)⟩
    all_goals (obtain ⟨rfl, h2⟩ := hh; exact h _ h2)
  | halt x w' => simp only [Oper.stillUpon] at hh
theorem wpOpIn_of_stOp {n i : Nat} {a : Act} {K : Act → Prop} {K' : Act → World → Prop} {Q' : Exit → Act → World → Prop} (h : ∀ a, K a → K' a w) (hh : stOp P ops w i K a) : wpOpIn Fence.wide n P ops Q' i K' a w := by
  unfold stOp at hh
  unfold wpOpIn
  split
  · rename_i ho; simp only [ho] at hh; exact h _ hh
  · rename_i o ho
    simp only [ho] at hh
    split
    · rename_i hw; simp only [hw, if_true] at hh; exact wpIn_of_still h hh
    · rename_i hw; simp only [hw] at hh; exact ⟨fun _ _ => trivial, h _ hh⟩
theorem wpAnyIn_of_head {m n g : Nat} {L : Array Bool → Act → Prop} {Q' : Exit → Act → World → Prop} (hL : ∀ listed a, L listed a → wpAnyIn Fence.wide m P md ops Q' g listed a w) :
    ∀ (f : Nat) (listed : Array Bool) (a : Act), wpAnyL P md ops w n L f listed a → wpAnyIn Fence.wide m P md ops Q' (f + g) listed a w
  | 0, listed, a, h => by rw [Nat.zero_add]; exact hL _ _ h
  | f + 1, listed, a, h => by
    rw [show f + 1 + g = (f + g) + 1 by omega]
    exact ⟨fun h0 => absurd h0 h.1, fun i hi => wpOpIn_of_stOp (fun a' h' => wpAnyIn_of_head hL f _ a' h') (h.2 i hi).2⟩
theorem wpAnyIn_of_seq {m : Nat} {Q' : Exit → Act → World → Prop} : ∀ (l : List Oper) (k : Nat) (listed : Array Bool) (a : Act) (w : World), (∀ j, l[j]? = ops[k + j]?) →
    Region.seqB md ops l.length k listed = true → wpListIn Fence.wide m P ops Q' l a w → wpAnyIn Fence.wide m P md ops Q' l.length listed a w
  | [], _, _, _, _, _, hB, h => ⟨by simpa [Region.seqB] using hB, h⟩
  | o :: l, k, listed, a, w, hl, hB, h => by
    have h0 : ops[k]? = some o := by simpa using (hl 0).symm
    simp only [List.length_cons, Region.seqB, Bool.and_eq_true, decide_eq_true_eq] at hB
    refine ⟨fun h1 => (by rw [hB.1] at h1; cases h1), fun i hi => ?_⟩
    rw [hB.1] at hi
    have hik : i = k := by simpa using hi
    subst hik
    have hw : wpOpIn Fence.wide m P ops Q' i (wpListIn Fence.wide m P ops Q' l) a w := by unfold wpOpIn; simp only [h0]; exact h
    exact wpOpIn_mono (fun a' w' h' => wpAnyIn_of_seq l (i + 1) _ a' w' (fun j => by have := hl (j + 1); simpa [Nat.add_assoc, Nat.add_comm 1 j] using this) hB.2 h') hw
theorem wpIn_region_still_tail {id m : Nat} {Q : Exit → Act → World → Prop} {a : Act} {w : World} {l : List Oper} (n : Nat) (hm : P.follows .mixedOrders = true) (hB : Region.lexTailB .any l.toArray n = true)
    (h : wpStill P l.toArray { w with drawn := w.drawn + 1 } (fun a' => wpListIn Fence.wide m P l.toArray Q (l.drop n) a' { w with drawn := w.drawn + 1 }) (l.take n) a) : (Code.region id l.toArray true).wpIn Fence.wide m P Q a w := by
  simp only [Region.lexTailB, Bool.and_eq_true, decide_eq_true_eq] at hB
  obtain ⟨⟨⟨⟨hsel, hn⟩, hs⟩, hc⟩, hlex⟩ := hB
  have hn' : n < l.length := by simpa using hn
  have htl : (l.take n).length = n := by simp; omega
  have hdl : (l.drop n).length = l.toArray.size - n := by simp
  have inv0 : HeadInv .any l.toArray n (Array.replicate l.toArray.size false) :=
    ⟨by simp, fun j oj _ hl => (by rw [getD_replicate_false] at hl; cases hl), fun t _ ht => getD_in (by simpa using ht) (getD_replicate_false _ _)⟩
  have H := wpAnyL_lex (md := .any) (g := l.toArray.size - n) hsel hs hc hn (l.take n) 0 _ a (fun j hj => by
    have hj' : j < n := by rw [htl] at hj; exact hj
    simp [hj']) (by simpa using htl) inv0 (by rw [htl]; exact hlex) h
  refine wpIn_region_any hm ?_
  have := wpAnyIn_of_head (m := m) (Q' := Q) (g := l.toArray.size - n) (fun listed a' hL => by
    have := wpAnyIn_of_seq (m := m) (md := .any) (Q' := Q) (l.drop n) n listed a' { w with drawn := w.drawn + 1 } (fun j => by simp [List.getElem?_drop]) (by rw [hdl]; exact hL.1) hL.2
    rwa [hdl] at this) _ _ _ H
  rw [htl, show n + (l.toArray.size - n) = l.toArray.size by omega] at this
  exact this
end
end Go.Proofs.Ythonlfjjgmmnpab.V

namespace Go.Proofs.Ythonlfjjgmmnpab.V
open Go Go.RowKit

/-- Of the blocks that were there, at most k₀ has changed. -/
def Chg1 (k₀ : Nat) (A B : World) : Prop := B.os = A.os ∧ B.tape = A.tape ∧ B.output = A.output ∧ A.heap.size ≤ B.heap.size ∧ ∀ k, k < A.heap.size → k ≠ k₀ → B.heap[k]? = A.heap[k]?
theorem Chg1.refl (k₀ : Nat) (A : World) : Chg1 k₀ A A := ⟨rfl, rfl, rfl, Nat.le_refl _, fun _ _ _ => rfl⟩
theorem Chg1.trans {k₀ : Nat} {A B C : World} (h : Chg1 k₀ A B) (g : Chg1 k₀ B C) : Chg1 k₀ A C :=
  ⟨g.1.trans h.1, g.2.1.trans h.2.1, g.2.2.1.trans h.2.2.1, Nat.le_trans h.2.2.2.1 g.2.2.2.1, fun k hk hne => (g.2.2.2.2 k (Nat.lt_of_lt_of_le hk h.2.2.2.1) hne).trans (h.2.2.2.2 k hk hne)⟩
theorem Chg1.drew (k₀ : Nat) {A B : World} (h : Chg1 k₀ A B) : Chg1 k₀ A B.drew := ⟨h.1, h.2.1, h.2.2.1, h.2.2.2.1, h.2.2.2.2⟩
theorem Chg1.setCell {A B : World} {p : Addr} (h : Chg1 p.block A B) (v : Value) : Chg1 p.block A (B.setCell p v) :=
  ⟨h.1, h.2.1, h.2.2.1, by have := h.2.2.2.1; simpa [World.setCell] using this, fun k hk hne => (Below.heap_setCell B p v k hne).trans (h.2.2.2.2 k hk hne)⟩
theorem Chg1.putObj (A : World) (l : Nat) (o : Obj) : Chg1 l A (A.putObj l o) := ⟨rfl, rfl, rfl, by simp, fun k _ hne => World.putObj_heap_other hne⟩

/-- How a round may end: all as it was, or a jump out of the loop. -/
def EndOf (D l : Nat) (Go : Array Value → Prop) (Stop : Nat → Array Value → World → World → Prop) (x : Array Value) (W Wb : World) : Exit → Act → World → Prop
  | .normal, _, W3 => Below W.heap.size Wb W3 ∧ Go x
  | .exit id, _, W3 => W3.heap[D]? = Wb.heap[D]? ∧ W3.heap[l]? = Wb.heap[l]? ∧ Wb.heap.size ≤ W3.heap.size ∧ (∀ k, D + 2 ≤ k → k < W.heap.size → W3.heap[k]? = Wb.heap[k]?) ∧ Stop id x W W3
  | _, _, _ => False

theorem rangeState {P : Program} {n : Nat} {g : Operand} {ps : Array Tmp} {assign body : Code} {Q : Exit → Act → World → Prop} {a : Act} {w : World}
    {gf : Nat} {lb : Array Value} (hg : a.eval g = .func (.func gf) #[] lb) (eg : ∀ args w, (callFunc gf args).run P w = .ok (.enter gf args) w)
    (Pre : Array Value → World → Prop) (hps : ∀ x W, Pre x W → x.size = ps.size) (Go : Array Value → Prop) (Stop : Nat → Array Value → World → World → Prop) (Fin : Prop)
    (hMove : ∀ id x W A B k₀, Stop id x W A → Chg1 k₀ A B → (k₀ = w.heap.size + 1 ∨ (w.heap.size + 2 ≤ k₀ ∧ k₀ < W.heap.size)) → Stop id x W B)
    (hiter : ∀ (T : Array Value → World → World → Prop) (W1 : World), Below w.heap.size w W1 → W1.heap.size = w.heap.size + 2 →
      (∀ x W m, Pre x W → Below (w.heap.size + 2) W1 W → YieldAt Fence.wide m P (w.heap.size + 1) x W fun e W' => (e = .returned (.bool true) ∧ Below W.heap.size W W' ∧ Go x) ∨ (e = .returned (.bool false) ∧ T x W W' ∧ W.heap.size ≤ W'.heap.size ∧ ∀ k, w.heap.size + 2 ≤ k → k < W.heap.size → W'.heap[k]? = W.heap[k]?)) →
      CallsIn Fence.wide (n - 1) P gf (#[.func (.yield (w.heap.size + 1)) #[] #[]] ++ lb) W1 fun e W' => (∃ v, e = .returned v) ∧
        ((Fin ∧ Below (w.heap.size + 2) W1 W') ∨ ∃ x W2 W3 S, Pre x W2 ∧ Below (w.heap.size + 2) W1 W2 ∧ T x W2 W3 ∧ w.heap.size + 2 ≤ S ∧ S < W2.heap.size ∧ W2.heap.size ≤ W3.heap.size ∧ Chg1 S W3 W'))
    (a₁ : Array Value → Act)
    (hassign : ∀ l x W m (K : Act → World → Prop), Pre x W → K (a₁ x) W → assign.wpIn (Fence.wide.inRound l) m P (Exit.then K (fun _ _ _ => False)) { tmps := (ps.zip x).foldl (fun t (p, v) => t.setIfInBounds p v) a.tmps, defers := [] } W)
    (hbody : ∀ x W o m, Pre x W → Below w.heap.size w W → w.heap.size + 2 ≤ W.heap.size → body.wpIn (Fence.wide.inRound (w.heap.size + 1)) m P (EndOf w.heap.size (w.heap.size + 1) Go Stop x W (W.putObj (w.heap.size + 1) o)) (a₁ x) (W.putObj (w.heap.size + 1) o))
    (hdone : ∀ W, Fin → Below w.heap.size w W → w.heap.size + 2 ≤ W.heap.size → W.heap[w.heap.size]? = some (.deferred (some [])) → Q .normal { a with defers := { target := .collected w.heap.size, args := #[] } :: a.defers } W)
    (hstop : ∀ id x W2 W, Pre x W2 → Below w.heap.size w W2 → Stop id x W2 W → W.heap[w.heap.size]? = some (.deferred (some [])) → (Code.exit id).wpIn Fence.wide n P Q { a with defers := { target := .collected w.heap.size, args := #[] } :: a.defers } W) :
    (Code.rangeFunc g ps assign body).wpIn Fence.wide n P Q a w := by
  refine wpIn_rangeFunc ?_
  intro fn hfn
  obtain ⟨rec, hrec⟩ : ∃ rec : LoopState → Option Code → Loop, rec = fun st pe => { state := st, pending := pe, fn, tmps := a.tmps, params := ps, assign, body, defers := w.heap.size } := ⟨_, rfl⟩
  obtain ⟨W1, hW1⟩ : ∃ W1, (w.alloc (.deferred (some []))).alloc (.loop (rec .ready none)) = W1 := ⟨_, rfl⟩
  have hL1 : W1.heap[w.heap.size + 1]? = some (.loop (rec .ready none)) := by
    rw [← hW1]; have := World.alloc_heap_new (w.alloc (.deferred (some []))) (.loop (rec .ready none)); rwa [World.size_alloc] at this
  have hK1 : W1.heap[w.heap.size]? = some (.deferred (some [])) := by
    rw [← hW1]; exact (Below.heap_alloc _ _ _ (by simp)).trans (World.alloc_heap_new w _)
  have hb1 : Below w.heap.size w W1 := by
    rw [← hW1]; exact ((Below.refl _ w).alloc (Nat.le_refl _) _).alloc (by simp) _
  have hs1 : W1.heap.size = w.heap.size + 2 := by rw [← hW1]; simp
  refine ⟨w.heap.size + 1, [{ target := .collected w.heap.size, args := #[] }], W1, { target := .fn (.func gf) lb, args := #[.func (.yield (w.heap.size + 1)) #[] #[]] }, W1, gf,
    #[.func (.yield (w.heap.size + 1)) #[] #[]] ++ lb, W1, ?_, ?_, fun _ _ => trivial, ?_, fun h => by simp [Fence.wide] at h, ?_⟩
  · rw [← hW1, hrec]; exact run_enterLoop_outer _ _ _ _ _
  · simp only [resolve, hg]
    simp [go_sem]
  · simp [invoke, go_sem, eg]
  · refine (hiter (fun x W W' => ∃ id, Stop id x W W' ∧ W'.heap[w.heap.size + 1]? = some (.loop (rec .done (some (.exit id)))) ∧ W'.heap[w.heap.size]? = some (.deferred (some []))) W1 hb1 hs1 ?_).mono ?_
    · intro x W m hp hbW
      have hsz : w.heap.size + 2 ≤ W.heap.size := by have := hbW.size; omega
      have hl : W.heap[w.heap.size + 1]? = some (.loop (rec .ready none)) := (hbW.block _ (by omega)).trans hL1
      have hk : W.heap[w.heap.size]? = some (.deferred (some [])) := (hbW.block _ (by omega)).trans hK1
      have hy := run_yield (P := P) (args := x) hl (by rw [hrec]; exact hps x W hp)
      rw [hrec] at hy
      refine ⟨fn, _, assign, body, hy, roundIn_of_wpIn trivial (hassign _ x W _ _ hp ⟨_, run_beginRound hl (by rw [hrec]), ?_⟩)⟩
      have hl2 : (W.putObj (w.heap.size + 1) (.loop { rec .ready none with state := .busy })).heap[w.heap.size + 1]? = some (.loop { rec .ready none with state := .busy }) := World.putObj_heap_same (by omega)
      have hk2 : (W.putObj (w.heap.size + 1) (.loop { rec .ready none with state := .busy })).heap[w.heap.size]? = some (.deferred (some [])) := (World.putObj_heap_other (by omega)).trans hk
      refine wpIn_mono (hbody x W _ _ hp (hb1.trans (hbW.mono (by omega))) hsz) ?_
      rintro e a3 W3 hq
      cases e with
      | normal =>
        obtain ⟨hq, hgo⟩ := hq
        have hl3 := (hq.block _ (by omega)).trans hl2
        have hr := run_endRound (P := P) none hl3
        refine ⟨_, _, hr, .inl ⟨rfl, ⟨hq.os, hq.tape, hq.output, ?_, ?_⟩, hgo⟩⟩
        · have := hq.size; simpa using this
        · intro k hk'
          by_cases e : k = w.heap.size + 1
          · subst e
            rw [World.putObj_heap_same (by have := hq.size; simp at this; omega), hl, hrec]; rfl
          · rw [World.putObj_heap_other e, hq.block k hk', World.putObj_heap_other e]
      | exit id =>
        obtain ⟨h1, h2, h4, h5, h3⟩ := hq
        have hl3 := h2.trans hl2
        have hr := run_endRound (P := P) (some (.exit id)) hl3
        refine ⟨_, _, hr, .inr ⟨rfl, ⟨id, hMove _ _ _ _ _ _ h3 (Chg1.putObj _ _ _) (.inl rfl), ?_, (World.putObj_heap_other (by omega)).trans (h1.trans hk2)⟩, by simpa using h4, fun k hk3 hk4 => (World.putObj_heap_other (by omega)).trans ((h5 k hk3 hk4).trans (World.putObj_heap_other (by omega)))⟩⟩
        rw [World.putObj_heap_same (Array.getElem?_eq_some_iff.1 hl3).1, hrec]; rfl
      | ret => exact hq.elim
      | goto t => exact hq.elim
      | panic ch => exact hq.elim
      | outgrown => exact hq.elim
    · rintro e W2 ⟨⟨v, rfl⟩, (⟨hF, hb⟩ | ⟨x, A, B, S, hp, hbA, ⟨id, hS, hl, hk⟩, hS1, hS2, hAB, hc⟩)⟩
      · have hl : W2.heap[w.heap.size + 1]? = some (.loop (rec .ready none)) := (hb.block _ (by omega)).trans hL1
        have hk : W2.heap[w.heap.size]? = some (.deferred (some [])) := (hb.block _ (by omega)).trans hK1
        have hsz : w.heap.size + 2 ≤ W2.heap.size := by have := hb.size; omega
        refine ⟨none, _, by have := run_endLoop (P := P) hl (by rw [hrec]; simp); rw [hrec] at this; exact this, hdone _ hF ?_ (by simpa using hsz) ((World.putObj_heap_other (by omega)).trans hk)⟩
        have := hb1.trans (hb.mono (by omega : w.heap.size ≤ w.heap.size + 2))
        exact ⟨this.os, this.tape, this.output, by have := this.size; simpa using this, fun k hk' => (World.putObj_heap_other (by omega)).trans (this.block k hk')⟩
      · have hBl := (Array.getElem?_eq_some_iff.1 hl).1
        have hl2 : W2.heap[w.heap.size + 1]? = some (.loop (rec .done (some (.exit id)))) := (hc.2.2.2.2 _ hBl (by omega)).trans hl
        have hk2 : W2.heap[w.heap.size]? = some (.deferred (some [])) := (hc.2.2.2.2 _ (by omega) (by omega)).trans hk
        refine ⟨some (.exit id), _, by have := run_endLoop (P := P) hl2 (by rw [hrec]; simp); rw [hrec] at this; exact this, hstop id x A _ hp (hb1.trans (hbA.mono (by omega))) ?_ ((World.putObj_heap_other (by omega)).trans hk2)⟩
        exact hMove _ _ _ _ _ _ (hMove _ _ _ _ _ _ hS hc (.inr ⟨hS1, hS2⟩)) (Chg1.putObj _ _ _) (.inl rfl)
end Go.Proofs.Ythonlfjjgmmnpab.V

namespace Go.Proofs.Ythonlfjjgmmnpab.V
open Go Go.RowKit

def srchF (sa v : Value) (U : Nat → Bool) (l : Nat) : Nat → Value := fun i => if i = 0 then sa else if i = 1 then v else if i = 12 then .func (.yield l) #[] #[] else .bool (U (i - 2))
/-- Block S is a search over the matrix sa that stands at the path v, with U marked. -/
def Srch (W : World) (S : Nat) (sa v : Value) (U : Nat → Bool) (l : Nat) : Prop := W.rowIs S 128 13 (srchF sa v U l)
theorem Srch.c0 {W : World} {S l : Nat} {sa v : Value} {U : Nat → Bool} (h : Srch W S sa v U l) : W.cell? ⟨S, 0, none⟩ = some sa := h.cell (by omega)
theorem Srch.c1 {W : World} {S l : Nat} {sa v : Value} {U : Nat → Bool} (h : Srch W S sa v U l) : W.cell? ⟨S, 1, none⟩ = some v := h.cell (by omega)
theorem Srch.c12 {W : World} {S l : Nat} {sa v : Value} {U : Nat → Bool} (h : Srch W S sa v U l) : W.cell? ⟨S, 12, none⟩ = some (.func (.yield l) #[] #[]) := h.cell (by omega)
theorem Srch.cU {W : World} {S l : Nat} {sa v : Value} {U : Nat → Bool} (h : Srch W S sa v U l) (k : Nat) (hk : k < 10) : W.cell? ⟨S, 2 + k, none⟩ = some (.bool (U k)) := by
  have := World.rowIs.cell h (i := 2 + k) (by omega)
  rw [this]
  unfold srchF
  rw [if_neg (by omega), if_neg (by omega), if_neg (by omega), show 2 + k - 2 = k by omega]
theorem Srch.setPath {W : World} {S l : Nat} {sa v : Value} {U : Nat → Bool} (h : Srch W S sa v U l) (v' : Value) : Srch (W.setCell ⟨S, 1, none⟩ v') S sa v' U l :=
  (World.rowIs.set h 1 v').congr fun i hi => by
    unfold srchF
    by_cases e : i = 1
    · subst e; simp
    · simp [e]
theorem Srch.setUsed {W : World} {S l : Nat} {sa v : Value} {U : Nat → Bool} (h : Srch W S sa v U l) (k : Nat) (hk : k < 10) (x : Bool) : Srch (W.setCell ⟨S, 2 + k, none⟩ (.bool x)) S sa v (fun i => if i = k then x else U i) l :=
  (World.rowIs.set h (2 + k) (.bool x)).congr fun i hi => by
    unfold srchF
    by_cases e : i = 2 + k
    · subst e
      rw [if_pos rfl, if_neg (by omega), if_neg (by omega), if_neg (by omega), show 2 + k - 2 = k by omega]
      show Value.bool x = Value.bool (if k = k then x else U k)
      rw [if_pos rfl]
    · rw [if_neg e]
      by_cases e0 : i = 0
      · rw [if_pos e0, if_pos e0]
      · rw [if_neg e0, if_neg e0]
        by_cases e1 : i = 1
        · rw [if_pos e1, if_pos e1]
        · rw [if_neg e1, if_neg e1]
          show _ = (if i = 12 then _ else Value.bool (if i - 2 = k then x else U (i - 2)))
          rw [if_neg (show ¬ i - 2 = k by omega)]
theorem Srch.block {A B : World} {S l : Nat} {sa v : Value} {U : Nat → Bool} (h : Srch A S sa v U l) (e : B.heap[S]? = A.heap[S]?) : Srch B S sa v U l := World.rowIs.of_block h e
theorem Srch.congrU {W : World} {S l : Nat} {sa v : Value} {U V : Nat → Bool} (h : Srch W S sa v U l) (e : ∀ i, U i = V i) : Srch W S sa v V l := by
  have : U = V := funext e
  subst this; exact h
/-- An owned slice of integers lies apart from the search. -/
theorem Srch.apart {W : World} {S l B g n c : Nat} {sa v : Value} {U : Nat → Bool} {p : List Int} (h : Srch W S sa v U l) (ho : Own W B (.slice (some ⟨g, 0, none⟩) n c) p) : g ≠ S := by
  rintro rfl
  obtain ⟨cs, hb, -, -⟩ := h
  obtain ⟨-, ⟨hv, -⟩ | ⟨g', cap', cur, hv, -, hg, -⟩⟩ := ho
  · cases hv
  · injection hv with e1 e2 e3
    injection e1 with e1
    injection e1 with e1
    subst e1
    rw [hb] at hg
    injection hg with hg
    injection hg with h1 h2 h3
    revert h2
    decide
theorem step_append2 (w : World) {ops : Array Oper} {o : Oper} {a : Act} {K : Act → World → Prop} {Q : Exit → Act → World → Prop} {E : Prop} (hgd : o.guard = none) (s x : Operand)
    (ho : o.op = .call { callee := .builtin .append, args := #[s, x], argTypes := #[30, 30] }) (B : Nat) (v : Value) (l : List Int) (y : Int) (g n : Nat) (hn : l.length = n) (hs : a.eval s = v) (hown : Own w B v l)
    (hx : a.eval x = .slice (some ⟨g, 0, none⟩) 1 1) (hy : w.cell? ⟨g, 0, none⟩ = some (.int .i64 y)) (hlen : n ≤ 2000000) (hB : B ≤ w.heap.size)
    (h : ∀ b' c' w', Own w' B (.slice (some ⟨b', 0, none⟩) (n + 1) c') (l ++ [y]) → Below B w w' → (∀ k, k < w.heap.size → v.ownBlock ≠ some k → w'.heap[k]? = w.heap[k]?) → K (a.put o.dst (.slice (some ⟨b', 0, none⟩) (n + 1) c')) w') :
    if Region.wanted o (yielded ops a.tmps) = true then Oper.wp Try.prog o a w K Q else E := by
  subst hn
  obtain ⟨i0, hi, hz0, hz1, hz2⟩ := info_parts info64
  refine step_append_lies w hgd s x 30 ho B 2 i0 (.int .i64 0) 1 8 Try.underlying30 hi hz0 hz1 hz2 rfl (by decide) v l.length (l.map (Value.int .i64)) hs hown ⟨g, 0, none⟩ 1 1 [.int .i64 y] hx rfl ?c1 ?c2 (by decide) ?c3 ?c4 hB w.heap.size rfl ?_
  case c1 =>
    intro j u hj
    have : j = 0 := by
      cases j with
      | zero => rfl
      | succ j => simp at hj
    subst this
    simp at hj
    subst hj
    exact hy
  case c2 => intro u hu; simp at hu; subst hu; rfl
  case c3 => unfold maxLen; omega
  case c4 => omega
  · intro g' cap' w' hown' hgrow hat hlt
    have ho' : Own w' B (.slice (some ⟨g', 0, none⟩) (l.length + 1) cap') (l ++ [y]) := by
      show w'.ownsRow B _ 1 _ (l ++ [y]).length ((l ++ [y]).map (Value.int .i64))
      simpa using hown'
    refine h _ _ w' ho' ((Below.refl B w).grown hgrow hB (fun k hk => (own_lt hown hk).1)) (fun k hk hne => ?_)
    obtain ⟨g1, g2, g3, g4, g5⟩ := hgrow
    exact g5 k hk (fun e => hne e.symm)
theorem own_cut {w : World} {B g n c : Nat} {p : List Int} {x : Int} (h : Own w B (.slice (some ⟨g, 0, none⟩) (n + 1) c) (p ++ [x])) : Own w B (.slice (some ⟨g, 0, none⟩) n c) p := by
  have hl : n = p.length := by have := h.len; simp at this; omega
  subst hl
  obtain ⟨h1, ⟨hv, -⟩ | ⟨g', cap', cur, hv, hb, hg, hle, hcm, hsz, ht⟩⟩ := h
  · cases hv
  · injection hv with e1 e2 e3
    injection e1 with e1
    injection e1 with e1
    subst e1 e3
    simp at hle hsz ht
    refine ⟨by simp, .inr ⟨g, c, cur, rfl, hb, hg, by omega, hcm, by simpa using hsz, ?_⟩⟩
    have := congrArg (List.take p.length) ht
    rw [List.take_take] at this
    simpa using this
theorem own_cap {w : World} {B n c : Nat} {b : Option Addr} {p : List Int} (h : Own w B (.slice b n c) p) : n ≤ c ∧ c ≤ maxLen := by
  have hl := h.len
  obtain ⟨a', c', hv, h1, h2, -⟩ := own_form h
  injection hv with e1 e2 e3
  subst e3
  exact ⟨by omega, h2⟩
theorem hasB_app (p : List Int) (v x : Int) : M.hasB (p ++ [v]) x = (M.hasB p x || decide (x = v)) := by
  rw [Bool.eq_iff_iff, M.hasB_iff, Bool.or_eq_true, M.hasB_iff, decide_eq_true_eq]
  simp
/-- What is handed to a round: a cycle and its weight; if that is positive it is the one that is looked for. -/
def PreC (ov : Int) (B : Nat) (res : List Int) (x : Array Value) (W : World) : Prop :=
  ∃ (b : Option Addr) (L c : Nat) (p : List Int) (wt : Int), x = #[.slice b L c, .int .i64 wt] ∧ Own W B (.slice b L c) p ∧ 1 ≤ L ∧ L ≤ 10 ∧ (ov < wt → p = res)
def GoC (ov : Int) (x : Array Value) : Prop := ∃ (v : Value) (wt : Int), x = #[v, .int .i64 wt] ∧ wt ≤ ov
/-- What a call of extend leaves. -/
def ExtPost (ov : Int) (A : Nat → Nat → Int) (n f : Nat) (p : List Int) (wt : Int) (res : List Int) (sa : Value) (S N l : Nat) (U : Nat → Bool) (T : Array Value → World → World → Prop) (W1 : World) (e : Ending) (W' : World) : Prop :=
  (e = .returned (.bool true) ∧ (M.grow A n ov f p wt).length = 0 ∧ (∃ g c, Srch W' S sa (.slice (some ⟨g, 0, none⟩) N c) U l ∧ Own W' W1.heap.size (.slice (some ⟨g, 0, none⟩) N c) p) ∧ Below W1.heap.size W1 W') ∨
  (e = .returned (.bool false) ∧ (∃ g c, Srch W' S sa (.slice (some ⟨g, 0, none⟩) N c) U l ∧ N ≤ c ∧ c ≤ maxLen) ∧ ∃ x W2 W3, PreC ov W1.heap.size res x W2 ∧ Below W1.heap.size W1 W2 ∧ T x W2 W3 ∧ S < W2.heap.size ∧ W2.heap.size ≤ W3.heap.size ∧ Chg1 S W3 W')

set_option maxRecDepth 100000 in
set_option maxHeartbeats 8000000 in
theorem extend (ov : Int) (a : Option Addr) (n cap : Nat) (R : List (List Int)) (res : List Int) (l S : Nat) (T : Array Value → World → World → Prop) (W1 : World) (hS1 : Sq W1 a n R) (hSB : W1.heap.size ≤ S)
    (hY : ∀ x W m, PreC ov W1.heap.size res x W → Below W1.heap.size W1 W → YieldAt Fence.wide m Try.prog l x W fun e W' => (e = .returned (.bool true) ∧ Below W.heap.size W W' ∧ GoC ov x) ∨ (e = .returned (.bool false) ∧ T x W W' ∧ W.heap.size ≤ W'.heap.size ∧ ∀ k, W1.heap.size ≤ k → k < W.heap.size → W'.heap[k]? = W.heap[k]?))
    (f : Nat) : ∀ (g c N : Nat) (p : List Int) (wt : Int) (U : Nat → Bool) (w : World), Below W1.heap.size W1 w → Srch w S (.slice a n cap) (.slice (some ⟨g, 0, none⟩) N c) U l → Own w W1.heap.size (.slice (some ⟨g, 0, none⟩) N c) p → M.nodesB n p = true → M.diffB p = true → 1 ≤ N → n + 1 ≤ f + N → -1000001000000 * (N : Int) ≤ wt → wt ≤ 1000001000000 * (N : Int) → (∀ i, i < n → i ≠ M.vx p 0 → U i = M.hasB p (i : Int)) → ((M.grow (M.ent R) n ov f p wt).length ≠ 0 → res = M.grow (M.ent R) n ov f p wt) →
    Calls Try.prog 120 #[.pointer (some ⟨S, 0, none⟩), .int .i64 wt] w (ExtPost ov (M.ent R) n f p wt res (.slice a n cap) S N l U T W1) := by
  induction f with
  | zero =>
    intro g c N p wt U w hB hs hO hn hd h1 hf hw1 hw2 hU hres
    have := M.diffB_len hn hd
    have := hO.len
    omega
  | succ f IH =>
    intro g c N p wt U w hB hs hO hn hd h1 hf hw1 hw2 hU hres
    obtain ⟨N, rfl⟩ : ∃ m, N = m + 1 := ⟨N - 1, by omega⟩
    have HIH := Lib.hid IH
    have HYY := Lib.hid hY
    have hpl : p.length = N + 1 := hO.len.symm
    have hle := M.diffB_len hn hd
    have hn10 := hS1.2.2.2.2
    have h0 := M.nodesB_at hn (k := 0) (by omega)
    have hN := M.nodesB_at hn (k := N) (by omega)
    obtain ⟨pb, po, x0, hpe0, -, hx0, c0⟩ := hO.ints'.at 0 (by omega)
    injection hpe0 with hpe0
    injection hpe0 with e1 e2 e3
    subst e1 e2
    obtain ⟨pb2, po2, x1, hpe, -, hx1, c1⟩ := hO.ints'.at N (by omega)
    injection hpe with hpe
    injection hpe with e1 e2 e3
    subst e1 e2
    rw [← hx0] at h0
    rw [← hx1] at hN
    obtain ⟨i, rfl⟩ := Int.eq_ofNat_of_zero_le h0.1
    obtain ⟨j, rfl⟩ := Int.eq_ofNat_of_zero_le hN.1
    have hi : i < n := by omega
    have hj : j < n := by omega
    have hvi : M.vx p 0 = i := by unfold M.vx; rw [← hx0]; simp
    have hvj : M.lastV p = j := by unfold M.lastV M.vx; rw [hpl, Nat.add_sub_cancel, ← hx1]; simp
    have hSw : Sq w a n R := hS1.below hB
    obtain ⟨ab, ao, ra, rc, L, lr, rfl, -, hlr, cr, hIr⟩ := hSw.1.at i hi
    have hL : L = n := by rw [← hIr.1, hlr]; exact hSw.2.1.2 i hi
    subst hL
    obtain ⟨rb, ro, z, rfl, -, hz, cz⟩ := hIr.at j hj
    have hze : z = M.ent R i j := by rw [hz, hlr]; rfl
    have hzs := hSw.2.2.1 i j hi hj
    rw [← hze] at hzs
    unfold M.Sm at hzs
    have HS := Lib.hid hS1
    have HSR := Lib.hid hs
    have HO := Lib.hid hO
    have HNd := Lib.hid hn
    have HDf := Lib.hid hd
    have HPl := Lib.hid hpl
    have HVi := Lib.hid hvi
    have HVj := Lib.hid hvj
    have HU := Lib.hid hU
    have HRES := Lib.hid hres
    have HBw := Lib.hid hB
    have ht1 : ((N : Int) + 1 - 1) = (N : Int) := by omega
    have hNb : N ≤ 10 := by omega
    simp only [Nat.zero_add] at c0 c1
    have HC : Hid (M.clB (M.ent R) ov p wt = (decide (z ≠ -1000000000000000) && decide (ov < wt + z))) := by show _ = _; unfold M.clB; rw [hvi, hvj, ← hze]
    have hSlt : S < w.heap.size := World.rowIs.lt hs
    have s0 := hs.c0
    have s1 := hs.c1
    clear hlr hIr hz hze hx0 hx1 h0 hN hvi hvj hn hd IH e3 hpl hSw hs hO hU hres hY hS1 hB
    have HCR := Lib.hid cr
    have HCZ := Lib.hid cz
    clear cr cz
    go_enter Try.func120, Try.ntmps120
    go_wp2
    go_quiet (fail)
    generalize hwq : World.drewN w _ = wq
    have hbq : Below w.heap.size w wq := by rw [← hwq]; exact b_draws w _
    have hSlt2 : S < wq.heap.size := Nat.lt_of_lt_of_le hSlt hbq.size
    have HSq := Lib.hid (HSR.out.block (hbq.block _ hSlt))
    have HOq := Lib.hid (HO.out.below hbq)
    have HBq := Lib.hid (HBw.out.trans (hbq.mono HBw.out.size))
    have cr := (hbq.cell (cell_lt HCR.out)).trans HCR.out
    have cz := (hbq.cell (cell_lt HCZ.out)).trans HCZ.out
    clear hwq c0 c1 hbq s0 s1 hSlt HCR HCZ
    have s0 := HSq.out.c0
    have s1 := HSq.out.c1
    have s12 := HSq.out.c12
    have hi1 : IntKind.i64.wrap ((i : Int) + 1) = (i : Int) + 1 := IntWalk.i64_in _ (by omega)
    obtain ⟨G, hG⟩ : ∃ G, G = M.stepG (M.ent R) L ov f p wt := ⟨_, rfl⟩
    have HGg := Lib.hid hG
    clear hG
    by_cases hzb : z = -1000000000000000
    · have hcl : M.clB (M.ent R) ov p wt = false := by rw [HC.out, hzb]; rfl
      have HG : Hid (M.grow (M.ent R) L ov (f + 1) p wt = M.pick G (L - (i + 1)) (i + 1)) := by
        show _ = _
        rw [M.grow_no hcl, HGg.out, HVi.out]
      subst hzb
      clear hcl HC
      go_wp2
      go_quiet (fail)
      generalize hwq : World.drewN wq _ = w3
      have hbq : Below wq.heap.size wq w3 := by rw [← hwq]; exact b_draws wq _
      have HS3 := Lib.hid (HSq.out.block (hbq.block _ hSlt2))
      have HO3 := Lib.hid (HOq.out.below hbq)
      have HB3 := Lib.hid (HBq.out.trans (hbq.mono HBq.out.size))
      clear hwq hbq s0 s1 s12 cr cz hSlt2 HSq HOq HBq
      go_wp2

      go_loopw [8] (fun v wr => ∃ k g c : Nat, i + 1 ≤ k ∧ k ≤ L ∧ v = .int .i64 k ∧ Hid (M.pick G (L - (i + 1)) (i + 1) = M.pick G (L - k) k) ∧ Hid (Srch wr S (.slice (some ⟨ab, ao, none⟩) L cap) (.slice (some ⟨g, 0, none⟩) (N + 1) c) U l) ∧ Hid (Own wr W1.heap.size (.slice (some ⟨g, 0, none⟩) (N + 1) c) p) ∧ Below W1.heap.size W1 wr) (fun v _ => L - (intOf v).toNat)
      case atStart => exact ⟨i + 1, g, c, by omega, by omega, by go_num, rfl, HS3, HO3, HB3.out⟩
      case round =>
        clear HS3 HO3 HB3
        obtain ⟨k, g, c, hk1, hk2, rfl, HK, HSr, HOr, hb⟩ := hrel
        obtain ⟨wo, rfl⟩ : ∃ x, x = wr := ⟨_, rfl⟩
        have HB1 := Lib.hid hb
        clear hb
        have s0 := HSr.out.c0
        have s1 := HSr.out.c1
        have hSlt := World.rowIs.lt HSr.out
        by_cases hk : k < L
        · have hki : (k : Int) < (L : Int) := by omega
          obtain ⟨ab', ao', ra', rc', L', lr, e', -, hlr, ck, hIr⟩ := (HS.out.below HB1.out).1.at k hk
          injection e' with e'
          injection e' with e1 e2 e3
          subst e1 e2
          have hL' : L' = L := by rw [← hIr.1, hlr]; exact HS.out.2.1.2 k hk
          subst hL'
          obtain ⟨rb', ro', y, rfl, -, hy, cy⟩ := hIr.at j hj
          have hye : y = M.ent R k j := by rw [hy, hlr]; rfl
          have hys := HS.out.2.2.1 k j hk hj
          rw [← hye] at hys
          unfold M.Sm at hys
          have HYe := Lib.hid hye
          clear hlr hIr hy hye e3
          by_cases hyb : y = -1000000000000000
          · have hg0 : (G k).length = 0 := by rw [HGg.out]; exact M.step_bot (by rw [HVj.out, ← HYe.out]; exact hyb)
            have HKn : Hid (M.pick G (L' - (i + 1)) (i + 1) = M.pick G (L' - (k + 1)) (k + 1)) := HK.out.trans (M.pick_no hk hg0)
            subst hyb
            clear hg0
            go_wp2
            go_roundw
            case rel => exact ⟨k + 1, g, c, by omega, by omega, by go_num, HKn, HSr, HOr, HB1.out⟩
            case measure => simp [intOf]; omega
          · have gy : (y == -1000000000000000) = false := by simpa using hyb
            have hcu := HSr.out.cU k (by omega)
            have hUk : U k = M.hasB p (k : Int) := HU.out k hk (by rw [HVi.out]; omega)
            by_cases hhb : M.hasB p (k : Int) = true
            · have hg0 : (G k).length = 0 := by rw [HGg.out]; exact M.step_has hhb
              have HKn : Hid (M.pick G (L' - (i + 1)) (i + 1) = M.pick G (L' - (k + 1)) (k + 1)) := HK.out.trans (M.pick_no hk hg0)
              rw [hUk, hhb] at hcu
              clear hg0 hUk hhb
              go_wp2
              go_roundw
              case rel => exact ⟨k + 1, g, c, by omega, by omega, by go_num, HKn, HSr, HOr, HB1.out⟩
              case measure => simp [intOf]; omega
            · simp only [Bool.not_eq_true] at hhb
              rw [hUk, hhb] at hcu
              have HUk := Lib.hid (hUk.trans hhb)
              have HHb := Lib.hid hhb
              clear hUk hhb
              have hk10 : (k : Int) < 10 := by omega
              have hfz := World.rowIs.frozen HSr.out 1
              have hfu := World.rowIs.frozen HSr.out (2 + k)
              have hap := HSr.out.apart HOr.out
              have hA1 : ∀ o, (wo.drew.alloc o).cell? ⟨S, 1, none⟩ = some (.slice (some ⟨g, 0, none⟩) (N + 1) c) := fun o => (World.cell?_alloc_old _ _ _ (Nat.ne_of_lt hSlt)).trans s1
              have HOd : Hid (Own wo.drew W1.heap.size (.slice (some ⟨g, 0, none⟩) (N + 1) c) p) := HOr.out.below (Below.refl _ _).drew
              go_wp2
              refine wp_region_any (by kernel_rfl) ?_
              change wpAny _ _ _ _ _ _ _ (World.drew _)
              refine wpAny_take (i := 0) (v := ?v0) rfl (by kernel_rfl) (by kernel_rfl) (by kernel_rfl) (fun _ _ _ h => h) (Or.inl ⟨by rfl, ?hy0⟩) ?rest0
              case hy0 => (intro w; go_simp; try with_reducible rfl)
              (try simp only [Act.put, List.setIfInBounds_toArray, List.set_cons_zero, List.set_cons_succ])
              refine wpAny_take (i := 1) (v := ?v1) rfl (by kernel_rfl) (by kernel_rfl) (by kernel_rfl) (fun _ _ _ h => h) (Or.inl ⟨by rfl, ?hy1⟩) ?rest1
              case hy1 => (intro w; go_simp; try with_reducible rfl)
              (try simp only [Act.put, List.setIfInBounds_toArray, List.set_cons_zero, List.set_cons_succ])
              refine wpAny_take (i := 2) (v := ?v2) rfl (by kernel_rfl) (by kernel_rfl) (by kernel_rfl) (fun _ _ _ h => h) (Or.inl ⟨by rfl, ?hy2⟩) ?rest2
              case hy2 => (intro w; go_simp; try with_reducible rfl)
              (try simp only [Act.put, List.setIfInBounds_toArray, List.set_cons_zero, List.set_cons_succ])
              refine wpAny_take (i := 3) (v := ?v3) rfl (by kernel_rfl) (by kernel_rfl) (by kernel_rfl) (fun _ _ _ h => h) (Or.inl ⟨by rfl, ?hy3⟩) ?rest3
              case hy3 => (intro w; go_simp; try with_reducible rfl)
              (try simp only [Act.put, List.setIfInBounds_toArray, List.set_cons_zero, List.set_cons_succ])
              refine wpAny_take (i := 4) (v := ?v4) rfl (by kernel_rfl) (by kernel_rfl) (by kernel_rfl) (fun _ _ _ h => h) (Or.inl ⟨by rfl, ?hy4⟩) ?rest4
              case hy4 => (intro w; go_simp; try with_reducible rfl)
              (try simp only [Act.put, List.setIfInBounds_toArray, List.set_cons_zero, List.set_cons_succ])
              refine wpAny_take (i := 5) (v := ?v5) rfl (by kernel_rfl) (by kernel_rfl) (by kernel_rfl) (fun _ _ _ h => h) (Or.inl ⟨by rfl, ?hy5⟩) ?rest5
              case hy5 => (intro w; go_simp; try with_reducible rfl)
              (try simp only [Act.put, List.setIfInBounds_toArray, List.set_cons_zero, List.set_cons_succ])
              refine wpAny_take (i := 7) (v := ?v7) rfl (by kernel_rfl) (by kernel_rfl) (by kernel_rfl) (fun _ _ _ h => h) (Or.inl ⟨by rfl, ?hy7⟩) ?rest7
              case hy7 => (intro w; go_simp; try with_reducible rfl)
              (try simp only [Act.put, List.setIfInBounds_toArray, List.set_cons_zero, List.set_cons_succ])
              refine wpAny_take (i := 13) (v := ?v13) rfl (by kernel_rfl) (by kernel_rfl) (by kernel_rfl) (fun _ _ _ h => h) (Or.inl ⟨by rfl, ?hy13⟩) ?rest13
              case hy13 => (intro w; go_simp; try with_reducible rfl)
              (try simp only [Act.put, List.setIfInBounds_toArray, List.set_cons_zero, List.set_cons_succ])
              refine wpAny_take (i := 14) (v := ?v14) rfl (by kernel_rfl) (by kernel_rfl) (by kernel_rfl) (fun _ _ _ h => h) (Or.inl ⟨by rfl, ?hy14⟩) ?rest14
              case hy14 => (intro w; go_simp; try with_reducible rfl)
              (try simp only [Act.put, List.setIfInBounds_toArray, List.set_cons_zero, List.set_cons_succ])
              refine wpAny_ready (rs := [6, 8]) (by kernel_rfl) (by simp) (AllReady.cons rfl (fun K hK => ?a6) (AllReady.cons rfl (fun K hK => ?a8) AllReady.nil))
              case' a6 =>
                go_simp
                refine hK _ _ ?_
                clear hK K
                (try simp only [Act.put, List.setIfInBounds_toArray, List.set_cons_zero, List.set_cons_succ])
                refine wpAny_ready (rs := [8]) (by kernel_rfl) (by simp) (AllReady.cons rfl (fun K hK => ?_) AllReady.nil)
                go_simp
                refine hK _ _ ?_
                clear hK K
                (try simp only [Act.put, List.setIfInBounds_toArray, List.set_cons_zero, List.set_cons_succ])
                refine wpAny_ready (rs := [9]) (by kernel_rfl) (by simp) (AllReady.cons rfl (fun K hK => ?_) AllReady.nil)
                refine step_append2 _ rfl _ _ rfl W1.heap.size _ p (k : Int) _ (N + 1) HPl.out rfl (HOd.out.below (b_alloc _ _)) rfl (by simp) (by omega) (by simp; have := HB1.out.size; omega) ?_
                intro g2 c2 w2 ho hb hk5
                have HO2 := Lib.hid ho
                have HBa := Lib.hid hb
                have HS2 := Lib.hid (HSr.out.block ((hk5 S (by simp; omega) (by intro e; exact hap (by injection e))).trans (Below.heap_alloc _ _ _ hSlt)))
                have t1 := HS2.out.c1
                have t2 := World.rowIs.frozen HS2.out 1
                have t3 := HS2.out.cU k (by omega)
                have t4 := World.rowIs.frozen HS2.out (2 + k)
                rw [HUk.out] at t3
                have t5 := fun x => (HS2.out.setPath x).cU k (by omega)
                have t6 := fun x => (HS2.out.setUsed k (by omega) x).c1
                simp only [HUk.out] at t5
                clear ho hb hk5
                refine hK _ _ ?_
                clear hK K
                (try simp only [Act.put, List.setIfInBounds_toArray, List.set_cons_zero, List.set_cons_succ])
                refine wpAny_ready (rs := [10]) (by kernel_rfl) (by simp) (AllReady.cons rfl (fun K hK => ?_) AllReady.nil)
                go_simp
                refine hK _ _ ?_
                clear hK K
                (try simp only [Act.put, List.setIfInBounds_toArray, List.set_cons_zero, List.set_cons_succ])
                refine wpAny_ready (rs := [11]) (by kernel_rfl) (by simp) (AllReady.cons rfl (fun K hK => ?_) AllReady.nil)
                go_simp
                refine hK _ _ ?_
                clear hK K
                (try simp only [Act.put, List.setIfInBounds_toArray, List.set_cons_zero, List.set_cons_succ])
                refine wpAny_ready (rs := [12]) (by kernel_rfl) (by simp) (AllReady.cons rfl (fun K hK => ?_) AllReady.nil)
                go_simp
                refine hK _ _ ?_
                clear hK K
                (try simp only [Act.put, List.setIfInBounds_toArray, List.set_cons_zero, List.set_cons_succ])
                refine wpAny_ready (rs := [15]) (by kernel_rfl) (by simp) (AllReady.cons rfl (fun K hK => ?_) AllReady.nil)
                go_simp
                refine hK _ _ ?_
                clear hK K
                (try simp only [Act.put, List.setIfInBounds_toArray, List.set_cons_zero, List.set_cons_succ])
                refine wpAny_ready (rs := [16]) (by kernel_rfl) (by simp) (AllReady.cons rfl (fun K hK => ?_) AllReady.nil)
                go_simp
                refine hK _ _ ?_
                clear hK K
                (try simp only [Act.put, List.setIfInBounds_toArray, List.set_cons_zero, List.set_cons_succ])
                refine wpAny_done (by kernel_rfl) ?_ _
              case' a8 =>
                go_simp
                refine hK _ _ ?_
                clear hK K
                (try simp only [Act.put, List.setIfInBounds_toArray, List.set_cons_zero, List.set_cons_succ])
                refine wpAny_ready (rs := [6]) (by kernel_rfl) (by simp) (AllReady.cons rfl (fun K hK => ?_) AllReady.nil)
                go_simp
                refine hK _ _ ?_
                clear hK K
                (try simp only [Act.put, List.setIfInBounds_toArray, List.set_cons_zero, List.set_cons_succ])
                refine wpAny_ready (rs := [9]) (by kernel_rfl) (by simp) (AllReady.cons rfl (fun K hK => ?_) AllReady.nil)
                refine step_append2 _ rfl _ _ rfl W1.heap.size _ p (k : Int) _ (N + 1) HPl.out rfl (HOd.out.below (b_alloc _ _)) rfl (by simp) (by omega) (by simp; have := HB1.out.size; omega) ?_
                intro g2 c2 w2 ho hb hk5
                have HO2 := Lib.hid ho
                have HBa := Lib.hid hb
                have HS2 := Lib.hid (HSr.out.block ((hk5 S (by simp; omega) (by intro e; exact hap (by injection e))).trans (Below.heap_alloc _ _ _ hSlt)))
                have t1 := HS2.out.c1
                have t2 := World.rowIs.frozen HS2.out 1
                have t3 := HS2.out.cU k (by omega)
                have t4 := World.rowIs.frozen HS2.out (2 + k)
                rw [HUk.out] at t3
                have t5 := fun x => (HS2.out.setPath x).cU k (by omega)
                have t6 := fun x => (HS2.out.setUsed k (by omega) x).c1
                simp only [HUk.out] at t5
                clear ho hb hk5
                refine hK _ _ ?_
                clear hK K
                (try simp only [Act.put, List.setIfInBounds_toArray, List.set_cons_zero, List.set_cons_succ])
                refine wpAny_ready (rs := [10]) (by kernel_rfl) (by simp) (AllReady.cons rfl (fun K hK => ?_) AllReady.nil)
                go_simp
                refine hK _ _ ?_
                clear hK K
                (try simp only [Act.put, List.setIfInBounds_toArray, List.set_cons_zero, List.set_cons_succ])
                refine wpAny_ready (rs := [11]) (by kernel_rfl) (by simp) (AllReady.cons rfl (fun K hK => ?_) AllReady.nil)
                go_simp
                refine hK _ _ ?_
                clear hK K
                (try simp only [Act.put, List.setIfInBounds_toArray, List.set_cons_zero, List.set_cons_succ])
                refine wpAny_ready (rs := [12]) (by kernel_rfl) (by simp) (AllReady.cons rfl (fun K hK => ?_) AllReady.nil)
                go_simp
                refine hK _ _ ?_
                clear hK K
                (try simp only [Act.put, List.setIfInBounds_toArray, List.set_cons_zero, List.set_cons_succ])
                refine wpAny_ready (rs := [15]) (by kernel_rfl) (by simp) (AllReady.cons rfl (fun K hK => ?_) AllReady.nil)
                go_simp
                refine hK _ _ ?_
                clear hK K
                (try simp only [Act.put, List.setIfInBounds_toArray, List.set_cons_zero, List.set_cons_succ])
                refine wpAny_ready (rs := [16]) (by kernel_rfl) (by simp) (AllReady.cons rfl (fun K hK => ?_) AllReady.nil)
                go_simp
                refine hK _ _ ?_
                clear hK K
                (try simp only [Act.put, List.setIfInBounds_toArray, List.set_cons_zero, List.set_cons_succ])
                refine wpAny_done (by kernel_rfl) ?_ _
              all_goals
                have HS4 := Lib.hid ((HS2.out.setPath (.slice (some ⟨g2, 0, none⟩) (N + 1 + 1) c2)).setUsed k (by omega) true)
                have hne2 := HS2.out.apart HO2.out
                have HO4 : Hid (Own ((w2.setCell ⟨S, 1, none⟩ (.slice (some ⟨g2, 0, none⟩) (N + 1 + 1) c2)).setCell ⟨S, 2 + k, none⟩ (.bool true)) W1.heap.size (.slice (some ⟨g2, 0, none⟩) (N + 1 + 1) c2) (p ++ [(k : Int)])) :=
                  ownsRow_keep HO2.out (fun q hv => by
                    have hq : g2 = q := by injection hv
                    subst hq
                    exact (Below.heap_setCell _ _ _ _ hne2).trans (Below.heap_setCell _ _ _ _ hne2))
                have HB4 : Hid (Below W1.heap.size W1 ((w2.setCell ⟨S, 1, none⟩ (.slice (some ⟨g2, 0, none⟩) (N + 1 + 1) c2)).setCell ⟨S, 2 + k, none⟩ (.bool true))) :=
                  ((((HB1.out.drew).alloc (by have := HB1.out.size; exact this) _).trans HBa.out).setCell (p := ⟨S, 1, none⟩) hSB _).setCell (p := ⟨S, 2 + k, none⟩) hSB _
                generalize ((w2.setCell ⟨S, 1, none⟩ (.slice (some ⟨g2, 0, none⟩) (N + 1 + 1) c2)).setCell ⟨S, 2 + k, none⟩ (.bool true)) = w4 at HS4 HO4 HB4 ⊢
                clear t1 t2 t3 t4 t5 t6 HS2 HO2 HBa hne2 s0 s1 hSlt hcu hfz hfu hap hA1 HOd
                have hwy : IntKind.i64.wrap (wt + y) = wt + y := IntWalk.i64_in _ (by omega)
                have HGk : Hid (G k = M.grow (M.ent R) L' ov f (p ++ [(k : Int)]) (wt + y)) := by
                  show _ = _
                  rw [HGg.out, M.step_go (by rw [HVj.out, ← HYe.out]; exact hyb) HHb.out, HVj.out, ← HYe.out]
                have HRc : Hid ((M.grow (M.ent R) L' ov f (p ++ [(k : Int)]) (wt + y)).length ≠ 0 → res = M.grow (M.ent R) L' ov f (p ++ [(k : Int)]) (wt + y)) := fun hc => by
                  have e : M.grow (M.ent R) L' ov (f + 1) p wt = M.grow (M.ent R) L' ov f (p ++ [(k : Int)]) (wt + y) := by
                    rw [HG.out, HK.out, M.pick_yes hk (by rw [HGk.out]; exact hc), HGk.out]
                  rw [← e]
                  exact HRES.out (by rw [e]; exact hc)
                have HU4 : Hid (∀ q, q < L' → q ≠ M.vx (p ++ [(k : Int)]) 0 → (fun i => if i = k then true else U i) q = M.hasB (p ++ [(k : Int)]) (q : Int)) := fun q hq hq0 => by
                  rw [M.snoc_first (by rw [HPl.out]; omega)] at hq0
                  rw [hasB_app, ← HU.out q hq hq0]
                  show (if q = k then true else U q) = _
                  by_cases e : q = k
                  · subst e; simp
                  · rw [if_neg e]
                    have : ¬ (q : Int) = (k : Int) := by omega
                    simp [this]
                have HN2 := Lib.hid (M.nodesB_snoc HNd.out hk)
                have HD2 := Lib.hid (M.diffB_snoc HDf.out HHb.out)
                go_wp2_with fail
                refine (HIH.out g2 c2 (N + 1 + 1) (p ++ [(k : Int)]) (wt + y) _ w4 HB4.out HS4.out HO4.out HN2.out HD2.out (by omega) (by omega) (by omega) (by omega) HU4.out HRc.out).mono ?_
                rintro e w5 (⟨rfl, hnil, ⟨g5, c5, hs5, ho5⟩, hb5⟩ | ⟨rfl, ⟨g5, c5, hs5, hc5, hc6⟩, hT⟩)
                · have hc5 := (own_cap ho5).1
                  have hci : (N : Int) + 1 ≤ (c5 : Int) := by omega
                  have HS5 := Lib.hid hs5
                  have HO5 := Lib.hid ho5
                  have HB5 := Lib.hid hb5
                  have HKn : Hid (M.pick G (L' - (i + 1)) (i + 1) = M.pick G (L' - (k + 1)) (k + 1)) := HK.out.trans (M.pick_no hk (by rw [HGk.out]; exact hnil))
                  clear hs5 ho5 hb5 hnil HS4 HO4 HB4 HRc HU4 HN2 HD2
                  have t1 := HS5.out.c1
                  have t2 := World.rowIs.frozen HS5.out 1
                  have t3 := HS5.out.cU k (by omega)
                  have t4 := World.rowIs.frozen HS5.out (2 + k)
                  simp only [if_true] at t3
                  have t5 := fun x => (HS5.out.setPath x).cU k (by omega)
                  have t6 := fun x => (HS5.out.setUsed k (by omega) x).c1
                  simp only [if_true] at t5
                  have ht2 : ((N : Int) + 1 + 1 - 1) = (N : Int) + 1 := by omega
                  go_wp2
                  go_region
                  all_goals
                    go_wp2
                    go_roundw
                    case rel =>
                      have HS6 := (HS5.out.setPath (.slice (some ⟨g5, 0, none⟩) (N + 1) c5)).setUsed k (by omega) false
                      have hne5 := HS5.out.apart HO5.out
                      refine ⟨k + 1, g5, c5, by omega, by omega, by go_num, HKn, ?_, ?_, ?_⟩
                      · exact HS6.congrU fun q => by
                          by_cases e : q = k
                          · subst e; simp [HUk.out]
                          · simp [e]
                      · exact own_cut (ownsRow_keep HO5.out (fun q hv => by
                          have hq : g5 = q := by injection hv
                          subst hq
                          exact (Below.heap_setCell _ _ _ _ hne5).trans (Below.heap_setCell _ _ _ _ hne5)))
                      · exact ((HB5.out.drew).setCell (p := ⟨S, 1, none⟩) hSB _).setCell (p := ⟨S, 2 + k, none⟩) hSB _
                    case measure => simp [intOf]; omega
                · have hci : (N : Int) + 1 ≤ (c5 : Int) := by omega
                  have HS5 := Lib.hid hs5
                  have HTT := Lib.hid hT
                  clear hs5 hT HS4 HO4 HB4 HRc HU4 HN2 HD2
                  have t1 := HS5.out.c1
                  have t2 := World.rowIs.frozen HS5.out 1
                  have t3 := HS5.out.cU k (by omega)
                  have t4 := World.rowIs.frozen HS5.out (2 + k)
                  simp only [if_true] at t3
                  have t5 := fun x => (HS5.out.setPath x).cU k (by omega)
                  have t6 := fun x => (HS5.out.setUsed k (by omega) x).c1
                  simp only [if_true] at t5
                  have ht2 : ((N : Int) + 1 + 1 - 1) = (N : Int) + 1 := by omega
                  go_wp2
                  go_region
                  all_goals
                    go_wp2
                    go_ret
                    have HS6 := (HS5.out.setPath (.slice (some ⟨g5, 0, none⟩) (N + 1) c5)).setUsed k (by omega) false
                    obtain ⟨x, W2, W3, q1, q2, q3, q4, q5, q6⟩ := HTT.out
                    refine .inr ⟨rfl, ⟨g5, c5, ?_, by omega, hc6⟩, x, W2, W3, q1, q2, q3, q4, q5, ?_⟩
                    · exact HS6.congrU fun q => by
                        by_cases e : q = k
                        · subst e; simp [HUk.out]
                        · simp [e]
                    · exact ((q6.drew S).setCell (p := ⟨S, 1, none⟩) _).setCell (p := ⟨S, 2 + k, none⟩) _
        · obtain rfl : k = L := by omega
          have HE : Hid (M.grow (M.ent R) k ov (f + 1) p wt = []) := HG.out.trans (HK.out.trans M.pick_end)
          go_wp2
          go_ret
          exact .inl ⟨rfl, by rw [HE.out]; rfl, ⟨g, c, HSr.out, HOr.out⟩, HB1.out⟩
    · have hzn : (z != -1000000000000000) = true := by simpa using hzb
      have hwz : IntKind.i64.wrap (wt + z) = wt + z := IntWalk.i64_in _ (by omega)
      have HOd : Hid (Own wq.drew W1.heap.size (.slice (some ⟨g, 0, none⟩) (N + 1) c) p) := HOq.out.below (Below.refl _ _).drew
      have HP : Hid (PreC ov W1.heap.size res #[.slice (some ⟨g, 0, none⟩) (N + 1) c, .int .i64 (wt + z)] wq.drew) :=
        ⟨_, _, _, p, wt + z, rfl, HOd.out, by omega, by have := HPl.out; omega, fun h0 => by
          have hcl : M.clB (M.ent R) ov p wt = true := by rw [HC.out]; simp [hzb, h0]
          have e := M.grow_yes (n := L) (f := f) hcl
          have := HRES.out (by rw [e, HPl.out]; omega)
          rw [this, e]⟩
      have HBd : Hid (Below W1.heap.size W1 wq.drew) := HBq.out.drew
      obtain ⟨fn, tmps, assign, body, hy, hR⟩ := HYY.out #[.slice (some ⟨g, 0, none⟩) (N + 1) c, .int .i64 (wt + z)] wq.drew (3 - 1) HP.out HBd.out
      go_wp2
      refine (wpIn_wide (n := 3)).1 ?_
      refine wpIn_region_still_tail 14 (by kernel_rfl) (by kernel_rfl) ?_
      simp only [List.take_succ_cons, List.take_zero, List.drop_succ_cons, List.drop_zero]
      repeat still_step
      try refine wpStill_nil ?_
      change wpListIn _ _ _ _ _ _ _ wq.drew
      gi_wp2_with ((try refine ⟨fun h => by simp [Fence.wide] at h, ?_⟩); refine hR.mono ?_; clear hR; rintro e w3 (⟨rfl, hb3, hgo⟩ | ⟨rfl, hT, hsz, hkeep⟩))
      · obtain ⟨v', wt', he, hle⟩ := hgo
        have hwe : wt' = wt + z := by
          have := congrArg (fun a : Array Value => a[1]?) he
          simp at this
          omega
        have hcl : M.clB (M.ent R) ov p wt = false := by
          rw [HC.out]
          have : ¬ (ov < wt + z) := by omega
          simp [this]
        have HG : Hid (M.grow (M.ent R) L ov (f + 1) p wt = M.pick G (L - (i + 1)) (i + 1)) := by
          show _ = _
          rw [M.grow_no hcl, HGg.out, HVi.out]
        have HS3 := Lib.hid (HSq.out.block (hb3.block _ hSlt2))
        have HO3 := Lib.hid (HOd.out.below hb3)
        have HB3 := Lib.hid (HBd.out.trans (hb3.mono HBd.out.size))
        clear hcl HC hb3 s0 s1 s12 cr cz hSlt2 HSq HOq HBq HOd HBd HP hy he hle hwe
        go_wp2
        go_loopw [8] (fun v wr => ∃ k g c : Nat, i + 1 ≤ k ∧ k ≤ L ∧ v = .int .i64 k ∧ Hid (M.pick G (L - (i + 1)) (i + 1) = M.pick G (L - k) k) ∧ Hid (Srch wr S (.slice (some ⟨ab, ao, none⟩) L cap) (.slice (some ⟨g, 0, none⟩) (N + 1) c) U l) ∧ Hid (Own wr W1.heap.size (.slice (some ⟨g, 0, none⟩) (N + 1) c) p) ∧ Below W1.heap.size W1 wr) (fun v _ => L - (intOf v).toNat)
        case atStart => exact ⟨i + 1, g, c, by omega, by omega, by go_num, rfl, HS3, HO3, HB3.out⟩
        case round =>
          clear HS3 HO3 HB3
          obtain ⟨k, g, c, hk1, hk2, rfl, HK, HSr, HOr, hb⟩ := hrel
          obtain ⟨wo, rfl⟩ : ∃ x, x = wr := ⟨_, rfl⟩
          have HB1 := Lib.hid hb
          clear hb
          have s0 := HSr.out.c0
          have s1 := HSr.out.c1
          have hSlt := World.rowIs.lt HSr.out
          by_cases hk : k < L
          · have hki : (k : Int) < (L : Int) := by omega
            obtain ⟨ab', ao', ra', rc', L', lr, e', -, hlr, ck, hIr⟩ := (HS.out.below HB1.out).1.at k hk
            injection e' with e'
            injection e' with e1 e2 e3
            subst e1 e2
            have hL' : L' = L := by rw [← hIr.1, hlr]; exact HS.out.2.1.2 k hk
            subst hL'
            obtain ⟨rb', ro', y, rfl, -, hy, cy⟩ := hIr.at j hj
            have hye : y = M.ent R k j := by rw [hy, hlr]; rfl
            have hys := HS.out.2.2.1 k j hk hj
            rw [← hye] at hys
            unfold M.Sm at hys
            have HYe := Lib.hid hye
            clear hlr hIr hy hye e3
            by_cases hyb : y = -1000000000000000
            · have hg0 : (G k).length = 0 := by rw [HGg.out]; exact M.step_bot (by rw [HVj.out, ← HYe.out]; exact hyb)
              have HKn : Hid (M.pick G (L' - (i + 1)) (i + 1) = M.pick G (L' - (k + 1)) (k + 1)) := HK.out.trans (M.pick_no hk hg0)
              subst hyb
              clear hg0
              go_wp2
              go_roundw
              case rel => exact ⟨k + 1, g, c, by omega, by omega, by go_num, HKn, HSr, HOr, HB1.out⟩
              case measure => simp [intOf]; omega
            · have gy : (y == -1000000000000000) = false := by simpa using hyb
              have hcu := HSr.out.cU k (by omega)
              have hUk : U k = M.hasB p (k : Int) := HU.out k hk (by rw [HVi.out]; omega)
              by_cases hhb : M.hasB p (k : Int) = true
              · have hg0 : (G k).length = 0 := by rw [HGg.out]; exact M.step_has hhb
                have HKn : Hid (M.pick G (L' - (i + 1)) (i + 1) = M.pick G (L' - (k + 1)) (k + 1)) := HK.out.trans (M.pick_no hk hg0)
                rw [hUk, hhb] at hcu
                clear hg0 hUk hhb
                go_wp2
                go_roundw
                case rel => exact ⟨k + 1, g, c, by omega, by omega, by go_num, HKn, HSr, HOr, HB1.out⟩
                case measure => simp [intOf]; omega
              · simp only [Bool.not_eq_true] at hhb
                rw [hUk, hhb] at hcu
                have HUk := Lib.hid (hUk.trans hhb)
                have HHb := Lib.hid hhb
                clear hUk hhb
                have hk10 : (k : Int) < 10 := by omega
                have hfz := World.rowIs.frozen HSr.out 1
                have hfu := World.rowIs.frozen HSr.out (2 + k)
                have hap := HSr.out.apart HOr.out
                have hA1 : ∀ o, (wo.drew.alloc o).cell? ⟨S, 1, none⟩ = some (.slice (some ⟨g, 0, none⟩) (N + 1) c) := fun o => (World.cell?_alloc_old _ _ _ (Nat.ne_of_lt hSlt)).trans s1
                have HOd : Hid (Own wo.drew W1.heap.size (.slice (some ⟨g, 0, none⟩) (N + 1) c) p) := HOr.out.below (Below.refl _ _).drew
                go_wp2
                refine wp_region_any (by kernel_rfl) ?_
                change wpAny _ _ _ _ _ _ _ (World.drew _)
                refine wpAny_take (i := 0) (v := ?v0z) rfl (by kernel_rfl) (by kernel_rfl) (by kernel_rfl) (fun _ _ _ h => h) (Or.inl ⟨by rfl, ?hy0z⟩) ?rest0z
                case hy0z => (intro w; go_simp; try with_reducible rfl)
                (try simp only [Act.put, List.setIfInBounds_toArray, List.set_cons_zero, List.set_cons_succ])
                refine wpAny_take (i := 1) (v := ?v1z) rfl (by kernel_rfl) (by kernel_rfl) (by kernel_rfl) (fun _ _ _ h => h) (Or.inl ⟨by rfl, ?hy1z⟩) ?rest1z
                case hy1z => (intro w; go_simp; try with_reducible rfl)
                (try simp only [Act.put, List.setIfInBounds_toArray, List.set_cons_zero, List.set_cons_succ])
                refine wpAny_take (i := 2) (v := ?v2z) rfl (by kernel_rfl) (by kernel_rfl) (by kernel_rfl) (fun _ _ _ h => h) (Or.inl ⟨by rfl, ?hy2z⟩) ?rest2z
                case hy2z => (intro w; go_simp; try with_reducible rfl)
                (try simp only [Act.put, List.setIfInBounds_toArray, List.set_cons_zero, List.set_cons_succ])
                refine wpAny_take (i := 3) (v := ?v3z) rfl (by kernel_rfl) (by kernel_rfl) (by kernel_rfl) (fun _ _ _ h => h) (Or.inl ⟨by rfl, ?hy3z⟩) ?rest3z
                case hy3z => (intro w; go_simp; try with_reducible rfl)
                (try simp only [Act.put, List.setIfInBounds_toArray, List.set_cons_zero, List.set_cons_succ])
                refine wpAny_take (i := 4) (v := ?v4z) rfl (by kernel_rfl) (by kernel_rfl) (by kernel_rfl) (fun _ _ _ h => h) (Or.inl ⟨by rfl, ?hy4z⟩) ?rest4z
                case hy4z => (intro w; go_simp; try with_reducible rfl)
                (try simp only [Act.put, List.setIfInBounds_toArray, List.set_cons_zero, List.set_cons_succ])
                refine wpAny_take (i := 5) (v := ?v5z) rfl (by kernel_rfl) (by kernel_rfl) (by kernel_rfl) (fun _ _ _ h => h) (Or.inl ⟨by rfl, ?hy5z⟩) ?rest5z
                case hy5z => (intro w; go_simp; try with_reducible rfl)
                (try simp only [Act.put, List.setIfInBounds_toArray, List.set_cons_zero, List.set_cons_succ])
                refine wpAny_take (i := 7) (v := ?v7z) rfl (by kernel_rfl) (by kernel_rfl) (by kernel_rfl) (fun _ _ _ h => h) (Or.inl ⟨by rfl, ?hy7z⟩) ?rest7z
                case hy7z => (intro w; go_simp; try with_reducible rfl)
                (try simp only [Act.put, List.setIfInBounds_toArray, List.set_cons_zero, List.set_cons_succ])
                refine wpAny_take (i := 13) (v := ?v13z) rfl (by kernel_rfl) (by kernel_rfl) (by kernel_rfl) (fun _ _ _ h => h) (Or.inl ⟨by rfl, ?hy13z⟩) ?rest13z
                case hy13z => (intro w; go_simp; try with_reducible rfl)
                (try simp only [Act.put, List.setIfInBounds_toArray, List.set_cons_zero, List.set_cons_succ])
                refine wpAny_take (i := 14) (v := ?v14z) rfl (by kernel_rfl) (by kernel_rfl) (by kernel_rfl) (fun _ _ _ h => h) (Or.inl ⟨by rfl, ?hy14z⟩) ?rest14z
                case hy14z => (intro w; go_simp; try with_reducible rfl)
                (try simp only [Act.put, List.setIfInBounds_toArray, List.set_cons_zero, List.set_cons_succ])
                refine wpAny_ready (rs := [6, 8]) (by kernel_rfl) (by simp) (AllReady.cons rfl (fun K hK => ?a6z) (AllReady.cons rfl (fun K hK => ?a8z) AllReady.nil))
                case' a6z =>
                  go_simp
                  refine hK _ _ ?_
                  clear hK K
                  (try simp only [Act.put, List.setIfInBounds_toArray, List.set_cons_zero, List.set_cons_succ])
                  refine wpAny_ready (rs := [8]) (by kernel_rfl) (by simp) (AllReady.cons rfl (fun K hK => ?_) AllReady.nil)
                  go_simp
                  refine hK _ _ ?_
                  clear hK K
                  (try simp only [Act.put, List.setIfInBounds_toArray, List.set_cons_zero, List.set_cons_succ])
                  refine wpAny_ready (rs := [9]) (by kernel_rfl) (by simp) (AllReady.cons rfl (fun K hK => ?_) AllReady.nil)
                  refine step_append2 _ rfl _ _ rfl W1.heap.size _ p (k : Int) _ (N + 1) HPl.out rfl (HOd.out.below (b_alloc _ _)) rfl (by simp) (by omega) (by simp; have := HB1.out.size; omega) ?_
                  intro g2 c2 w2 ho hb hk5
                  have HO2 := Lib.hid ho
                  have HBa := Lib.hid hb
                  have HS2 := Lib.hid (HSr.out.block ((hk5 S (by simp; omega) (by intro e; exact hap (by injection e))).trans (Below.heap_alloc _ _ _ hSlt)))
                  have t1 := HS2.out.c1
                  have t2 := World.rowIs.frozen HS2.out 1
                  have t3 := HS2.out.cU k (by omega)
                  have t4 := World.rowIs.frozen HS2.out (2 + k)
                  rw [HUk.out] at t3
                  have t5 := fun x => (HS2.out.setPath x).cU k (by omega)
                  have t6 := fun x => (HS2.out.setUsed k (by omega) x).c1
                  simp only [HUk.out] at t5
                  clear ho hb hk5
                  refine hK _ _ ?_
                  clear hK K
                  (try simp only [Act.put, List.setIfInBounds_toArray, List.set_cons_zero, List.set_cons_succ])
                  refine wpAny_ready (rs := [10]) (by kernel_rfl) (by simp) (AllReady.cons rfl (fun K hK => ?_) AllReady.nil)
                  go_simp
                  refine hK _ _ ?_
                  clear hK K
                  (try simp only [Act.put, List.setIfInBounds_toArray, List.set_cons_zero, List.set_cons_succ])
                  refine wpAny_ready (rs := [11]) (by kernel_rfl) (by simp) (AllReady.cons rfl (fun K hK => ?_) AllReady.nil)
                  go_simp
                  refine hK _ _ ?_
                  clear hK K
                  (try simp only [Act.put, List.setIfInBounds_toArray, List.set_cons_zero, List.set_cons_succ])
                  refine wpAny_ready (rs := [12]) (by kernel_rfl) (by simp) (AllReady.cons rfl (fun K hK => ?_) AllReady.nil)
                  go_simp
                  refine hK _ _ ?_
                  clear hK K
                  (try simp only [Act.put, List.setIfInBounds_toArray, List.set_cons_zero, List.set_cons_succ])
                  refine wpAny_ready (rs := [15]) (by kernel_rfl) (by simp) (AllReady.cons rfl (fun K hK => ?_) AllReady.nil)
                  go_simp
                  refine hK _ _ ?_
                  clear hK K
                  (try simp only [Act.put, List.setIfInBounds_toArray, List.set_cons_zero, List.set_cons_succ])
                  refine wpAny_ready (rs := [16]) (by kernel_rfl) (by simp) (AllReady.cons rfl (fun K hK => ?_) AllReady.nil)
                  go_simp
                  refine hK _ _ ?_
                  clear hK K
                  (try simp only [Act.put, List.setIfInBounds_toArray, List.set_cons_zero, List.set_cons_succ])
                  refine wpAny_done (by kernel_rfl) ?_ _
                case' a8z =>
                  go_simp
                  refine hK _ _ ?_
                  clear hK K
                  (try simp only [Act.put, List.setIfInBounds_toArray, List.set_cons_zero, List.set_cons_succ])
                  refine wpAny_ready (rs := [6]) (by kernel_rfl) (by simp) (AllReady.cons rfl (fun K hK => ?_) AllReady.nil)
                  go_simp
                  refine hK _ _ ?_
                  clear hK K
                  (try simp only [Act.put, List.setIfInBounds_toArray, List.set_cons_zero, List.set_cons_succ])
                  refine wpAny_ready (rs := [9]) (by kernel_rfl) (by simp) (AllReady.cons rfl (fun K hK => ?_) AllReady.nil)
                  refine step_append2 _ rfl _ _ rfl W1.heap.size _ p (k : Int) _ (N + 1) HPl.out rfl (HOd.out.below (b_alloc _ _)) rfl (by simp) (by omega) (by simp; have := HB1.out.size; omega) ?_
                  intro g2 c2 w2 ho hb hk5
                  have HO2 := Lib.hid ho
                  have HBa := Lib.hid hb
                  have HS2 := Lib.hid (HSr.out.block ((hk5 S (by simp; omega) (by intro e; exact hap (by injection e))).trans (Below.heap_alloc _ _ _ hSlt)))
                  have t1 := HS2.out.c1
                  have t2 := World.rowIs.frozen HS2.out 1
                  have t3 := HS2.out.cU k (by omega)
                  have t4 := World.rowIs.frozen HS2.out (2 + k)
                  rw [HUk.out] at t3
                  have t5 := fun x => (HS2.out.setPath x).cU k (by omega)
                  have t6 := fun x => (HS2.out.setUsed k (by omega) x).c1
                  simp only [HUk.out] at t5
                  clear ho hb hk5
                  refine hK _ _ ?_
                  clear hK K
                  (try simp only [Act.put, List.setIfInBounds_toArray, List.set_cons_zero, List.set_cons_succ])
                  refine wpAny_ready (rs := [10]) (by kernel_rfl) (by simp) (AllReady.cons rfl (fun K hK => ?_) AllReady.nil)
                  go_simp
                  refine hK _ _ ?_
                  clear hK K
                  (try simp only [Act.put, List.setIfInBounds_toArray, List.set_cons_zero, List.set_cons_succ])
                  refine wpAny_ready (rs := [11]) (by kernel_rfl) (by simp) (AllReady.cons rfl (fun K hK => ?_) AllReady.nil)
                  go_simp
                  refine hK _ _ ?_
                  clear hK K
                  (try simp only [Act.put, List.setIfInBounds_toArray, List.set_cons_zero, List.set_cons_succ])
                  refine wpAny_ready (rs := [12]) (by kernel_rfl) (by simp) (AllReady.cons rfl (fun K hK => ?_) AllReady.nil)
                  go_simp
                  refine hK _ _ ?_
                  clear hK K
                  (try simp only [Act.put, List.setIfInBounds_toArray, List.set_cons_zero, List.set_cons_succ])
                  refine wpAny_ready (rs := [15]) (by kernel_rfl) (by simp) (AllReady.cons rfl (fun K hK => ?_) AllReady.nil)
                  go_simp
                  refine hK _ _ ?_
                  clear hK K
                  (try simp only [Act.put, List.setIfInBounds_toArray, List.set_cons_zero, List.set_cons_succ])
                  refine wpAny_ready (rs := [16]) (by kernel_rfl) (by simp) (AllReady.cons rfl (fun K hK => ?_) AllReady.nil)
                  go_simp
                  refine hK _ _ ?_
                  clear hK K
                  (try simp only [Act.put, List.setIfInBounds_toArray, List.set_cons_zero, List.set_cons_succ])
                  refine wpAny_done (by kernel_rfl) ?_ _
                all_goals
                  have HS4 := Lib.hid ((HS2.out.setPath (.slice (some ⟨g2, 0, none⟩) (N + 1 + 1) c2)).setUsed k (by omega) true)
                  have hne2 := HS2.out.apart HO2.out
                  have HO4 : Hid (Own ((w2.setCell ⟨S, 1, none⟩ (.slice (some ⟨g2, 0, none⟩) (N + 1 + 1) c2)).setCell ⟨S, 2 + k, none⟩ (.bool true)) W1.heap.size (.slice (some ⟨g2, 0, none⟩) (N + 1 + 1) c2) (p ++ [(k : Int)])) :=
                    ownsRow_keep HO2.out (fun q hv => by
                      have hq : g2 = q := by injection hv
                      subst hq
                      exact (Below.heap_setCell _ _ _ _ hne2).trans (Below.heap_setCell _ _ _ _ hne2))
                  have HB4 : Hid (Below W1.heap.size W1 ((w2.setCell ⟨S, 1, none⟩ (.slice (some ⟨g2, 0, none⟩) (N + 1 + 1) c2)).setCell ⟨S, 2 + k, none⟩ (.bool true))) :=
                    ((((HB1.out.drew).alloc (by have := HB1.out.size; exact this) _).trans HBa.out).setCell (p := ⟨S, 1, none⟩) hSB _).setCell (p := ⟨S, 2 + k, none⟩) hSB _
                  generalize ((w2.setCell ⟨S, 1, none⟩ (.slice (some ⟨g2, 0, none⟩) (N + 1 + 1) c2)).setCell ⟨S, 2 + k, none⟩ (.bool true)) = w4 at HS4 HO4 HB4 ⊢
                  clear t1 t2 t3 t4 t5 t6 HS2 HO2 HBa hne2 s0 s1 hSlt hcu hfz hfu hap hA1 HOd
                  have hwy : IntKind.i64.wrap (wt + y) = wt + y := IntWalk.i64_in _ (by omega)
                  have HGk : Hid (G k = M.grow (M.ent R) L' ov f (p ++ [(k : Int)]) (wt + y)) := by
                    show _ = _
                    rw [HGg.out, M.step_go (by rw [HVj.out, ← HYe.out]; exact hyb) HHb.out, HVj.out, ← HYe.out]
                  have HRc : Hid ((M.grow (M.ent R) L' ov f (p ++ [(k : Int)]) (wt + y)).length ≠ 0 → res = M.grow (M.ent R) L' ov f (p ++ [(k : Int)]) (wt + y)) := fun hc => by
                    have e : M.grow (M.ent R) L' ov (f + 1) p wt = M.grow (M.ent R) L' ov f (p ++ [(k : Int)]) (wt + y) := by
                      rw [HG.out, HK.out, M.pick_yes hk (by rw [HGk.out]; exact hc), HGk.out]
                    rw [← e]
                    exact HRES.out (by rw [e]; exact hc)
                  have HU4 : Hid (∀ q, q < L' → q ≠ M.vx (p ++ [(k : Int)]) 0 → (fun i => if i = k then true else U i) q = M.hasB (p ++ [(k : Int)]) (q : Int)) := fun q hq hq0 => by
                    rw [M.snoc_first (by rw [HPl.out]; omega)] at hq0
                    rw [hasB_app, ← HU.out q hq hq0]
                    show (if q = k then true else U q) = _
                    by_cases e : q = k
                    · subst e; simp
                    · rw [if_neg e]
                      have : ¬ (q : Int) = (k : Int) := by omega
                      simp [this]
                  have HN2 := Lib.hid (M.nodesB_snoc HNd.out hk)
                  have HD2 := Lib.hid (M.diffB_snoc HDf.out HHb.out)
                  go_wp2_with fail
                  refine (HIH.out g2 c2 (N + 1 + 1) (p ++ [(k : Int)]) (wt + y) _ w4 HB4.out HS4.out HO4.out HN2.out HD2.out (by omega) (by omega) (by omega) (by omega) HU4.out HRc.out).mono ?_
                  rintro e w5 (⟨rfl, hnil, ⟨g5, c5, hs5, ho5⟩, hb5⟩ | ⟨rfl, ⟨g5, c5, hs5, hc5, hc6⟩, hT⟩)
                  · have hc5 := (own_cap ho5).1
                    have hci : (N : Int) + 1 ≤ (c5 : Int) := by omega
                    have HS5 := Lib.hid hs5
                    have HO5 := Lib.hid ho5
                    have HB5 := Lib.hid hb5
                    have HKn : Hid (M.pick G (L' - (i + 1)) (i + 1) = M.pick G (L' - (k + 1)) (k + 1)) := HK.out.trans (M.pick_no hk (by rw [HGk.out]; exact hnil))
                    clear hs5 ho5 hb5 hnil HS4 HO4 HB4 HRc HU4 HN2 HD2
                    have t1 := HS5.out.c1
                    have t2 := World.rowIs.frozen HS5.out 1
                    have t3 := HS5.out.cU k (by omega)
                    have t4 := World.rowIs.frozen HS5.out (2 + k)
                    simp only [if_true] at t3
                    have t5 := fun x => (HS5.out.setPath x).cU k (by omega)
                    have t6 := fun x => (HS5.out.setUsed k (by omega) x).c1
                    simp only [if_true] at t5
                    have ht2 : ((N : Int) + 1 + 1 - 1) = (N : Int) + 1 := by omega
                    go_wp2
                    go_region
                    all_goals
                      go_wp2
                      go_roundw
                      case rel =>
                        have HS6 := (HS5.out.setPath (.slice (some ⟨g5, 0, none⟩) (N + 1) c5)).setUsed k (by omega) false
                        have hne5 := HS5.out.apart HO5.out
                        refine ⟨k + 1, g5, c5, by omega, by omega, by go_num, HKn, ?_, ?_, ?_⟩
                        · exact HS6.congrU fun q => by
                            by_cases e : q = k
                            · subst e; simp [HUk.out]
                            · simp [e]
                        · exact own_cut (ownsRow_keep HO5.out (fun q hv => by
                            have hq : g5 = q := by injection hv
                            subst hq
                            exact (Below.heap_setCell _ _ _ _ hne5).trans (Below.heap_setCell _ _ _ _ hne5)))
                        · exact ((HB5.out.drew).setCell (p := ⟨S, 1, none⟩) hSB _).setCell (p := ⟨S, 2 + k, none⟩) hSB _
                      case measure => simp [intOf]; omega
                  · have hci : (N : Int) + 1 ≤ (c5 : Int) := by omega
                    have HS5 := Lib.hid hs5
                    have HTT := Lib.hid hT
                    clear hs5 hT HS4 HO4 HB4 HRc HU4 HN2 HD2
                    have t1 := HS5.out.c1
                    have t2 := World.rowIs.frozen HS5.out 1
                    have t3 := HS5.out.cU k (by omega)
                    have t4 := World.rowIs.frozen HS5.out (2 + k)
                    simp only [if_true] at t3
                    have t5 := fun x => (HS5.out.setPath x).cU k (by omega)
                    have t6 := fun x => (HS5.out.setUsed k (by omega) x).c1
                    simp only [if_true] at t5
                    have ht2 : ((N : Int) + 1 + 1 - 1) = (N : Int) + 1 := by omega
                    go_wp2
                    go_region
                    all_goals
                      go_wp2
                      go_ret
                      have HS6 := (HS5.out.setPath (.slice (some ⟨g5, 0, none⟩) (N + 1) c5)).setUsed k (by omega) false
                      obtain ⟨x, W2, W3, q1, q2, q3, q4, q5, q6⟩ := HTT.out
                      refine .inr ⟨rfl, ⟨g5, c5, ?_, by omega, hc6⟩, x, W2, W3, q1, q2, q3, q4, q5, ?_⟩
                      · exact HS6.congrU fun q => by
                          by_cases e : q = k
                          · subst e; simp [HUk.out]
                          · simp [e]
                      · exact ((q6.drew S).setCell (p := ⟨S, 1, none⟩) _).setCell (p := ⟨S, 2 + k, none⟩) _
          · obtain rfl : k = L := by omega
            have HE : Hid (M.grow (M.ent R) k ov (f + 1) p wt = []) := HG.out.trans (HK.out.trans M.pick_end)
            go_wp2
            go_ret
            exact .inl ⟨rfl, by rw [HE.out]; rfl, ⟨g, c, HSr.out, HOr.out⟩, HB1.out⟩
      · have HS3 := Lib.hid (HSq.out.block (hkeep S hSB hSlt2))
        have hcc := own_cap HOd.out
        have HF : Hid (∃ x W2 W3, PreC ov W1.heap.size res x W2 ∧ Below W1.heap.size W1 W2 ∧ T x W2 W3 ∧ S < W2.heap.size ∧ W2.heap.size ≤ W3.heap.size ∧ Chg1 S W3 w3) := ⟨_, _, _, HP.out, HBd.out, hT, hSlt2, hsz, Chg1.refl _ _⟩
        clear hT hsz hkeep hy
        go_wp2
        go_ret
        exact .inr ⟨rfl, ⟨g, c, HS3.out, hcc.1, hcc.2⟩, HF.out⟩
end Go.Proofs.Ythonlfjjgmmnpab.V

namespace Go.Proofs.Ythonlfjjgmmnpab.V
open Go Go.RowKit

/-- The cells of a new search, before yield is laid. -/
abbrev newSrch (sa v : Value) : Obj := .cells #[sa, v, .bool false, .bool false, .bool false, .bool false, .bool false, .bool false, .bool false, .bool false, .bool false, .bool false, .nilFunc] 128
theorem newSrch_row (W : World) (sa v : Value) : (W.alloc (newSrch sa v)).rowIs W.heap.size 128 13 (fun i => if i = 0 then sa else if i = 1 then v else if i = 12 then .nilFunc else .bool false) :=
  World.rowIs_alloc W #[sa, v, .bool false, .bool false, .bool false, .bool false, .bool false, .bool false, .bool false, .bool false, .bool false, .bool false, .nilFunc] 128 _ (fun i hi => by
    match i, hi with
    | 0, _ => rfl
    | 1, _ => rfl
    | 2, _ => rfl
    | 3, _ => rfl
    | 4, _ => rfl
    | 5, _ => rfl
    | 6, _ => rfl
    | 7, _ => rfl
    | 8, _ => rfl
    | 9, _ => rfl
    | 10, _ => rfl
    | 11, _ => rfl
    | 12, _ => rfl)
abbrev newSrch2 (sa v : Value) (l : Nat) : Obj := .cells #[sa, v, .bool false, .bool false, .bool false, .bool false, .bool false, .bool false, .bool false, .bool false, .bool false, .bool false, .func (.yield l) #[] #[]] 128
theorem newSrch_srch (W : World) (sa v : Value) (l : Nat) : Srch (W.alloc (newSrch2 sa v l)) W.heap.size sa v (fun _ => false) l :=
  World.rowIs_alloc W #[sa, v, .bool false, .bool false, .bool false, .bool false, .bool false, .bool false, .bool false, .bool false, .bool false, .bool false, .func (.yield l) #[] #[]] 128 _ (fun i hi => by
    match i, hi with
    | 0, _ => rfl
    | 1, _ => rfl
    | 2, _ => rfl
    | 3, _ => rfl
    | 4, _ => rfl
    | 5, _ => rfl
    | 6, _ => rfl
    | 7, _ => rfl
    | 8, _ => rfl
    | 9, _ => rfl
    | 10, _ => rfl
    | 11, _ => rfl
    | 12, _ => rfl)

set_option maxRecDepth 100000 in
set_option maxHeartbeats 4000000 in
theorem cycles1 (ov : Int) (a : Option Addr) (n cap : Nat) (R : List (List Int)) (i l Ba Bf : Nat) (T : Array Value → World → World → Prop) (W1 : World) (hS1 : Sq W1 a n R) (hi : i < n)
    (hca : W1.cell? ⟨Ba, 0, none⟩ = some (.slice a n cap)) (hcf : W1.cell? ⟨Bf, 0, none⟩ = some (.int .i64 i))
    (hY : ∀ x W m, PreC ov W1.heap.size (M.grow (M.ent R) n ov n [(i : Int)] 0) x W → Below W1.heap.size W1 W → YieldAt Fence.wide m Try.prog l x W fun e W' => (e = .returned (.bool true) ∧ Below W.heap.size W W' ∧ GoC ov x) ∨ (e = .returned (.bool false) ∧ T x W W' ∧ W.heap.size ≤ W'.heap.size ∧ ∀ k, W1.heap.size ≤ k → k < W.heap.size → W'.heap[k]? = W.heap[k]?)) :
    Calls Try.prog 119 #[.func (.yield l) #[] #[], .pointer (some ⟨Ba, 0, none⟩), .pointer (some ⟨Bf, 0, none⟩)] W1 fun e W' => (∃ v, e = .returned v) ∧
      (((M.grow (M.ent R) n ov n [(i : Int)] 0).length = 0 ∧ Below W1.heap.size W1 W') ∨ ∃ x W2 W3 S, PreC ov W1.heap.size (M.grow (M.ent R) n ov n [(i : Int)] 0) x W2 ∧ Below W1.heap.size W1 W2 ∧ T x W2 W3 ∧ W1.heap.size ≤ S ∧ S < W2.heap.size ∧ W2.heap.size ≤ W3.heap.size ∧ Chg1 S W3 W') := by
  have HS := Lib.hid hS1
  have HYY := Lib.hid hY
  clear hS1 hY
  have hr := newSrch_row (W1.alloc (.cells #[.int .i64 i] 2)) (.slice a n cap) (.slice (some ⟨W1.heap.size, 0, none⟩) 1 1)
  have hq1 := World.rowIs.cell hr (i := 12) (by omega)
  have hq2 := World.rowIs.frozen hr 12
  have hsr := newSrch_srch (W1.alloc (.cells #[.int .i64 i] 2)) (.slice a n cap) (.slice (some ⟨W1.heap.size, 0, none⟩) 1 1) l
  rw [World.size_alloc] at hq1 hq2 hsr
  have hst : Sem.run Try.prog (store ⟨W1.heap.size + 1, 12, none⟩ (.func (.yield l) #[] #[])) ((W1.alloc (.cells #[.int .i64 i] 2)).alloc (newSrch (.slice a n cap) (.slice (some ⟨W1.heap.size, 0, none⟩) 1 1))) = .ok () (((W1.alloc (.cells #[.int .i64 i] 2)).alloc (newSrch (.slice a n cap) (.slice (some ⟨W1.heap.size, 0, none⟩) 1 1))).setCell ⟨W1.heap.size + 1, 12, none⟩ (.func (.yield l) #[] #[])) := by
    rw [run_store _ _ _ _ _ rfl]
    simp [stored, hq1, hq2]
  unfold newSrch at hst
  have HSR := Lib.hid hsr
  clear hr hsr
  go_enter Try.func119, Try.ntmps119
  go_wp2_with fail
  refine (extend ov a n cap R _ l (W1.heap.size + 1) T W1 HS.out (by omega) HYY.out n W1.heap.size 1 1 [(i : Int)] 0 (fun _ => false) _ ?hb HSR.out ?ho ?hn ?hd (by omega) (by omega) (by omega) (by omega) ?hu (fun _ => rfl)).mono ?_
  case hb => exact ((Below.refl _ _).alloc (Nat.le_refl _) _).alloc (by simp) _
  case ho =>
    have h0 : Own (W1.alloc (.cells #[.int .i64 i] 2)) W1.heap.size (.slice (some ⟨W1.heap.size, 0, none⟩) 1 1) [(i : Int)] := World.ownsRow_lit W1 #[.int .i64 i] 1 (Nat.le_refl _) (by decide) rfl
    refine h0.keep fun k _ hk => ?_
    have hk' : k < W1.heap.size + 1 := by simpa using hk
    exact Below.heap_alloc _ _ _ (by simpa using hk')
  case hn => simp [M.nodesB, M.inN]; omega
  case hd => exact M.diffB_of fun q hq => by simp at hq; subst hq; rfl
  case hu =>
    intro q hq hne
    have hne' : ¬ q = i := by simpa [M.vx] using hne
    have : ¬ (q : Int) = (i : Int) := by omega
    simp [M.hasB, this]
  rintro e w2 (⟨rfl, hnil, -, hb⟩ | ⟨rfl, -, x, W2, W3, q1, q2, q3, q4, q5, q6⟩)
  · go_wp2
    go_end0
    exact ⟨⟨_, rfl⟩, .inl ⟨hnil, hb⟩⟩
  · go_wp2
    go_end0
    exact ⟨⟨_, rfl⟩, .inr ⟨x, W2, W3, _, q1, q2, q3, by omega, q4, q5, q6⟩⟩

set_option maxRecDepth 100000 in
set_option maxHeartbeats 1000000 in
theorem cyclesFrom_ (v : Value) (i : Int) (w : World) (hv : ∃ a n c, v = .slice a n c) :
    Calls Try.prog 94 #[v, .int .i64 i] w fun e w' => e = .returned (.func (.func 119) #[] #[.pointer (some ⟨w.heap.size, 0, none⟩), .pointer (some ⟨w.heap.size + 1, 0, none⟩)]) ∧ w' = (w.alloc (.cells #[v] 24)).alloc (.cells #[.int .i64 i] 2) := by
  obtain ⟨a, n, c, rfl⟩ := hv
  go_enter Try.func94, Try.ntmps94
  go_wp2
  go_ret
  exact ⟨rfl, rfl⟩
end Go.Proofs.Ythonlfjjgmmnpab.V

namespace Go.Proofs.Ythonlfjjgmmnpab.V
open Go Go.RowKit

def mark (D : Nat) : Deferred := { target := .collected D, args := #[] }
/-- The marks Ds lie, all different, at or past lo. -/
def Marks (lo : Nat) (Ds : List Nat) (W : World) : Prop := Ds.Nodup ∧ ∀ D ∈ Ds, lo ≤ D ∧ W.heap[D]? = some (.deferred (some []))
theorem Marks.nil (lo : Nat) (W : World) : Marks lo [] W := ⟨List.nodup_nil, fun D h => by cases h⟩
theorem Marks.keep {lo Bx N : Nat} {Ds : List Nat} {A B : World} {v : Value} (h : Marks lo Ds A) (hx : A.cell? ⟨Bx, 0, none⟩ = some v) (hN : A.heap.size ≤ N) (hk : ∀ k, k < N → k ≠ Bx → B.heap[k]? = A.heap[k]?) : Marks lo Ds B :=
  ⟨h.1, fun D hD => by
    obtain ⟨h1, h2⟩ := h.2 D hD
    have hlt := (Array.getElem?_eq_some_iff.1 h2).1
    refine ⟨h1, (hk D (by omega) ?_).trans h2⟩
    rintro rfl
    simp [World.cell?, h2] at hx⟩
theorem Marks.cons {lo D : Nat} {Ds : List Nat} {A B : World} (h : Marks lo Ds A) (hB : Marks lo Ds B) (hD : A.heap.size ≤ D) (hlo : lo ≤ D) (hd : B.heap[D]? = some (.deferred (some []))) : Marks lo (D :: Ds) B :=
  ⟨List.nodup_cons.2 ⟨fun hm => by
    have := (Array.getElem?_eq_some_iff.1 (h.2 D hm).2).1
    omega, h.1⟩, fun E hE => by
    rcases List.mem_cons.1 hE with rfl | hE
    · exact ⟨hlo, hd⟩
    · exact hB.2 E hE⟩
theorem leaves_marks {P : Program} {n : Nat} {fn : Func} {tmps : Array Value} {R : Ending → World → Prop} {lo : Nat} (Good : World → Prop) (hG : ∀ W D o, Good W → lo ≤ D → W.heap[D]? = some (.deferred (some [])) → Good (W.putObj D o))
    (hfin : ∀ W, Good W → LeavesInM Fence.wide n P fn tmps R [] .returning W) (Ds : List Nat) : ∀ W, Marks lo Ds W → Good W → LeavesInM Fence.wide n P fn tmps R (Ds.map mark) .returning W := by
  induction Ds with
  | nil => intro W _ hg; exact hfin W hg
  | cons D Ds ih =>
    intro W hm hg
    obtain ⟨h1, h2⟩ := hm.2 D (by simp)
    refine ⟨by simp, .inl ⟨D, _, rfl, run_takeDeferred h2, ih _ ?_ (hG _ _ _ hg h1 h2)⟩⟩
    refine ⟨(List.nodup_cons.1 hm.1).2, fun E hE => ?_⟩
    obtain ⟨q1, q2⟩ := hm.2 E (List.mem_cons_of_mem _ hE)
    refine ⟨q1, (World.putObj_heap_other ?_).trans q2⟩
    rintro rfl
    exact (List.nodup_cons.1 hm.1).1 hE
end Go.Proofs.Ythonlfjjgmmnpab.V

namespace Go.Proofs.Ythonlfjjgmmnpab.V
open Go Go.RowKit Go.Shelf
attribute [local go_sem] Oper.semAt_some

theorem own_head {w : World} {B n c : Nat} {b : Option Addr} {p : List Int} (h : Own w B (.slice b n c) p) (hn : 0 < p.length) : ∃ g, b = some ⟨g, 0, none⟩ ∧ B ≤ g := by
  obtain ⟨a', c', hv, -, -, hg⟩ := own_form h
  injection hv with e1 e2 e3
  obtain ⟨g, h1, h2, -⟩ := hg hn
  exact ⟨g, by rw [e1]; exact h1, h2⟩

set_option maxRecDepth 100000 in
set_option maxHeartbeats 4000000 in
theorem smallestCycle (a : Option Addr) (n cap : Nat) (R : List (List Int)) (ov : Int) (w0 : World) (hq : Sq w0 a n R) :
    Calls Try.prog 59 #[.slice a n cap, .int .i64 (ov + 1)] w0 fun e w' => ∃ b n' c', e = .returned (.slice b n' c') ∧ Own w' w0.heap.size (.slice b n' c') (M.overL (M.ent R) n ov) ∧ Below w0.heap.size w0 w' := by
  obtain ⟨w, hwd⟩ : ∃ w, w = w0.alloc (.cells #[.int .i64 (ov + 1)] 2) := ⟨_, rfl⟩
  have HQ : Hid (Sq w a n R) := by rw [hwd]; exact hq.below (b_alloc _ _)
  have HW0 : Hid (Below w0.heap.size w0 w) := by rw [hwd]; exact b_alloc _ _
  have hLx : w.heap.size = w0.heap.size + 1 := by rw [hwd]; simp
  have HLC : Hid (w.cell? ⟨w0.heap.size, 0, none⟩ = some (.int .i64 (ov + 1))) := by show _ = _; rw [hwd]; simp
  have hn10 := HQ.out.2.2.2
  clear hq
  refine callsIn_wide.1 (callsIn_of_wp_marks (n := 3) Try.func59 rfl trivial (wpIn_wide.2 ?_) rfl)
  simp only [Try.ntmps59, List.size_toArray, List.length_cons, List.length_nil, Nat.reduceAdd, Nat.reduceSub, Array.replicate_succ, Array.replicate_zero, List.push_toArray, List.append_toArray, List.nil_append, List.cons_append]
  go_wp2
  rw [← hwd]
  clear hwd
  go_step3
  go_wp2
  obtain ⟨Lx, hLxd⟩ : ∃ Lx, Lx = w0.heap.size := ⟨_, rfl⟩
  rw [← hLxd] at hLx HLC ⊢
  clear hLxd
  obtain ⟨Bx, hBx'⟩ : ∃ Bx, Bx = Lx + 1 := ⟨_, rfl⟩
  have hBx : Bx = w.heap.size := by rw [hBx', hLx]
  have hlo : w.heap.size ≤ Bx := by omega
  obtain ⟨gg, hgg⟩ : ∃ gg : Nat → List Int, gg = fun (v : Nat) => M.grow (M.ent R) n ov n [(v : Int)] 0 := ⟨_, rfl⟩
  have HGG := Lib.hid hgg
  have hov : M.overL (M.ent R) n ov = M.pick gg (n - 0) 0 := by rw [hgg]; rfl
  have hcb : (w.alloc (.cells #[.slice none 0 0] 30)).cell? ⟨Bx, 0, none⟩ = some (.slice none 0 0) := by rw [hBx]; simp
  have hfb : (w.alloc (.cells #[.slice none 0 0] 30)).frozen? ⟨Bx, 0, none⟩ = false := by rw [hBx]; simp
  have hbb : Below w.heap.size w (w.alloc (.cells #[.slice none 0 0] 30)) := b_alloc _ _
  rw [← hBx']
  clear hgg hBx hBx'
  go_step3
  go_wp2
  refine wp_loop_ghost_k (fun m a' w' => ∃ (k : Nat) (Ds : List Nat) (u6 u7 u8 u12 u13 u14 u15 u16 u17 u18 u19 u20 u21 u22 u23 u24 u25 : Value), k ≤ n ∧ m = n - k ∧ a' = { tmps := #[.slice a n cap, .int .i64 (ov + 1), undef, .pointer (some ⟨Lx, 0, none⟩), .slice none 0 0, .pointer (some ⟨Bx, 0, none⟩), u6, u7, u8, .slice a n cap, .int .i64 n, .int .i64 k, u12, u13, u14, u15, u16, u17, u18, u19, u20, u21, u22, u23, u24, u25], defers := Ds.map mark } ∧ Marks w.heap.size Ds w' ∧ Below w.heap.size w w' ∧ w'.cell? ⟨Bx, 0, none⟩ = some (.slice none 0 0) ∧ w'.frozen? ⟨Bx, 0, none⟩ = false ∧ Hid (M.overL (M.ent R) n ov = M.pick gg (n - k) k)) n ⟨0, [], _, _, _, _, _, _, _, _, _, _, _, _, _, _, _, _, _, Nat.zero_le _, rfl, rfl, Marks.nil _ _, hbb, hcb, hfb, hov⟩ ?_
  clear hcb hfb hbb hov
  intro m a' w' hI J K hJ hK
  obtain ⟨k, Ds, u6, u7, u8, u12, u13, u14, u15, u16, u17, u18, u19, u20, u21, u22, u23, u24, u25, hk, rfl, rfl, hMk, hBl, hcb, hfb, HP⟩ := hI
  by_cases hlt : k < n
  · have hki : (k : Int) < (n : Int) := by omega
    have HJ := Lib.hid hJ
    have HK := Lib.hid hK
    have HMk := Lib.hid hMk
    have HBl := Lib.hid hBl
    clear hJ hK hMk hBl
    go_wp2_with (go_at_call 94; refine (cyclesFrom_ _ _ _ ⟨_, _, _, rfl⟩).mono ?_; rintro e2 w2 ⟨rfl, rfl⟩)
    obtain ⟨Ba, hBa⟩ : ∃ Ba, Ba = w'.heap.size := ⟨_, rfl⟩
    have hlt1 : Bx < w'.heap.size := cell_lt hcb
    obtain ⟨w2, hw2⟩ : ∃ w2, w2 = ((w'.alloc (.cells #[.slice a n cap] 24)).alloc (.cells #[.int .i64 k] 2)) := ⟨_, rfl⟩
    have hbw : Below w'.heap.size w' w2 := by rw [hw2]; exact ((Below.refl _ _).alloc (Nat.le_refl _) _).alloc (by simp) _
    have hsz2 : w2.heap.size = Ba + 2 := by rw [hw2, hBa]; simp
    have hca : w2.cell? ⟨Ba, 0, none⟩ = some (.slice a n cap) := by
      rw [hw2, hBa, World.cell?_alloc_old _ _ _ (by simp)]; simp
    have hcf : w2.cell? ⟨Ba + 1, 0, none⟩ = some (.int .i64 k) := by
      have h := World.alloc_heap_new (w'.alloc (.cells #[.slice a n cap] 24)) (.cells #[.int .i64 k] 2)
      rw [World.size_alloc] at h
      rw [hw2, hBa]
      simp only [World.cell?, h]
      rfl
    rw [← hw2, ← hBa]
    have hcb2 := (hbw.cell (p := ⟨Bx, 0, none⟩) hlt1).trans hcb
    have hfb2 := (hbw.frozen (p := ⟨Bx, 0, none⟩) hlt1).trans hfb
    have HM2 : Hid (Marks w.heap.size Ds w2) := HMk.out.keep (Bx := Bx) hcb (Nat.le_refl _) (fun q hq _ => hbw.block q hq)
    have HB2 : Hid (Below w.heap.size w w2) := HBl.out.trans (hbw.mono HBl.out.size)
    have HQ2 : Hid (Sq w2 a n R) := HQ.out.below HB2.out
    have hltB : Bx < w2.heap.size := by rw [hsz2, hBa]; omega
    have hz2 : w.heap.size ≤ w2.heap.size := HB2.out.size
    have hBa2 : Ba + 1 < w2.heap.size := by omega
    clear hw2 hbw hcb hfb hBa hlt1 hsz2
    refine (wpIn_wide (n := 3)).1 ?_
    refine rangeState (gf := 119) (lb := #[.pointer (some ⟨Ba, 0, none⟩), .pointer (some ⟨Ba + 1, 0, none⟩)]) rfl (enters_of Try.func119 (by kernel_rfl) rfl) (PreC ov (w2.heap.size + 2) (gg k)) ?hps (GoC ov)
      (fun id _ W A => id = 0 ∧ (∃ g L c, A.cell? ⟨Bx, 0, none⟩ = some (.slice (some ⟨g, 0, none⟩) L c) ∧ Own A W.heap.size (.slice (some ⟨g, 0, none⟩) L c) (gg k) ∧ (gg k).length ≠ 0) ∧ Below w.heap.size w A ∧ (w2.heap.size ≤ A.heap.size ∧ w2.heap.size + 2 ≤ W.heap.size) ∧ ∀ q, q < w2.heap.size → q ≠ Bx → A.heap[q]? = w2.heap[q]?)
      ((gg k).length = 0) ?hMove ?hiter (fun x => match x.toList with | [p, q] => { tmps := #[.slice a n cap, .int .i64 (ov + 1), undef, .pointer (some ⟨Lx, 0, none⟩), .slice none 0 0, .pointer (some ⟨Bx, 0, none⟩), .int .i64 k, p, q, .slice a n cap, .int .i64 n, .int .i64 k, .bool true, .int .i64 k, .slice a n cap, .int .i64 k, .func (.func 119) #[] #[.pointer (some ⟨Ba, 0, none⟩), .pointer (some ⟨Ba + 1, 0, none⟩)], p, q, u19, u20, u21, u22, u23, u24, u25], defers := [] } | _ => { tmps := #[], defers := [] }) ?hassign ?hbody ?hdone ?hstop
    case hps => rintro x W ⟨b, L, c, p, wt, rfl, -⟩; rfl
    case hMove =>
      rintro id x W A B q ⟨rfl, ⟨g, L, c, h1, h2, h3⟩, h4, ⟨h6, h7⟩, h5⟩ hch hq
      have hg : W.heap.size ≤ g ∧ g < A.heap.size := own_lt h2 rfl
      refine ⟨rfl, ⟨g, L, c, ?_, ownsRow_keep h2 (fun r hr => ?_), h3⟩, ?_, ⟨Nat.le_trans h6 hch.2.2.2.1, h7⟩, ?_⟩
      · rw [World.cell?_of_block (w := A) (w' := B) (a := ⟨Bx, 0, none⟩) (hch.2.2.2.2 Bx (cell_lt h1) (by omega))]; exact h1
      · have : g = r := by injection hr
        subst this
        exact hch.2.2.2.2 g hg.2 (by omega)
      · exact ⟨hch.1.trans h4.os, hch.2.1.trans h4.tape, hch.2.2.1.trans h4.output, Nat.le_trans h4.size hch.2.2.2.1, fun r hr => (hch.2.2.2.2 r (by have := h4.size; omega) (by omega)).trans (h4.block r hr)⟩
      · intro r hr hne'
        exact (hch.2.2.2.2 r (by omega) (by omega)).trans (h5 r hr hne')
    case hiter =>
      intro T W1 hb1 hs1 hY
      have hg : gg k = M.grow (M.ent R) n ov n [(k : Int)] 0 := by rw [HGG.out]
      rw [← hs1, hg] at hY
      rw [← hs1, hg]
      exact callsIn_wide.2 (cycles1 ov a n cap R k (w2.heap.size + 1) Ba (Ba + 1) T W1 (HQ2.out.below hb1) hlt ((hb1.cell (p := ⟨Ba, 0, none⟩) (by show Ba < _; omega)).trans hca) ((hb1.cell (p := ⟨Ba + 1, 0, none⟩) (by show Ba + 1 < _; omega)).trans hcf) hY)
    case hassign =>
      intro l x W m K' hp hK'
      obtain ⟨b, L, c, p, wt, rfl, -⟩ := hp
      gi_wp2
      exact hK'
    case hbody =>
      intro x W o m hp hbl hsz
      obtain ⟨b, L, c, p, wt, rfl, ho, hL1, hL2, hres⟩ := hp
      have hcb3 : (W.putObj (w2.heap.size + 1) o).cell? ⟨Bx, 0, none⟩ = some (.slice none 0 0) := by
        rw [World.cell?_of_block (w := W) (a := ⟨Bx, 0, none⟩) (World.putObj_heap_other (by show Bx ≠ _; omega)), hbl.cell (p := ⟨Bx, 0, none⟩) hltB]; exact hcb2
      have hfb3 : (W.putObj (w2.heap.size + 1) o).frozen? ⟨Bx, 0, none⟩ = false := by
        rw [World.frozen?_of_block (w := W) (a := ⟨Bx, 0, none⟩) (World.putObj_heap_other (by show Bx ≠ _; omega)), hbl.frozen (p := ⟨Bx, 0, none⟩) hltB]; exact hfb2
      have HO3 : Hid (Own (W.putObj (w2.heap.size + 1) o) (w2.heap.size + 2) (.slice b L c) p) := ho.keep (fun q h1 _ => World.putObj_heap_other (by omega))
      have HRES := Lib.hid hres
      have HLp : Hid (L = p.length) := ho.len
      have HBL := Lib.hid hbl
      have hl3 : (W.putObj (w2.heap.size + 1) o).cell? ⟨Lx, 0, none⟩ = some (.int .i64 (ov + 1)) := by
        rw [World.cell?_of_block (w := W) (a := ⟨Lx, 0, none⟩) (World.putObj_heap_other (by show Lx ≠ _; omega)), hbl.cell (p := ⟨Lx, 0, none⟩) (by show Lx < _; omega), HB2.out.cell (p := ⟨Lx, 0, none⟩) (by show Lx < _; omega)]; exact HLC.out
      clear ho hres hbl
      change Code.wpIn _ _ _ _ _ { tmps := #[.slice a n cap, .int .i64 (ov + 1), undef, .pointer (some ⟨Lx, 0, none⟩), .slice none 0 0, .pointer (some ⟨Bx, 0, none⟩), .int .i64 k, (.slice b L c), (.int .i64 wt), .slice a n cap, .int .i64 n, .int .i64 k, .bool true, .int .i64 k, .slice a n cap, .int .i64 k, .func (.func 119) #[] #[.pointer (some ⟨Ba, 0, none⟩), .pointer (some ⟨Ba + 1, 0, none⟩)], (.slice b L c), (.int .i64 wt), u19, u20, u21, u22, u23, u24, u25], defers := [] } _
      by_cases hw : ov < wt
      · have hwg : ov + 1 ≤ wt := by omega
        have hwz : W.heap.size = (W.putObj (w2.heap.size + 1) o).heap.size := by simp
        have hBW : Bx < W.heap.size := by omega
        have hp0 : 0 < p.length := by have := HLp.out; omega
        gi_wp2_with (refine ⟨trivial, fun h => by simp [Fence.wide] at h, ?_⟩; gi_at_call 95; refine (CallsIn.inRound _ (callsIn_wide.2 (clone _ _ _ p _ HO3.out.ints' (by omega) (by omega)))).mono ?_; rintro e3 w3 ⟨b3, c3, rfl, ho3, hb3⟩; obtain ⟨g3, rfl, hg3⟩ := own_head ho3 hp0; have hc3 := (hb3.cell (p := ⟨Bx, 0, none⟩) (by rw [← hwz]; exact hBW)).trans hcb3; have hf3 := (hb3.frozen (p := ⟨Bx, 0, none⟩) (by rw [← hwz]; exact hBW)).trans hfb3; have HO4 := Lib.hid ho3; have HB3 := Lib.hid hb3; clear ho3 hb3)
        have hs3 := HB3.out.size
        have hpk := HRES.out hw
        have hgk := own_lt HO4.out rfl
        rw [← hwz] at hg3 hs3
        have hset : ∀ q, q ≠ Bx → (w3.setCell ⟨Bx, 0, none⟩ (.slice (some ⟨g3, 0, none⟩) L c3)).heap[q]? = w3.heap[q]? := fun q hq => Below.heap_setCell w3 ⟨Bx, 0, none⟩ _ q hq
        have hszs : (w3.setCell ⟨Bx, 0, none⟩ (.slice (some ⟨g3, 0, none⟩) L c3)).heap.size = w3.heap.size := by simp
        have hq3 : ∀ q, q < W.heap.size → w3.heap[q]? = (W.putObj (w2.heap.size + 1) o).heap[q]? := fun q hq => HB3.out.block q (by rw [← hwz]; exact hq)
        refine ⟨(hset _ (by omega)).trans (hq3 _ (by omega)), (hset _ (by omega)).trans (hq3 _ (by omega)), by rw [hszs, ← hwz]; exact hs3, fun q hq1 hq2 => (hset _ (by omega)).trans (hq3 _ hq2), rfl, ⟨g3, L, c3, World.cell?_setCell_same' _ _ _ (by rw [hc3]; rfl), ?_, ?_⟩, ?_, ⟨by rw [hszs]; omega, hsz⟩, fun q hq1 hq2 => ?_⟩
        · rw [← hpk]
          have := HO4.out
          rw [← hwz] at this
          exact ownsRow_keep this (fun r hr => by
            have hgr : g3 = r := by injection hr
            subst hgr
            exact hset _ (by omega))
        · rw [← hpk, ← HLp.out]; omega
        · have hbW : Below w.heap.size w W := HB2.out.trans (HBL.out.mono hz2)
          refine ⟨HB3.out.os.trans hbW.os, HB3.out.tape.trans hbW.tape, HB3.out.output.trans hbW.output, by rw [hszs]; have := hbW.size; omega, fun q hq => ?_⟩
          have := hbW.size
          rw [hset _ (by omega), hq3 _ (by omega), World.putObj_heap_other (by omega)]
          exact hbW.block q hq
        · rw [hset _ hq2, hq3 _ (by omega), World.putObj_heap_other (by omega)]
          exact HBL.out.block q hq1
      · have hw' : wt ≤ ov := by omega
        have hwl : ¬ (ov + 1 ≤ wt) := by omega
        gi_wp2
        exact ⟨Below.refl _ _, _, _, rfl, hw'⟩
    case hdone =>
      intro W hF hb hsz hD
      have HPn : Hid (M.overL (M.ent R) n ov = M.pick gg (n - (k + 1)) (k + 1)) := HP.out.trans (M.pick_no hlt hF)
      have HMn : Hid (Marks w.heap.size (w2.heap.size :: Ds) W) := Marks.cons HM2.out (HM2.out.keep (Bx := Bx) hcb2 (Nat.le_refl _) (fun q hq _ => hb.block q hq)) (Nat.le_refl _) hz2 hD
      have HBn : Hid (Below w.heap.size w W) := HB2.out.trans (hb.mono hz2)
      have hcn := (hb.cell (p := ⟨Bx, 0, none⟩) hltB).trans hcb2
      have hfn := (hb.frozen (p := ⟨Bx, 0, none⟩) hltB).trans hfb2
      clear hF hb hD hca hcf hcb2 hfb2
      go_wp2
      exact HK.out _ _ (Handed.intro (n - (k + 1)) (by omega) (HJ.out _ _ _ ⟨k + 1, w2.heap.size :: Ds, .int .i64 k, u7, u8, .bool true, .int .i64 k, .slice a n cap, .int .i64 k, _, u17, u18, u19, u20, u21, u22, u23, .int .i64 ((k : Int) + 1), u25, by omega, rfl, rfl, HMn.out, HBn.out, hcn, hfn, HPn.out⟩))
    case hstop =>
      intro id x W2 W hp hb hst hD
      obtain ⟨rfl, ⟨g, L, c, h1, h2, h3⟩, h4, ⟨h6, h7⟩, h5⟩ := hst
      have HEq : Hid (M.overL (M.ent R) n ov = gg k) := HP.out.trans (M.pick_yes hlt h3)
      have HMn : Hid (Marks w.heap.size (w2.heap.size :: Ds) W) := Marks.cons HM2.out (HM2.out.keep (Bx := Bx) hcb2 (Nat.le_refl _) h5) (Nat.le_refl _) hz2 hD
      have HOn : Hid (Own W w.heap.size (.slice (some ⟨g, 0, none⟩) L c) (gg k)) := h2.mono (by omega)
      have HB4 := Lib.hid h4
      clear h2 h3 h4 h5 h6 h7 hb hp hD hca hcf hcb2 hfb2
      refine wpIn_wide.2 ?_
      go_wp2
      rw [Exit.noGoto_ret]
      exact leaves_marks (lo := w.heap.size) (fun W' => Own W' w.heap.size (.slice (some ⟨g, 0, none⟩) L c) (gg k) ∧ Below w.heap.size w W')
        (fun A D o hA hlo' hD' => ⟨ownsRow_keep hA.1 (fun r hr => World.putObj_heap_other (by
          have hgr : g = r := by injection hr
          subst hgr
          rintro rfl
          obtain ⟨-, ⟨hv, -⟩ | ⟨g', cap', cur, hv, -, hg', -⟩⟩ := hA.1
          · cases hv
          · injection hv with e1 e2 e3
            injection e1 with e1
            injection e1 with e1
            subst e1
            rw [hD'] at hg'
            cases hg')), ⟨hA.2.os, hA.2.tape, hA.2.output, by have := hA.2.size; simpa using this, fun r hr => (World.putObj_heap_other (by omega)).trans (hA.2.block r hr)⟩⟩)
        (fun A hA => ⟨_, results_tmp rfl _ _ _, ⟨some ⟨g, 0, none⟩, L, c, rfl, by rw [HEq.out]; exact hA.1.mono HW0.out.size, HW0.out.trans (hA.2.mono HW0.out.size)⟩⟩) (w2.heap.size :: Ds) W HMn.out ⟨HOn.out, HB4.out⟩
  · obtain rfl : k = n := by omega
    have HEq : Hid (M.overL (M.ent R) k ov = []) := HP.out.trans M.pick_end
    have HBl := Lib.hid hBl
    have HMk := Lib.hid hMk
    clear hBl hMk hfb
    go_wp2
    rw [Exit.noGoto_ret]
    exact leaves_marks (lo := w.heap.size) (fun W' => Below w.heap.size w W')
      (fun A D o hA hlo' hD' => ⟨hA.os, hA.tape, hA.output, by have := hA.size; simpa using this, fun r hr => (World.putObj_heap_other (by omega)).trans (hA.block r hr)⟩)
      (fun A hA => ⟨_, results_tmp rfl _ _ _, ⟨none, 0, 0, rfl, by rw [HEq.out]; exact own_nil _ _, HW0.out.trans (hA.mono HW0.out.size)⟩⟩) Ds w' HMk.out HBl.out

end Go.Proofs.Ythonlfjjgmmnpab.V
namespace Go.Proofs.Ythonlfjjgmmnpab.M
theorem pick_len {g : Nat → List Int} {m : Nat} (h : ∀ v, (g v).length ≤ m) : ∀ c k, (pick g c k).length ≤ m := by
  intro c
  induction c with
  | zero => intro k; exact Nat.zero_le _
  | succ c ih =>
    intro k
    show (if _ then _ else _ : List Int).length ≤ m
    split
    · exact ih _
    · exact h k
theorem posRes_len (R : List (List Int)) : (posRes R).1.length ≤ 11 := by
  unfold posRes
  split
  · next h =>
    obtain ⟨m1, m2, -⟩ := isMat_t (sqB_t h).1
    split
    · simp
    · have := pick_len (g := fun v => grow (ent R) R.length 0 R.length [(v : Int)] 0) (m := 11) (fun v => by
        have := grow_nodes (ent R) R.length 0 R.length [(v : Int)] 0
        simp at this; omega) R.length 0
      exact this
  · simp
end Go.Proofs.Ythonlfjjgmmnpab.M
