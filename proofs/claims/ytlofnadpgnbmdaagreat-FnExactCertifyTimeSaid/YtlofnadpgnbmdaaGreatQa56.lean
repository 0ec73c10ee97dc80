/- Texts laid together: Cra. -/
import Derived.Test.YtlofnadpgnbmdaaGreatQa16
set_option linter.unusedSimpArgs false
set_option linter.unusedVariables false
set_option linter.unusedSectionVars false
namespace Go.Proofs.YtlofnadpgnbmdaaGreat.V
open Go Go.RowKit

theorem rangeFold {P : Program} {n : Nat} {g : Operand} {ps : Array Tmp} {assign body : Code} {Q : Exit → Act → World → Prop} {a : Act} {w : World}
    {gf : Nat} {lb : Array Value} (hg : a.eval g = .func (.func gf) #[] lb) (eg : ∀ args w, (callFunc gf args).run P w = .ok (.enter gf args) w)
    (bb : World → Option Nat) (hbb : ∀ W k o, w.heap.size ≤ k → bb (W.putObj k o) = bb W)
    (Pre : List Int → Array Value → World → Prop) (hps : ∀ p x W, Pre p x W → x.size = ps.size)
    (J : List (List Int) → World → Prop) (all : List (List Int))
    (hJl : ∀ ys W k o, J ys W → (k = w.heap.size ∨ k = w.heap.size + 1) → J ys (W.putObj k o))
    (hJ0 : ∀ W, Below w.heap.size w W → J [] W)
    (hiter : ∀ (W1 : World), Below w.heap.size w W1 → W1.heap.size = w.heap.size + 2 → J [] W1 →
      (∀ ys p x W m, Pre p x W → J ys W → W.heap[w.heap.size]? = W1.heap[w.heap.size]? → W.heap[w.heap.size + 1]? = W1.heap[w.heap.size + 1]? → W1.heap.size ≤ W.heap.size →
        YieldAt Fence.wide m P (w.heap.size + 1) x W fun e W' => e = .returned (.bool true) ∧ J (ys ++ [p]) W' ∧ W.heap.size ≤ W'.heap.size ∧ (∀ k, w.heap.size ≤ k → k < W.heap.size → W'.heap[k]? = W.heap[k]?) ∧ (∀ q, bb W' = some q → bb W = some q ∨ W.heap.size ≤ q)) →
      CallsIn Fence.wide (n - 1) P gf (#[.func (.yield (w.heap.size + 1)) #[] #[]] ++ lb) W1 fun e W' => (∃ v, e = .returned v) ∧ J all W' ∧ W'.heap[w.heap.size]? = W1.heap[w.heap.size]? ∧ W'.heap[w.heap.size + 1]? = W1.heap[w.heap.size + 1]? ∧ W1.heap.size ≤ W'.heap.size)
    (a₁ : Array Value → Act)
    (hassign : ∀ l p x W m (K : Act → World → Prop), Pre p x W → K (a₁ x) W → assign.wpIn (Fence.wide.inRound l) m P (Exit.then K (fun _ _ _ => False)) { tmps := (ps.zip x).foldl (fun t (p, v) => t.setIfInBounds p v) a.tmps, defers := [] } W)
    (hbody : ∀ ys p x W o m, Pre p x W → J ys W → J ys (W.putObj (w.heap.size + 1) o) → w.heap.size + 2 ≤ W.heap.size → body.wpIn (Fence.wide.inRound (w.heap.size + 1)) m P (fun e _ W3 => e = .normal ∧ J (ys ++ [p]) W3 ∧ W.heap.size ≤ W3.heap.size ∧ (∀ k, w.heap.size ≤ k → k < W.heap.size → W3.heap[k]? = (W.putObj (w.heap.size + 1) o).heap[k]?) ∧ (∀ q, bb W3 = some q → bb W = some q ∨ W.heap.size ≤ q)) (a₁ x) (W.putObj (w.heap.size + 1) o))
    (hdone : ∀ W, J all W → w.heap.size + 2 ≤ W.heap.size → W.heap[w.heap.size]? = some (.deferred (some [])) → Q .normal { a with defers := { target := .collected w.heap.size, args := #[] } :: a.defers } W) :
    (Code.rangeFunc g ps assign body).wpIn Fence.wide n P Q a w := by
  refine wpIn_rangeFunc ?_
  intro fn hfn
  obtain ⟨rec, hrec⟩ : ∃ rec : LoopState → Option Code → Loop, rec = fun st pe => { state := st, pending := pe, fn, tmps := a.tmps, params := ps, assign, body, defers := w.heap.size } := ⟨_, rfl⟩
  obtain ⟨W1, hW1⟩ : ∃ W1, (w.alloc (.deferred (some []))).alloc (.loop (rec .ready none)) = W1 := ⟨_, rfl⟩
  have hL1 : W1.heap[w.heap.size + 1]? = some (.loop (rec .ready none)) := by
    rw [← hW1]; have := World.alloc_heap_new (w.alloc (.deferred (some []))) (.loop (rec .ready none)); rwa [World.size_alloc] at this
  have hK1 : W1.heap[w.heap.size]? = some (.deferred (some [])) := by
    rw [← hW1]; exact (Below.heap_alloc _ _ _ (by simp)).trans (World.alloc_heap_new w _)
  have hb1 : Below w.heap.size w W1 := by
    rw [← hW1]; exact ((Below.refl _ w).alloc (Nat.le_refl _) _).alloc (by simp) _
  have hs1 : W1.heap.size = w.heap.size + 2 := by rw [← hW1]; simp
  refine ⟨w.heap.size + 1, [{ target := .collected w.heap.size, args := #[] }], W1, { target := .fn (.func gf) lb, args := #[.func (.yield (w.heap.size + 1)) #[] #[]] }, W1, gf,
    #[.func (.yield (w.heap.size + 1)) #[] #[]] ++ lb, W1, ?_, ?_, fun _ _ => trivial, ?_, fun h => by simp [Fence.wide] at h, ?_⟩
  · rw [← hW1, hrec]; exact run_enterLoop_outer _ _ _ _ _
  · simp only [resolve, hg]
    simp [go_sem]
  · simp [invoke, go_sem, eg]
  · refine (hiter W1 hb1 hs1 (hJ0 _ hb1) ?_).mono ?_
    · intro ys p x W m hp hJ hD hl hsz
      have hsz : w.heap.size + 2 ≤ W.heap.size := by omega
      have hl : W.heap[w.heap.size + 1]? = some (.loop (rec .ready none)) := hl.trans hL1
      have hk : W.heap[w.heap.size]? = some (.deferred (some [])) := hD.trans hK1
      have hy := run_yield (P := P) (args := x) hl (by rw [hrec]; exact hps p x W hp)
      rw [hrec] at hy
      refine ⟨fn, _, assign, body, hy, roundIn_of_wpIn trivial (hassign _ p x W _ _ hp ⟨_, run_beginRound hl (by rw [hrec]), ?_⟩)⟩
      have hl2 : (W.putObj (w.heap.size + 1) (.loop { rec .ready none with state := .busy })).heap[w.heap.size + 1]? = some (.loop { rec .ready none with state := .busy }) := World.putObj_heap_same (by omega)
      refine wpIn_mono (hbody ys p x W _ _ hp hJ (hJl _ _ _ _ hJ (.inr rfl)) hsz) ?_
      rintro e a3 W3 ⟨rfl, hJ3, hs3, hk3, hb3⟩
      have hl3 := (hk3 (w.heap.size + 1) (by omega) (by omega)).trans hl2
      have hr := run_endRound (P := P) none hl3
      refine ⟨_, _, hr, rfl, hJl _ _ _ _ hJ3 (.inr rfl), by simpa using hs3, ?_, ?_⟩
      · intro k hk1 hk2
        by_cases e : k = w.heap.size + 1
        · subst e
          rw [World.putObj_heap_same (by omega), hl, hrec]; rfl
        · rw [World.putObj_heap_other e, hk3 k hk1 hk2, World.putObj_heap_other e]
      · intro q hq
        rw [hbb _ _ _ (by omega)] at hq
        exact hb3 q hq
    · rintro e W2 ⟨⟨v, rfl⟩, hJ, hD, hl, hsz⟩
      have hl2 := hl.trans hL1
      have hk2 := hD.trans hK1
      have hsz2 : w.heap.size + 2 ≤ W2.heap.size := by omega
      exact ⟨none, _, by have := run_endLoop (P := P) hl2 (by rw [hrec]; simp); rw [hrec] at this; exact this, hdone _ (hJl _ _ _ _ hJ (.inr rfl)) (by simpa using hsz2) ((World.putObj_heap_other (by omega)).trans hk2)⟩
end Go.Proofs.YtlofnadpgnbmdaaGreat.V
