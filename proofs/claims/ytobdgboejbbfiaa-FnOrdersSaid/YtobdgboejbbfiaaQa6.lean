/- Texts laid together: It1, It2. -/
import Derived.Test.YtobdgboejbbfiaaQa5
import Derived.Test.YtobdgboejbbfiaaQa1
import Derived.BigRegion
import Derived.BigQuiet
set_option linter.unusedSimpArgs false
set_option linter.unusedVariables false
set_option linter.unusedSectionVars false
namespace Go.Proofs.Ytobdgboejbbfiaa.V
open Go Go.RowKit

/-- Of the blocks that were there, at most k₀ has changed. -/
def Chg1 (k₀ : Nat) (A B : World) : Prop := B.os = A.os ∧ B.tape = A.tape ∧ B.output = A.output ∧ A.heap.size ≤ B.heap.size ∧ ∀ k, k < A.heap.size → k ≠ k₀ → B.heap[k]? = A.heap[k]?
theorem Chg1.refl (k₀ : Nat) (A : World) : Chg1 k₀ A A := ⟨rfl, rfl, rfl, Nat.le_refl _, fun _ _ _ => rfl⟩
theorem Chg1.trans {k₀ : Nat} {A B C : World} (h : Chg1 k₀ A B) (g : Chg1 k₀ B C) : Chg1 k₀ A C :=
  ⟨g.1.trans h.1, g.2.1.trans h.2.1, g.2.2.1.trans h.2.2.1, Nat.le_trans h.2.2.2.1 g.2.2.2.1, fun k hk hne => (g.2.2.2.2 k (Nat.lt_of_lt_of_le hk h.2.2.2.1) hne).trans (h.2.2.2.2 k hk hne)⟩
theorem Chg1.drew (k₀ : Nat) {A B : World} (h : Chg1 k₀ A B) : Chg1 k₀ A B.drew := ⟨h.1, h.2.1, h.2.2.1, h.2.2.2.1, h.2.2.2.2⟩
theorem Chg1.setCell {A B : World} {p : Addr} (h : Chg1 p.block A B) (v : Value) : Chg1 p.block A (B.setCell p v) :=
  ⟨h.1, h.2.1, h.2.2.1, by have := h.2.2.2.1; simpa [World.setCell] using this, fun k hk hne => (Below.heap_setCell B p v k hne).trans (h.2.2.2.2 k hk hne)⟩
theorem Chg1.putObj (A : World) (l : Nat) (o : Obj) : Chg1 l A (A.putObj l o) := ⟨rfl, rfl, rfl, by simp, fun k _ hne => World.putObj_heap_other hne⟩

/-- How a round may end: all as it was, or a jump out of the loop. -/
def EndOf (D l : Nat) (Go : Array Value → Prop) (Stop : Nat → Array Value → World → World → Prop) (x : Array Value) (W Wb : World) : Exit → Act → World → Prop
  | .normal, _, W3 => Below W.heap.size Wb W3 ∧ Go x
  | .exit id, _, W3 => W3.heap[D]? = Wb.heap[D]? ∧ W3.heap[l]? = Wb.heap[l]? ∧ Wb.heap.size ≤ W3.heap.size ∧ (∀ k, D + 2 ≤ k → k < W.heap.size → W3.heap[k]? = Wb.heap[k]?) ∧ Stop id x W W3
  | _, _, _ => False

theorem rangeState {P : Program} {n : Nat} {g : Operand} {ps : Array Tmp} {assign body : Code} {Q : Exit → Act → World → Prop} {a : Act} {w : World}
    {gf : Nat} {lb : Array Value} (hg : a.eval g = .func (.func gf) #[] lb) (eg : ∀ args w, (callFunc gf args).run P w = .ok (.enter gf args) w)
    (Pre : Array Value → World → Prop) (hps : ∀ x W, Pre x W → x.size = ps.size) (Go : Array Value → Prop) (Stop : Nat → Array Value → World → World → Prop) (Fin : Prop)
    (hMove : ∀ id x W A B k₀, Stop id x W A → Chg1 k₀ A B → (k₀ = w.heap.size + 1 ∨ (w.heap.size + 2 ≤ k₀ ∧ k₀ < W.heap.size)) → Stop id x W B)
    (hiter : ∀ (T : Array Value → World → World → Prop) (W1 : World), Below w.heap.size w W1 → W1.heap.size = w.heap.size + 2 →
      (∀ x W m, Pre x W → Below (w.heap.size + 2) W1 W → YieldAt Fence.wide m P (w.heap.size + 1) x W fun e W' => (e = .returned (.bool true) ∧ Below W.heap.size W W' ∧ Go x) ∨ (e = .returned (.bool false) ∧ T x W W' ∧ W.heap.size ≤ W'.heap.size ∧ ∀ k, w.heap.size + 2 ≤ k → k < W.heap.size → W'.heap[k]? = W.heap[k]?)) →
      CallsIn Fence.wide (n - 1) P gf (#[.func (.yield (w.heap.size + 1)) #[] #[]] ++ lb) W1 fun e W' => (∃ v, e = .returned v) ∧
        ((Fin ∧ Below (w.heap.size + 2) W1 W') ∨ ∃ x W2 W3 S, Pre x W2 ∧ Below (w.heap.size + 2) W1 W2 ∧ T x W2 W3 ∧ w.heap.size + 2 ≤ S ∧ S < W2.heap.size ∧ W2.heap.size ≤ W3.heap.size ∧ Chg1 S W3 W'))
    (a₁ : Array Value → Act)
    (hassign : ∀ l x W m (K : Act → World → Prop), Pre x W → K (a₁ x) W → assign.wpIn (Fence.wide.inRound l) m P (Exit.then K (fun _ _ _ => False)) { tmps := (ps.zip x).foldl (fun t (p, v) => t.setIfInBounds p v) a.tmps, defers := [] } W)
    (hbody : ∀ x W o m, Pre x W → Below w.heap.size w W → w.heap.size + 2 ≤ W.heap.size → body.wpIn (Fence.wide.inRound (w.heap.size + 1)) m P (EndOf w.heap.size (w.heap.size + 1) Go Stop x W (W.putObj (w.heap.size + 1) o)) (a₁ x) (W.putObj (w.heap.size + 1) o))
    (hdone : ∀ W, Fin → Below w.heap.size w W → w.heap.size + 2 ≤ W.heap.size → W.heap[w.heap.size]? = some (.deferred (some [])) → Q .normal { a with defers := { target := .collected w.heap.size, args := #[] } :: a.defers } W)
    (hstop : ∀ id x W2 W, Pre x W2 → Below w.heap.size w W2 → Stop id x W2 W → W.heap[w.heap.size]? = some (.deferred (some [])) → (Code.exit id).wpIn Fence.wide n P Q { a with defers := { target := .collected w.heap.size, args := #[] } :: a.defers } W) :
    (Code.rangeFunc g ps assign body).wpIn Fence.wide n P Q a w := by
  refine wpIn_rangeFunc ?_
  intro fn hfn
  obtain ⟨rec, hrec⟩ : ∃ rec : LoopState → Option Code → Loop, rec = fun st pe => { state := st, pending := pe, fn, tmps := a.tmps, params := ps, assign, body, defers := w.heap.size } := ⟨_, rfl⟩
  obtain ⟨W1, hW1⟩ : ∃ W1, (w.alloc (.deferred (some []))).alloc (.loop (rec .ready none)) = W1 := ⟨_, rfl⟩
  have hL1 : W1.heap[w.heap.size + 1]? = some (.loop (rec .ready none)) := by
    rw [← hW1]; have := World.alloc_heap_new (w.alloc (.deferred (some []))) (.loop (rec .ready none)); rwa [World.size_alloc] at this
  have hK1 : W1.heap[w.heap.size]? = some (.deferred (some [])) := by
    rw [← hW1]; exact (Below.heap_alloc _ _ _ (by simp)).trans (World.alloc_heap_new w _)
  have hb1 : Below w.heap.size w W1 := by
    rw [← hW1]; exact ((Below.refl _ w).alloc (Nat.le_refl _) _).alloc (by simp) _
  have hs1 : W1.heap.size = w.heap.size + 2 := by rw [← hW1]; simp
  refine ⟨w.heap.size + 1, [{ target := .collected w.heap.size, args := #[] }], W1, { target := .fn (.func gf) lb, args := #[.func (.yield (w.heap.size + 1)) #[] #[]] }, W1, gf,
    #[.func (.yield (w.heap.size + 1)) #[] #[]] ++ lb, W1, ?_, ?_, fun _ _ => trivial, ?_, fun h => by simp [Fence.wide] at h, ?_⟩
  · rw [← hW1, hrec]; exact run_enterLoop_outer _ _ _ _ _
  · simp only [resolve, hg]
    simp [go_sem]
  · simp [invoke, go_sem, eg]
  · refine (hiter (fun x W W' => ∃ id, Stop id x W W' ∧ W'.heap[w.heap.size + 1]? = some (.loop (rec .done (some (.exit id)))) ∧ W'.heap[w.heap.size]? = some (.deferred (some []))) W1 hb1 hs1 ?_).mono ?_
    · intro x W m hp hbW
      have hsz : w.heap.size + 2 ≤ W.heap.size := by have := hbW.size; omega
      have hl : W.heap[w.heap.size + 1]? = some (.loop (rec .ready none)) := (hbW.block _ (by omega)).trans hL1
      have hk : W.heap[w.heap.size]? = some (.deferred (some [])) := (hbW.block _ (by omega)).trans hK1
      have hy := run_yield (P := P) (args := x) hl (by rw [hrec]; exact hps x W hp)
      rw [hrec] at hy
      refine ⟨fn, _, assign, body, hy, roundIn_of_wpIn trivial (hassign _ x W _ _ hp ⟨_, run_beginRound hl (by rw [hrec]), ?_⟩)⟩
      have hl2 : (W.putObj (w.heap.size + 1) (.loop { rec .ready none with state := .busy })).heap[w.heap.size + 1]? = some (.loop { rec .ready none with state := .busy }) := World.putObj_heap_same (by omega)
      have hk2 : (W.putObj (w.heap.size + 1) (.loop { rec .ready none with state := .busy })).heap[w.heap.size]? = some (.deferred (some [])) := (World.putObj_heap_other (by omega)).trans hk
      refine wpIn_mono (hbody x W _ _ hp (hb1.trans (hbW.mono (by omega))) hsz) ?_
      rintro e a3 W3 hq
      cases e with
      | normal =>
        obtain ⟨hq, hgo⟩ := hq
        have hl3 := (hq.block _ (by omega)).trans hl2
        have hr := run_endRound (P := P) none hl3
        refine ⟨_, _, hr, .inl ⟨rfl, ⟨hq.os, hq.tape, hq.output, ?_, ?_⟩, hgo⟩⟩
        · have := hq.size; simpa using this
        · intro k hk'
          by_cases e : k = w.heap.size + 1
          · subst e
            rw [World.putObj_heap_same (by have := hq.size; simp at this; omega), hl, hrec]; rfl
          · rw [World.putObj_heap_other e, hq.block k hk', World.putObj_heap_other e]
      | exit id =>
        obtain ⟨h1, h2, h4, h5, h3⟩ := hq
        have hl3 := h2.trans hl2
        have hr := run_endRound (P := P) (some (.exit id)) hl3
        refine ⟨_, _, hr, .inr ⟨rfl, ⟨id, hMove _ _ _ _ _ _ h3 (Chg1.putObj _ _ _) (.inl rfl), ?_, (World.putObj_heap_other (by omega)).trans (h1.trans hk2)⟩, by simpa using h4, fun k hk3 hk4 => (World.putObj_heap_other (by omega)).trans ((h5 k hk3 hk4).trans (World.putObj_heap_other (by omega)))⟩⟩
        rw [World.putObj_heap_same (Array.getElem?_eq_some_iff.1 hl3).1, hrec]; rfl
      | ret => exact hq.elim
      | goto t => exact hq.elim
      | panic ch => exact hq.elim
      | outgrown => exact hq.elim
    · rintro e W2 ⟨⟨v, rfl⟩, (⟨hF, hb⟩ | ⟨x, A, B, S, hp, hbA, ⟨id, hS, hl, hk⟩, hS1, hS2, hAB, hc⟩)⟩
      · have hl : W2.heap[w.heap.size + 1]? = some (.loop (rec .ready none)) := (hb.block _ (by omega)).trans hL1
        have hk : W2.heap[w.heap.size]? = some (.deferred (some [])) := (hb.block _ (by omega)).trans hK1
        have hsz : w.heap.size + 2 ≤ W2.heap.size := by have := hb.size; omega
        refine ⟨none, _, by have := run_endLoop (P := P) hl (by rw [hrec]; simp); rw [hrec] at this; exact this, hdone _ hF ?_ (by simpa using hsz) ((World.putObj_heap_other (by omega)).trans hk)⟩
        have := hb1.trans (hb.mono (by omega : w.heap.size ≤ w.heap.size + 2))
        exact ⟨this.os, this.tape, this.output, by have := this.size; simpa using this, fun k hk' => (World.putObj_heap_other (by omega)).trans (this.block k hk')⟩
      · have hBl := (Array.getElem?_eq_some_iff.1 hl).1
        have hl2 : W2.heap[w.heap.size + 1]? = some (.loop (rec .done (some (.exit id)))) := (hc.2.2.2.2 _ hBl (by omega)).trans hl
        have hk2 : W2.heap[w.heap.size]? = some (.deferred (some [])) := (hc.2.2.2.2 _ (by omega) (by omega)).trans hk
        refine ⟨some (.exit id), _, by have := run_endLoop (P := P) hl2 (by rw [hrec]; simp); rw [hrec] at this; exact this, hstop id x A _ hp (hb1.trans (hbA.mono (by omega))) ?_ ((World.putObj_heap_other (by omega)).trans hk2)⟩
        exact hMove _ _ _ _ _ _ (hMove _ _ _ _ _ _ hS hc (.inr ⟨hS1, hS2⟩)) (Chg1.putObj _ _ _) (.inl rfl)
end Go.Proofs.Ytobdgboejbbfiaa.V

namespace Go.Proofs.Ytobdgboejbbfiaa.V
open Go Go.RowKit

def srchF (sa v : Value) (U : Nat → Bool) (l : Nat) : Nat → Value := fun i => if i = 0 then sa else if i = 1 then v else if i = 12 then .func (.yield l) #[] #[] else .bool (U (i - 2))
/-- Block S is a search over the matrix sa that stands at the path v, with U marked. -/
def Srch (W : World) (S : Nat) (sa v : Value) (U : Nat → Bool) (l : Nat) : Prop := W.rowIs S 155 13 (srchF sa v U l)
theorem Srch.c0 {W : World} {S l : Nat} {sa v : Value} {U : Nat → Bool} (h : Srch W S sa v U l) : W.cell? ⟨S, 0, none⟩ = some sa := h.cell (by omega)
theorem Srch.c1 {W : World} {S l : Nat} {sa v : Value} {U : Nat → Bool} (h : Srch W S sa v U l) : W.cell? ⟨S, 1, none⟩ = some v := h.cell (by omega)
theorem Srch.c12 {W : World} {S l : Nat} {sa v : Value} {U : Nat → Bool} (h : Srch W S sa v U l) : W.cell? ⟨S, 12, none⟩ = some (.func (.yield l) #[] #[]) := h.cell (by omega)
theorem Srch.cU {W : World} {S l : Nat} {sa v : Value} {U : Nat → Bool} (h : Srch W S sa v U l) (k : Nat) (hk : k < 10) : W.cell? ⟨S, 2 + k, none⟩ = some (.bool (U k)) := by
  have := World.rowIs.cell h (i := 2 + k) (by omega)
  rw [this]
  unfold srchF
  rw [if_neg (by omega), if_neg (by omega), if_neg (by omega), show 2 + k - 2 = k by omega]
theorem Srch.setPath {W : World} {S l : Nat} {sa v : Value} {U : Nat → Bool} (h : Srch W S sa v U l) (v' : Value) : Srch (W.setCell ⟨S, 1, none⟩ v') S sa v' U l :=
  (World.rowIs.set h 1 v').congr fun i hi => by
    unfold srchF
    by_cases e : i = 1
    · subst e; simp
    · simp [e]
theorem Srch.setUsed {W : World} {S l : Nat} {sa v : Value} {U : Nat → Bool} (h : Srch W S sa v U l) (k : Nat) (hk : k < 10) (x : Bool) : Srch (W.setCell ⟨S, 2 + k, none⟩ (.bool x)) S sa v (fun i => if i = k then x else U i) l :=
  (World.rowIs.set h (2 + k) (.bool x)).congr fun i hi => by
    unfold srchF
    by_cases e : i = 2 + k
    · subst e
      rw [if_pos rfl, if_neg (by omega), if_neg (by omega), if_neg (by omega), show 2 + k - 2 = k by omega]
      show Value.bool x = Value.bool (if k = k then x else U k)
      rw [if_pos rfl]
    · rw [if_neg e]
      by_cases e0 : i = 0
      · rw [if_pos e0, if_pos e0]
      · rw [if_neg e0, if_neg e0]
        by_cases e1 : i = 1
        · rw [if_pos e1, if_pos e1]
        · rw [if_neg e1, if_neg e1]
          show _ = (if i = 12 then _ else Value.bool (if i - 2 = k then x else U (i - 2)))
          rw [if_neg (show ¬ i - 2 = k by omega)]
theorem Srch.block {A B : World} {S l : Nat} {sa v : Value} {U : Nat → Bool} (h : Srch A S sa v U l) (e : B.heap[S]? = A.heap[S]?) : Srch B S sa v U l := World.rowIs.of_block h e
theorem Srch.congrU {W : World} {S l : Nat} {sa v : Value} {U V : Nat → Bool} (h : Srch W S sa v U l) (e : ∀ i, U i = V i) : Srch W S sa v V l := by
  have : U = V := funext e
  subst this; exact h
/-- An owned slice of integers lies apart from the search. -/
theorem Srch.apart {W : World} {S l B g n c : Nat} {sa v : Value} {U : Nat → Bool} {p : List Int} (h : Srch W S sa v U l) (ho : Own W B (.slice (some ⟨g, 0, none⟩) n c) p) : g ≠ S := by
  rintro rfl
  obtain ⟨cs, hb, -, -⟩ := h
  obtain ⟨-, ⟨hv, -⟩ | ⟨g', cap', cur, hv, -, hg, -⟩⟩ := ho
  · cases hv
  · injection hv with e1 e2 e3
    injection e1 with e1
    injection e1 with e1
    subst e1
    rw [hb] at hg
    injection hg with hg
    injection hg with h1 h2 h3
    revert h2
    decide
theorem step_append2 (w : World) {ops : Array Oper} {o : Oper} {a : Act} {K : Act → World → Prop} {Q : Exit → Act → World → Prop} {E : Prop} (hgd : o.guard = none) (s x : Operand)
    (ho : o.op = .call { callee := .builtin .append, args := #[s, x], argTypes := #[28, 28] }) (B : Nat) (v : Value) (l : List Int) (y : Int) (g n : Nat) (hn : l.length = n) (hs : a.eval s = v) (hown : Own w B v l)
    (hx : a.eval x = .slice (some ⟨g, 0, none⟩) 1 1) (hy : w.cell? ⟨g, 0, none⟩ = some (.int .i64 y)) (hlen : n ≤ 2000000) (hB : B ≤ w.heap.size)
    (h : ∀ b' c' w', Own w' B (.slice (some ⟨b', 0, none⟩) (n + 1) c') (l ++ [y]) → Below B w w' → (∀ k, k < w.heap.size → v.ownBlock ≠ some k → w'.heap[k]? = w.heap[k]?) → K (a.put o.dst (.slice (some ⟨b', 0, none⟩) (n + 1) c')) w') :
    if Region.wanted o (yielded ops a.tmps) = true then Oper.wp Try.prog o a w K Q else E := by
  subst hn
  obtain ⟨i0, hi, hz0, hz1, hz2⟩ := info_parts info64
  refine step_append_lies w hgd s x 28 ho B 2 i0 (.int .i64 0) 1 8 Try.underlying28 hi hz0 hz1 hz2 rfl (by decide) v l.length (l.map (Value.int .i64)) hs hown ⟨g, 0, none⟩ 1 1 [.int .i64 y] hx rfl ?c1 ?c2 (by decide) ?c3 ?c4 hB w.heap.size rfl ?_
  case c1 =>
    intro j u hj
    have : j = 0 := by
      cases j with
      | zero => rfl
      | succ j => simp at hj
    subst this
    simp at hj
    subst hj
    exact hy
  case c2 => intro u hu; simp at hu; subst hu; rfl
  case c3 => unfold maxLen; omega
  case c4 => omega
  · intro g' cap' w' hown' hgrow hat hlt
    have ho' : Own w' B (.slice (some ⟨g', 0, none⟩) (l.length + 1) cap') (l ++ [y]) := by
      show w'.ownsRow B _ 1 _ (l ++ [y]).length ((l ++ [y]).map (Value.int .i64))
      simpa using hown'
    refine h _ _ w' ho' ((Below.refl B w).grown hgrow hB (fun k hk => (own_lt hown hk).1)) (fun k hk hne => ?_)
    obtain ⟨g1, g2, g3, g4, g5⟩ := hgrow
    exact g5 k hk (fun e => hne e.symm)
theorem own_cut {w : World} {B g n c : Nat} {p : List Int} {x : Int} (h : Own w B (.slice (some ⟨g, 0, none⟩) (n + 1) c) (p ++ [x])) : Own w B (.slice (some ⟨g, 0, none⟩) n c) p := by
  have hl : n = p.length := by have := h.len; simp at this; omega
  subst hl
  obtain ⟨h1, ⟨hv, -⟩ | ⟨g', cap', cur, hv, hb, hg, hle, hcm, hsz, ht⟩⟩ := h
  · cases hv
  · injection hv with e1 e2 e3
    injection e1 with e1
    injection e1 with e1
    subst e1 e3
    simp at hle hsz ht
    refine ⟨by simp, .inr ⟨g, c, cur, rfl, hb, hg, by omega, hcm, by simpa using hsz, ?_⟩⟩
    have := congrArg (List.take p.length) ht
    rw [List.take_take] at this
    simpa using this
theorem own_cap {w : World} {B n c : Nat} {b : Option Addr} {p : List Int} (h : Own w B (.slice b n c) p) : n ≤ c ∧ c ≤ maxLen := by
  have hl := h.len
  obtain ⟨a', c', hv, h1, h2, -⟩ := own_form h
  injection hv with e1 e2 e3
  subst e3
  exact ⟨by omega, h2⟩
theorem hasB_app (p : List Int) (v x : Int) : M.hasB (p ++ [v]) x = (M.hasB p x || decide (x = v)) := by
  rw [Bool.eq_iff_iff, M.hasB_iff, Bool.or_eq_true, M.hasB_iff, decide_eq_true_eq]
  simp
/-- What is handed to a round: a cycle and its weight; if that is positive it is the one that is looked for. -/
def PreC (ov : Int) (B : Nat) (res : List Int) (x : Array Value) (W : World) : Prop :=
  ∃ (b : Option Addr) (L c : Nat) (p : List Int) (wt : Int), x = #[.slice b L c, .int .i64 wt] ∧ Own W B (.slice b L c) p ∧ 1 ≤ L ∧ L ≤ 10 ∧ (ov < wt → p = res)
def GoC (ov : Int) (x : Array Value) : Prop := ∃ (v : Value) (wt : Int), x = #[v, .int .i64 wt] ∧ wt ≤ ov
/-- What a call of extend leaves. -/
def ExtPost (ov : Int) (A : Nat → Nat → Int) (n f : Nat) (p : List Int) (wt : Int) (res : List Int) (sa : Value) (S N l : Nat) (U : Nat → Bool) (T : Array Value → World → World → Prop) (W1 : World) (e : Ending) (W' : World) : Prop :=
  (e = .returned (.bool true) ∧ (M.grow A n ov f p wt).length = 0 ∧ (∃ g c, Srch W' S sa (.slice (some ⟨g, 0, none⟩) N c) U l ∧ Own W' W1.heap.size (.slice (some ⟨g, 0, none⟩) N c) p) ∧ Below W1.heap.size W1 W') ∨
  (e = .returned (.bool false) ∧ (∃ g c, Srch W' S sa (.slice (some ⟨g, 0, none⟩) N c) U l ∧ N ≤ c ∧ c ≤ maxLen) ∧ ∃ x W2 W3, PreC ov W1.heap.size res x W2 ∧ Below W1.heap.size W1 W2 ∧ T x W2 W3 ∧ S < W2.heap.size ∧ W2.heap.size ≤ W3.heap.size ∧ Chg1 S W3 W')

set_option maxRecDepth 100000 in
set_option maxHeartbeats 8000000 in
theorem extend (ov : Int) (a : Option Addr) (n cap : Nat) (R : List (List Int)) (res : List Int) (l S : Nat) (T : Array Value → World → World → Prop) (W1 : World) (hS1 : Sq W1 a n R) (hSB : W1.heap.size ≤ S)
    (hY : ∀ x W m, PreC ov W1.heap.size res x W → Below W1.heap.size W1 W → YieldAt Fence.wide m Try.prog l x W fun e W' => (e = .returned (.bool true) ∧ Below W.heap.size W W' ∧ GoC ov x) ∨ (e = .returned (.bool false) ∧ T x W W' ∧ W.heap.size ≤ W'.heap.size ∧ ∀ k, W1.heap.size ≤ k → k < W.heap.size → W'.heap[k]? = W.heap[k]?))
    (f : Nat) : ∀ (g c N : Nat) (p : List Int) (wt : Int) (U : Nat → Bool) (w : World), Below W1.heap.size W1 w → Srch w S (.slice a n cap) (.slice (some ⟨g, 0, none⟩) N c) U l → Own w W1.heap.size (.slice (some ⟨g, 0, none⟩) N c) p → M.nodesB n p = true → M.diffB p = true → 1 ≤ N → n + 1 ≤ f + N → -1000001000000 * (N : Int) ≤ wt → wt ≤ 1000001000000 * (N : Int) → (∀ i, i < n → i ≠ M.vx p 0 → U i = M.hasB p (i : Int)) → ((M.grow (M.ent R) n ov f p wt).length ≠ 0 → res = M.grow (M.ent R) n ov f p wt) →
    Calls Try.prog 160 #[.pointer (some ⟨S, 0, none⟩), .int .i64 wt] w (ExtPost ov (M.ent R) n f p wt res (.slice a n cap) S N l U T W1) := by
  induction f with
  | zero =>
    intro g c N p wt U w hB hs hO hn hd h1 hf hw1 hw2 hU hres
    have := M.diffB_len hn hd
    have := hO.len
    omega
  | succ f IH =>
    intro g c N p wt U w hB hs hO hn hd h1 hf hw1 hw2 hU hres
    obtain ⟨N, rfl⟩ : ∃ m, N = m + 1 := ⟨N - 1, by omega⟩
    have HIH := Lib.hid IH
    have HYY := Lib.hid hY
    have hpl : p.length = N + 1 := hO.len.symm
    have hle := M.diffB_len hn hd
    have hn10 := hS1.2.2.2.2
    have h0 := M.nodesB_at hn (k := 0) (by omega)
    have hN := M.nodesB_at hn (k := N) (by omega)
    obtain ⟨pb, po, x0, hpe0, -, hx0, c0⟩ := hO.ints'.at 0 (by omega)
    injection hpe0 with hpe0
    injection hpe0 with e1 e2 e3
    subst e1 e2
    obtain ⟨pb2, po2, x1, hpe, -, hx1, c1⟩ := hO.ints'.at N (by omega)
    injection hpe with hpe
    injection hpe with e1 e2 e3
    subst e1 e2
    rw [← hx0] at h0
    rw [← hx1] at hN
    obtain ⟨i, rfl⟩ := Int.eq_ofNat_of_zero_le h0.1
    obtain ⟨j, rfl⟩ := Int.eq_ofNat_of_zero_le hN.1
    have hi : i < n := by omega
    have hj : j < n := by omega
    have hvi : M.vx p 0 = i := by unfold M.vx; rw [← hx0]; simp
    have hvj : M.lastV p = j := by unfold M.lastV M.vx; rw [hpl, Nat.add_sub_cancel, ← hx1]; simp
    have hSw : Sq w a n R := hS1.below hB
    obtain ⟨ab, ao, ra, rc, L, lr, rfl, -, hlr, cr, hIr⟩ := hSw.1.at i hi
    have hL : L = n := by rw [← hIr.1, hlr]; exact hSw.2.1.2 i hi
    subst hL
    obtain ⟨rb, ro, z, rfl, -, hz, cz⟩ := hIr.at j hj
    have hze : z = M.ent R i j := by rw [hz, hlr]; rfl
    have hzs := hSw.2.2.1 i j hi hj
    rw [← hze] at hzs
    unfold M.Sm at hzs
    have HS := Lib.hid hS1
    have HSR := Lib.hid hs
    have HO := Lib.hid hO
    have HNd := Lib.hid hn
    have HDf := Lib.hid hd
    have HPl := Lib.hid hpl
    have HVi := Lib.hid hvi
    have HVj := Lib.hid hvj
    have HU := Lib.hid hU
    have HRES := Lib.hid hres
    have HBw := Lib.hid hB
    have ht1 : ((N : Int) + 1 - 1) = (N : Int) := by omega
    have hNb : N ≤ 10 := by omega
    simp only [Nat.zero_add] at c0 c1
    have HC : Hid (M.clB (M.ent R) ov p wt = (decide (z ≠ -1000000000000000) && decide (ov < wt + z))) := by show _ = _; unfold M.clB; rw [hvi, hvj, ← hze]
    have hSlt : S < w.heap.size := World.rowIs.lt hs
    have s0 := hs.c0
    have s1 := hs.c1
    clear hlr hIr hz hze hx0 hx1 h0 hN hvi hvj hn hd IH e3 hpl hSw hs hO hU hres hY hS1 hB
    have HCR := Lib.hid cr
    have HCZ := Lib.hid cz
    clear cr cz
    go_enter Try.func160, Try.ntmps160
    go_wp2
    go_quiet (fail)
    generalize hwq : World.drewN w _ = wq
    have hbq : Below w.heap.size w wq := by rw [← hwq]; exact b_draws w _
    have hSlt2 : S < wq.heap.size := Nat.lt_of_lt_of_le hSlt hbq.size
    have HSq := Lib.hid (HSR.out.block (hbq.block _ hSlt))
    have HOq := Lib.hid (HO.out.below hbq)
    have HBq := Lib.hid (HBw.out.trans (hbq.mono HBw.out.size))
    have cr := (hbq.cell (cell_lt HCR.out)).trans HCR.out
    have cz := (hbq.cell (cell_lt HCZ.out)).trans HCZ.out
    clear hwq c0 c1 hbq s0 s1 hSlt HCR HCZ
    have s0 := HSq.out.c0
    have s1 := HSq.out.c1
    have s12 := HSq.out.c12
    have hi1 : IntKind.i64.wrap ((i : Int) + 1) = (i : Int) + 1 := IntWalk.i64_in _ (by omega)
    obtain ⟨G, hG⟩ : ∃ G, G = M.stepG (M.ent R) L ov f p wt := ⟨_, rfl⟩
    have HGg := Lib.hid hG
    clear hG
    by_cases hzb : z = -1000000000000000
    · have hcl : M.clB (M.ent R) ov p wt = false := by rw [HC.out, hzb]; rfl
      have HG : Hid (M.grow (M.ent R) L ov (f + 1) p wt = M.pick G (L - (i + 1)) (i + 1)) := by
        show _ = _
        rw [M.grow_no hcl, HGg.out, HVi.out]
      subst hzb
      clear hcl HC
      go_wp2
      go_quiet (fail)
      generalize hwq : World.drewN wq _ = w3
      have hbq : Below wq.heap.size wq w3 := by rw [← hwq]; exact b_draws wq _
      have HS3 := Lib.hid (HSq.out.block (hbq.block _ hSlt2))
      have HO3 := Lib.hid (HOq.out.below hbq)
      have HB3 := Lib.hid (HBq.out.trans (hbq.mono HBq.out.size))
      clear hwq hbq s0 s1 s12 cr cz hSlt2 HSq HOq HBq
      go_wp2

      go_loopw [8] (fun v wr => ∃ k g c : Nat, i + 1 ≤ k ∧ k ≤ L ∧ v = .int .i64 k ∧ Hid (M.pick G (L - (i + 1)) (i + 1) = M.pick G (L - k) k) ∧ Hid (Srch wr S (.slice (some ⟨ab, ao, none⟩) L cap) (.slice (some ⟨g, 0, none⟩) (N + 1) c) U l) ∧ Hid (Own wr W1.heap.size (.slice (some ⟨g, 0, none⟩) (N + 1) c) p) ∧ Below W1.heap.size W1 wr) (fun v _ => L - (intOf v).toNat)
      case atStart => exact ⟨i + 1, g, c, by omega, by omega, by go_num, rfl, HS3, HO3, HB3.out⟩
      case round =>
        clear HS3 HO3 HB3
        obtain ⟨k, g, c, hk1, hk2, rfl, HK, HSr, HOr, hb⟩ := hrel
        obtain ⟨wo, rfl⟩ : ∃ x, x = wr := ⟨_, rfl⟩
        have HB1 := Lib.hid hb
        clear hb
        have s0 := HSr.out.c0
        have s1 := HSr.out.c1
        have hSlt := World.rowIs.lt HSr.out
        by_cases hk : k < L
        · have hki : (k : Int) < (L : Int) := by omega
          obtain ⟨ab', ao', ra', rc', L', lr, e', -, hlr, ck, hIr⟩ := (HS.out.below HB1.out).1.at k hk
          injection e' with e'
          injection e' with e1 e2 e3
          subst e1 e2
          have hL' : L' = L := by rw [← hIr.1, hlr]; exact HS.out.2.1.2 k hk
          subst hL'
          obtain ⟨rb', ro', y, rfl, -, hy, cy⟩ := hIr.at j hj
          have hye : y = M.ent R k j := by rw [hy, hlr]; rfl
          have hys := HS.out.2.2.1 k j hk hj
          rw [← hye] at hys
          unfold M.Sm at hys
          have HYe := Lib.hid hye
          clear hlr hIr hy hye e3
          by_cases hyb : y = -1000000000000000
          · have hg0 : (G k).length = 0 := by rw [HGg.out]; exact M.step_bot (by rw [HVj.out, ← HYe.out]; exact hyb)
            have HKn : Hid (M.pick G (L' - (i + 1)) (i + 1) = M.pick G (L' - (k + 1)) (k + 1)) := HK.out.trans (M.pick_no hk hg0)
            subst hyb
            clear hg0
            go_wp2
            go_roundw
            case rel => exact ⟨k + 1, g, c, by omega, by omega, by go_num, HKn, HSr, HOr, HB1.out⟩
            case measure => simp [intOf]; omega
          · have gy : (y == -1000000000000000) = false := by simpa using hyb
            have hcu := HSr.out.cU k (by omega)
            have hUk : U k = M.hasB p (k : Int) := HU.out k hk (by rw [HVi.out]; omega)
            by_cases hhb : M.hasB p (k : Int) = true
            · have hg0 : (G k).length = 0 := by rw [HGg.out]; exact M.step_has hhb
              have HKn : Hid (M.pick G (L' - (i + 1)) (i + 1) = M.pick G (L' - (k + 1)) (k + 1)) := HK.out.trans (M.pick_no hk hg0)
              rw [hUk, hhb] at hcu
              clear hg0 hUk hhb
              go_wp2
              go_roundw
              case rel => exact ⟨k + 1, g, c, by omega, by omega, by go_num, HKn, HSr, HOr, HB1.out⟩
              case measure => simp [intOf]; omega
            · simp only [Bool.not_eq_true] at hhb
              rw [hUk, hhb] at hcu
              have HUk := Lib.hid (hUk.trans hhb)
              have HHb := Lib.hid hhb
              clear hUk hhb
              have hk10 : (k : Int) < 10 := by omega
              have hfz := World.rowIs.frozen HSr.out 1
              have hfu := World.rowIs.frozen HSr.out (2 + k)
              have hap := HSr.out.apart HOr.out
              have hA1 : ∀ o, (wo.drew.alloc o).cell? ⟨S, 1, none⟩ = some (.slice (some ⟨g, 0, none⟩) (N + 1) c) := fun o => (World.cell?_alloc_old _ _ _ (Nat.ne_of_lt hSlt)).trans s1
              have HOd : Hid (Own wo.drew W1.heap.size (.slice (some ⟨g, 0, none⟩) (N + 1) c) p) := HOr.out.below (Below.refl _ _).drew
              go_wp2
              refine wp_region_any (by kernel_rfl) ?_
              change wpAny _ _ _ _ _ _ _ (World.drew _)
              refine wpAny_take (i := 0) (v := ?v0) rfl (by kernel_rfl) (by kernel_rfl) (by kernel_rfl) (fun _ _ _ h => h) (Or.inl ⟨by rfl, ?hy0⟩) ?rest0
              case hy0 => (intro w; go_simp; try with_reducible rfl)
              (try simp only [Act.put, List.setIfInBounds_toArray, List.set_cons_zero, List.set_cons_succ])
              refine wpAny_take (i := 1) (v := ?v1) rfl (by kernel_rfl) (by kernel_rfl) (by kernel_rfl) (fun _ _ _ h => h) (Or.inl ⟨by rfl, ?hy1⟩) ?rest1
              case hy1 => (intro w; go_simp; try with_reducible rfl)
              (try simp only [Act.put, List.setIfInBounds_toArray, List.set_cons_zero, List.set_cons_succ])
              refine wpAny_take (i := 2) (v := ?v2) rfl (by kernel_rfl) (by kernel_rfl) (by kernel_rfl) (fun _ _ _ h => h) (Or.inl ⟨by rfl, ?hy2⟩) ?rest2
              case hy2 => (intro w; go_simp; try with_reducible rfl)
              (try simp only [Act.put, List.setIfInBounds_toArray, List.set_cons_zero, List.set_cons_succ])
              refine wpAny_take (i := 3) (v := ?v3) rfl (by kernel_rfl) (by kernel_rfl) (by kernel_rfl) (fun _ _ _ h => h) (Or.inl ⟨by rfl, ?hy3⟩) ?rest3
              case hy3 => (intro w; go_simp; try with_reducible rfl)
              (try simp only [Act.put, List.setIfInBounds_toArray, List.set_cons_zero, List.set_cons_succ])
              refine wpAny_take (i := 4) (v := ?v4) rfl (by kernel_rfl) (by kernel_rfl) (by kernel_rfl) (fun _ _ _ h => h) (Or.inl ⟨by rfl, ?hy4⟩) ?rest4
              case hy4 => (intro w; go_simp; try with_reducible rfl)
              (try simp only [Act.put, List.setIfInBounds_toArray, List.set_cons_zero, List.set_cons_succ])
              refine wpAny_take (i := 5) (v := ?v5) rfl (by kernel_rfl) (by kernel_rfl) (by kernel_rfl) (fun _ _ _ h => h) (Or.inl ⟨by rfl, ?hy5⟩) ?rest5
              case hy5 => (intro w; go_simp; try with_reducible rfl)
              (try simp only [Act.put, List.setIfInBounds_toArray, List.set_cons_zero, List.set_cons_succ])
              refine wpAny_take (i := 7) (v := ?v7) rfl (by kernel_rfl) (by kernel_rfl) (by kernel_rfl) (fun _ _ _ h => h) (Or.inl ⟨by rfl, ?hy7⟩) ?rest7
              case hy7 => (intro w; go_simp; try with_reducible rfl)
              (try simp only [Act.put, List.setIfInBounds_toArray, List.set_cons_zero, List.set_cons_succ])
              refine wpAny_take (i := 13) (v := ?v13) rfl (by kernel_rfl) (by kernel_rfl) (by kernel_rfl) (fun _ _ _ h => h) (Or.inl ⟨by rfl, ?hy13⟩) ?rest13
              case hy13 => (intro w; go_simp; try with_reducible rfl)
              (try simp only [Act.put, List.setIfInBounds_toArray, List.set_cons_zero, List.set_cons_succ])
              refine wpAny_take (i := 14) (v := ?v14) rfl (by kernel_rfl) (by kernel_rfl) (by kernel_rfl) (fun _ _ _ h => h) (Or.inl ⟨by rfl, ?hy14⟩) ?rest14
              case hy14 => (intro w; go_simp; try with_reducible rfl)
              (try simp only [Act.put, List.setIfInBounds_toArray, List.set_cons_zero, List.set_cons_succ])
              refine wpAny_ready (rs := [6, 8]) (by kernel_rfl) (by simp) (AllReady.cons rfl (fun K hK => ?a6) (AllReady.cons rfl (fun K hK => ?a8) AllReady.nil))
              case' a6 =>
                go_simp
                refine hK _ _ ?_
                clear hK K
                (try simp only [Act.put, List.setIfInBounds_toArray, List.set_cons_zero, List.set_cons_succ])
                refine wpAny_ready (rs := [8]) (by kernel_rfl) (by simp) (AllReady.cons rfl (fun K hK => ?_) AllReady.nil)
                go_simp
                refine hK _ _ ?_
                clear hK K
                (try simp only [Act.put, List.setIfInBounds_toArray, List.set_cons_zero, List.set_cons_succ])
                refine wpAny_ready (rs := [9]) (by kernel_rfl) (by simp) (AllReady.cons rfl (fun K hK => ?_) AllReady.nil)
                refine step_append2 _ rfl _ _ rfl W1.heap.size _ p (k : Int) _ (N + 1) HPl.out rfl (HOd.out.below (b_alloc _ _)) rfl (by simp) (by omega) (by simp; have := HB1.out.size; omega) ?_
                intro g2 c2 w2 ho hb hk5
                have HO2 := Lib.hid ho
                have HBa := Lib.hid hb
                have HS2 := Lib.hid (HSr.out.block ((hk5 S (by simp; omega) (by intro e; exact hap (by injection e))).trans (Below.heap_alloc _ _ _ hSlt)))
                have t1 := HS2.out.c1
                have t2 := World.rowIs.frozen HS2.out 1
                have t3 := HS2.out.cU k (by omega)
                have t4 := World.rowIs.frozen HS2.out (2 + k)
                rw [HUk.out] at t3
                have t5 := fun x => (HS2.out.setPath x).cU k (by omega)
                have t6 := fun x => (HS2.out.setUsed k (by omega) x).c1
                simp only [HUk.out] at t5
                clear ho hb hk5
                refine hK _ _ ?_
                clear hK K
                (try simp only [Act.put, List.setIfInBounds_toArray, List.set_cons_zero, List.set_cons_succ])
                refine wpAny_ready (rs := [10]) (by kernel_rfl) (by simp) (AllReady.cons rfl (fun K hK => ?_) AllReady.nil)
                go_simp
                refine hK _ _ ?_
                clear hK K
                (try simp only [Act.put, List.setIfInBounds_toArray, List.set_cons_zero, List.set_cons_succ])
                refine wpAny_ready (rs := [11]) (by kernel_rfl) (by simp) (AllReady.cons rfl (fun K hK => ?_) AllReady.nil)
                go_simp
                refine hK _ _ ?_
                clear hK K
                (try simp only [Act.put, List.setIfInBounds_toArray, List.set_cons_zero, List.set_cons_succ])
                refine wpAny_ready (rs := [12]) (by kernel_rfl) (by simp) (AllReady.cons rfl (fun K hK => ?_) AllReady.nil)
                go_simp
                refine hK _ _ ?_
                clear hK K
                (try simp only [Act.put, List.setIfInBounds_toArray, List.set_cons_zero, List.set_cons_succ])
                refine wpAny_ready (rs := [15]) (by kernel_rfl) (by simp) (AllReady.cons rfl (fun K hK => ?_) AllReady.nil)
                go_simp
                refine hK _ _ ?_
                clear hK K
                (try simp only [Act.put, List.setIfInBounds_toArray, List.set_cons_zero, List.set_cons_succ])
                refine wpAny_ready (rs := [16]) (by kernel_rfl) (by simp) (AllReady.cons rfl (fun K hK => ?_) AllReady.nil)
                go_simp
                refine hK _ _ ?_
                clear hK K
                (try simp only [Act.put, List.setIfInBounds_toArray, List.set_cons_zero, List.set_cons_succ])
                refine wpAny_done (by kernel_rfl) ?_ _
              case' a8 =>
                go_simp
                refine hK _ _ ?_
                clear hK K
                (try simp only [Act.put, List.setIfInBounds_toArray, List.set_cons_zero, List.set_cons_succ])
                refine wpAny_ready (rs := [6]) (by kernel_rfl) (by simp) (AllReady.cons rfl (fun K hK => ?_) AllReady.nil)
                go_simp
                refine hK _ _ ?_
                clear hK K
                (try simp only [Act.put, List.setIfInBounds_toArray, List.set_cons_zero, List.set_cons_succ])
                refine wpAny_ready (rs := [9]) (by kernel_rfl) (by simp) (AllReady.cons rfl (fun K hK => ?_) AllReady.nil)
                refine step_append2 _ rfl _ _ rfl W1.heap.size _ p (k : Int) _ (N + 1) HPl.out rfl (HOd.out.below (b_alloc _ _)) rfl (by simp) (by omega) (by simp; have := HB1.out.size; omega) ?_
                intro g2 c2 w2 ho hb hk5
                have HO2 := Lib.hid ho
                have HBa := Lib.hid hb
                have HS2 := Lib.hid (HSr.out.block ((hk5 S (by simp; omega) (by intro e; exact hap (by injection e))).trans (Below.heap_alloc _ _ _ hSlt)))
                have t1 := HS2.out.c1
                have t2 := World.rowIs.frozen HS2.out 1
                have t3 := HS2.out.cU k (by omega)
                have t4 := World.rowIs.frozen HS2.out (2 + k)
                rw [HUk.out] at t3
                have t5 := fun x => (HS2.out.setPath x).cU k (by omega)
                have t6 := fun x => (HS2.out.setUsed k (by omega) x).c1
                simp only [HUk.out] at t5
                clear ho hb hk5
                refine hK _ _ ?_
                clear hK K
                (try simp only [Act.put, List.setIfInBounds_toArray, List.set_cons_zero, List.set_cons_succ])
                refine wpAny_ready (rs := [10]) (by kernel_rfl) (by simp) (AllReady.cons rfl (fun K hK => ?_) AllReady.nil)
                go_simp
                refine hK _ _ ?_
                clear hK K
                (try simp only [Act.put, List.setIfInBounds_toArray, List.set_cons_zero, List.set_cons_succ])
                refine wpAny_ready (rs := [11]) (by kernel_rfl) (by simp) (AllReady.cons rfl (fun K hK => ?_) AllReady.nil)
                go_simp
                refine hK _ _ ?_
                clear hK K
                (try simp only [Act.put, List.setIfInBounds_toArray, List.set_cons_zero, List.set_cons_succ])
                refine wpAny_ready (rs := [12]) (by kernel_rfl) (by simp) (AllReady.cons rfl (fun K hK => ?_) AllReady.nil)
                go_simp
                refine hK _ _ ?_
                clear hK K
                (try simp only [Act.put, List.setIfInBounds_toArray, List.set_cons_zero, List.set_cons_succ])
                refine wpAny_ready (rs := [15]) (by kernel_rfl) (by simp) (AllReady.cons rfl (fun K hK => ?_) AllReady.nil)
                go_simp
                refine hK _ _ ?_
                clear hK K
                (try simp only [Act.put, List.setIfInBounds_toArray, List.set_cons_zero, List.set_cons_succ])
                refine wpAny_ready (rs := [16]) (by kernel_rfl) (by simp) (AllReady.cons rfl (fun K hK => ?_) AllReady.nil)
                go_simp
                refine hK _ _ ?_
                clear hK K
                (try simp only [Act.put, List.setIfInBounds_toArray, List.set_cons_zero, List.set_cons_succ])
                refine wpAny_done (by kernel_rfl) ?_ _
              all_goals
                have HS4 := Lib.hid ((HS2.out.setPath (.slice (some ⟨g2, 0, none⟩) (N + 1 + 1) c2)).setUsed k (by omega) true)
                have hne2 := HS2.out.apart HO2.out
                have HO4 : Hid (Own ((w2.setCell ⟨S, 1, none⟩ (.slice (some ⟨g2, 0, none⟩) (N + 1 + 1) c2)).setCell ⟨S, 2 + k, none⟩ (.bool true)) W1.heap.size (.slice (some ⟨g2, 0, none⟩) (N + 1 + 1) c2) (p ++ [(k : Int)])) :=
                  ownsRow_keep HO2.out (fun q hv => by
                    have hq : g2 = q := by injection hv
                    subst hq
                    exact (Below.heap_setCell _ _ _ _ hne2).trans (Below.heap_setCell _ _ _ _ hne2))
                have HB4 : Hid (Below W1.heap.size W1 ((w2.setCell ⟨S, 1, none⟩ (.slice (some ⟨g2, 0, none⟩) (N + 1 + 1) c2)).setCell ⟨S, 2 + k, none⟩ (.bool true))) :=
                  ((((HB1.out.drew).alloc (by have := HB1.out.size; exact this) _).trans HBa.out).setCell (p := ⟨S, 1, none⟩) hSB _).setCell (p := ⟨S, 2 + k, none⟩) hSB _
                generalize ((w2.setCell ⟨S, 1, none⟩ (.slice (some ⟨g2, 0, none⟩) (N + 1 + 1) c2)).setCell ⟨S, 2 + k, none⟩ (.bool true)) = w4 at HS4 HO4 HB4 ⊢
                clear t1 t2 t3 t4 t5 t6 HS2 HO2 HBa hne2 s0 s1 hSlt hcu hfz hfu hap hA1 HOd
                have hwy : IntKind.i64.wrap (wt + y) = wt + y := IntWalk.i64_in _ (by omega)
                have HGk : Hid (G k = M.grow (M.ent R) L' ov f (p ++ [(k : Int)]) (wt + y)) := by
                  show _ = _
                  rw [HGg.out, M.step_go (by rw [HVj.out, ← HYe.out]; exact hyb) HHb.out, HVj.out, ← HYe.out]
                have HRc : Hid ((M.grow (M.ent R) L' ov f (p ++ [(k : Int)]) (wt + y)).length ≠ 0 → res = M.grow (M.ent R) L' ov f (p ++ [(k : Int)]) (wt + y)) := fun hc => by
                  have e : M.grow (M.ent R) L' ov (f + 1) p wt = M.grow (M.ent R) L' ov f (p ++ [(k : Int)]) (wt + y) := by
                    rw [HG.out, HK.out, M.pick_yes hk (by rw [HGk.out]; exact hc), HGk.out]
                  rw [← e]
                  exact HRES.out (by rw [e]; exact hc)
                have HU4 : Hid (∀ q, q < L' → q ≠ M.vx (p ++ [(k : Int)]) 0 → (fun i => if i = k then true else U i) q = M.hasB (p ++ [(k : Int)]) (q : Int)) := fun q hq hq0 => by
                  rw [M.snoc_first (by rw [HPl.out]; omega)] at hq0
                  rw [hasB_app, ← HU.out q hq hq0]
                  show (if q = k then true else U q) = _
                  by_cases e : q = k
                  · subst e; simp
                  · rw [if_neg e]
                    have : ¬ (q : Int) = (k : Int) := by omega
                    simp [this]
                have HN2 := Lib.hid (M.nodesB_snoc HNd.out hk)
                have HD2 := Lib.hid (M.diffB_snoc HDf.out HHb.out)
                go_wp2_with fail
                refine (HIH.out g2 c2 (N + 1 + 1) (p ++ [(k : Int)]) (wt + y) _ w4 HB4.out HS4.out HO4.out HN2.out HD2.out (by omega) (by omega) (by omega) (by omega) HU4.out HRc.out).mono ?_
                rintro e w5 (⟨rfl, hnil, ⟨g5, c5, hs5, ho5⟩, hb5⟩ | ⟨rfl, ⟨g5, c5, hs5, hc5, hc6⟩, hT⟩)
                · have hc5 := (own_cap ho5).1
                  have hci : (N : Int) + 1 ≤ (c5 : Int) := by omega
                  have HS5 := Lib.hid hs5
                  have HO5 := Lib.hid ho5
                  have HB5 := Lib.hid hb5
                  have HKn : Hid (M.pick G (L' - (i + 1)) (i + 1) = M.pick G (L' - (k + 1)) (k + 1)) := HK.out.trans (M.pick_no hk (by rw [HGk.out]; exact hnil))
                  clear hs5 ho5 hb5 hnil HS4 HO4 HB4 HRc HU4 HN2 HD2
                  have t1 := HS5.out.c1
                  have t2 := World.rowIs.frozen HS5.out 1
                  have t3 := HS5.out.cU k (by omega)
                  have t4 := World.rowIs.frozen HS5.out (2 + k)
                  simp only [if_true] at t3
                  have t5 := fun x => (HS5.out.setPath x).cU k (by omega)
                  have t6 := fun x => (HS5.out.setUsed k (by omega) x).c1
                  simp only [if_true] at t5
                  have ht2 : ((N : Int) + 1 + 1 - 1) = (N : Int) + 1 := by omega
                  go_wp2
                  go_region
                  all_goals
                    go_wp2
                    go_roundw
                    case rel =>
                      have HS6 := (HS5.out.setPath (.slice (some ⟨g5, 0, none⟩) (N + 1) c5)).setUsed k (by omega) false
                      have hne5 := HS5.out.apart HO5.out
                      refine ⟨k + 1, g5, c5, by omega, by omega, by go_num, HKn, ?_, ?_, ?_⟩
                      · exact HS6.congrU fun q => by
                          by_cases e : q = k
                          · subst e; simp [HUk.out]
                          · simp [e]
                      · exact own_cut (ownsRow_keep HO5.out (fun q hv => by
                          have hq : g5 = q := by injection hv
                          subst hq
                          exact (Below.heap_setCell _ _ _ _ hne5).trans (Below.heap_setCell _ _ _ _ hne5)))
                      · exact ((HB5.out.drew).setCell (p := ⟨S, 1, none⟩) hSB _).setCell (p := ⟨S, 2 + k, none⟩) hSB _
                    case measure => simp [intOf]; omega
                · have hci : (N : Int) + 1 ≤ (c5 : Int) := by omega
                  have HS5 := Lib.hid hs5
                  have HTT := Lib.hid hT
                  clear hs5 hT HS4 HO4 HB4 HRc HU4 HN2 HD2
                  have t1 := HS5.out.c1
                  have t2 := World.rowIs.frozen HS5.out 1
                  have t3 := HS5.out.cU k (by omega)
                  have t4 := World.rowIs.frozen HS5.out (2 + k)
                  simp only [if_true] at t3
                  have t5 := fun x => (HS5.out.setPath x).cU k (by omega)
                  have t6 := fun x => (HS5.out.setUsed k (by omega) x).c1
                  simp only [if_true] at t5
                  have ht2 : ((N : Int) + 1 + 1 - 1) = (N : Int) + 1 := by omega
                  go_wp2
                  go_region
                  all_goals
                    go_wp2
                    go_ret
                    have HS6 := (HS5.out.setPath (.slice (some ⟨g5, 0, none⟩) (N + 1) c5)).setUsed k (by omega) false
                    obtain ⟨x, W2, W3, q1, q2, q3, q4, q5, q6⟩ := HTT.out
                    refine .inr ⟨rfl, ⟨g5, c5, ?_, by omega, hc6⟩, x, W2, W3, q1, q2, q3, q4, q5, ?_⟩
                    · exact HS6.congrU fun q => by
                        by_cases e : q = k
                        · subst e; simp [HUk.out]
                        · simp [e]
                    · exact ((q6.drew S).setCell (p := ⟨S, 1, none⟩) _).setCell (p := ⟨S, 2 + k, none⟩) _
        · obtain rfl : k = L := by omega
          have HE : Hid (M.grow (M.ent R) k ov (f + 1) p wt = []) := HG.out.trans (HK.out.trans M.pick_end)
          go_wp2
          go_ret
          exact .inl ⟨rfl, by rw [HE.out]; rfl, ⟨g, c, HSr.out, HOr.out⟩, HB1.out⟩
    · have hzn : (z != -1000000000000000) = true := by simpa using hzb
      have hwz : IntKind.i64.wrap (wt + z) = wt + z := IntWalk.i64_in _ (by omega)
      have HOd : Hid (Own wq.drew W1.heap.size (.slice (some ⟨g, 0, none⟩) (N + 1) c) p) := HOq.out.below (Below.refl _ _).drew
      have HP : Hid (PreC ov W1.heap.size res #[.slice (some ⟨g, 0, none⟩) (N + 1) c, .int .i64 (wt + z)] wq.drew) :=
        ⟨_, _, _, p, wt + z, rfl, HOd.out, by omega, by have := HPl.out; omega, fun h0 => by
          have hcl : M.clB (M.ent R) ov p wt = true := by rw [HC.out]; simp [hzb, h0]
          have e := M.grow_yes (n := L) (f := f) hcl
          have := HRES.out (by rw [e, HPl.out]; omega)
          rw [this, e]⟩
      have HBd : Hid (Below W1.heap.size W1 wq.drew) := HBq.out.drew
      obtain ⟨fn, tmps, assign, body, hy, hR⟩ := HYY.out #[.slice (some ⟨g, 0, none⟩) (N + 1) c, .int .i64 (wt + z)] wq.drew (3 - 1) HP.out HBd.out
      go_wp2
      refine (wpIn_wide (n := 3)).1 ?_
      refine wpIn_region_still_tail 14 (by kernel_rfl) (by kernel_rfl) ?_
      simp only [List.take_succ_cons, List.take_zero, List.drop_succ_cons, List.drop_zero]
      repeat still_step
      try refine wpStill_nil ?_
      change wpListIn _ _ _ _ _ _ _ wq.drew
      gi_wp2_with ((try refine ⟨fun h => by simp [Fence.wide] at h, ?_⟩); refine hR.mono ?_; clear hR; rintro e w3 (⟨rfl, hb3, hgo⟩ | ⟨rfl, hT, hsz, hkeep⟩))
      · obtain ⟨v', wt', he, hle⟩ := hgo
        have hwe : wt' = wt + z := by
          have := congrArg (fun a : Array Value => a[1]?) he
          simp at this
          omega
        have hcl : M.clB (M.ent R) ov p wt = false := by
          rw [HC.out]
          have : ¬ (ov < wt + z) := by omega
          simp [this]
        have HG : Hid (M.grow (M.ent R) L ov (f + 1) p wt = M.pick G (L - (i + 1)) (i + 1)) := by
          show _ = _
          rw [M.grow_no hcl, HGg.out, HVi.out]
        have HS3 := Lib.hid (HSq.out.block (hb3.block _ hSlt2))
        have HO3 := Lib.hid (HOd.out.below hb3)
        have HB3 := Lib.hid (HBd.out.trans (hb3.mono HBd.out.size))
        clear hcl HC hb3 s0 s1 s12 cr cz hSlt2 HSq HOq HBq HOd HBd HP hy he hle hwe
        go_wp2
        go_loopw [8] (fun v wr => ∃ k g c : Nat, i + 1 ≤ k ∧ k ≤ L ∧ v = .int .i64 k ∧ Hid (M.pick G (L - (i + 1)) (i + 1) = M.pick G (L - k) k) ∧ Hid (Srch wr S (.slice (some ⟨ab, ao, none⟩) L cap) (.slice (some ⟨g, 0, none⟩) (N + 1) c) U l) ∧ Hid (Own wr W1.heap.size (.slice (some ⟨g, 0, none⟩) (N + 1) c) p) ∧ Below W1.heap.size W1 wr) (fun v _ => L - (intOf v).toNat)
        case atStart => exact ⟨i + 1, g, c, by omega, by omega, by go_num, rfl, HS3, HO3, HB3.out⟩
        case round =>
          clear HS3 HO3 HB3
          obtain ⟨k, g, c, hk1, hk2, rfl, HK, HSr, HOr, hb⟩ := hrel
          obtain ⟨wo, rfl⟩ : ∃ x, x = wr := ⟨_, rfl⟩
          have HB1 := Lib.hid hb
          clear hb
          have s0 := HSr.out.c0
          have s1 := HSr.out.c1
          have hSlt := World.rowIs.lt HSr.out
          by_cases hk : k < L
          · have hki : (k : Int) < (L : Int) := by omega
            obtain ⟨ab', ao', ra', rc', L', lr, e', -, hlr, ck, hIr⟩ := (HS.out.below HB1.out).1.at k hk
            injection e' with e'
            injection e' with e1 e2 e3
            subst e1 e2
            have hL' : L' = L := by rw [← hIr.1, hlr]; exact HS.out.2.1.2 k hk
            subst hL'
            obtain ⟨rb', ro', y, rfl, -, hy, cy⟩ := hIr.at j hj
            have hye : y = M.ent R k j := by rw [hy, hlr]; rfl
            have hys := HS.out.2.2.1 k j hk hj
            rw [← hye] at hys
            unfold M.Sm at hys
            have HYe := Lib.hid hye
            clear hlr hIr hy hye e3
            by_cases hyb : y = -1000000000000000
            · have hg0 : (G k).length = 0 := by rw [HGg.out]; exact M.step_bot (by rw [HVj.out, ← HYe.out]; exact hyb)
              have HKn : Hid (M.pick G (L' - (i + 1)) (i + 1) = M.pick G (L' - (k + 1)) (k + 1)) := HK.out.trans (M.pick_no hk hg0)
              subst hyb
              clear hg0
              go_wp2
              go_roundw
              case rel => exact ⟨k + 1, g, c, by omega, by omega, by go_num, HKn, HSr, HOr, HB1.out⟩
              case measure => simp [intOf]; omega
            · have gy : (y == -1000000000000000) = false := by simpa using hyb
              have hcu := HSr.out.cU k (by omega)
              have hUk : U k = M.hasB p (k : Int) := HU.out k hk (by rw [HVi.out]; omega)
              by_cases hhb : M.hasB p (k : Int) = true
              · have hg0 : (G k).length = 0 := by rw [HGg.out]; exact M.step_has hhb
                have HKn : Hid (M.pick G (L' - (i + 1)) (i + 1) = M.pick G (L' - (k + 1)) (k + 1)) := HK.out.trans (M.pick_no hk hg0)
                rw [hUk, hhb] at hcu
                clear hg0 hUk hhb
                go_wp2
                go_roundw
                case rel => exact ⟨k + 1, g, c, by omega, by omega, by go_num, HKn, HSr, HOr, HB1.out⟩
                case measure => simp [intOf]; omega
              · simp only [Bool.not_eq_true] at hhb
                rw [hUk, hhb] at hcu
                have HUk := Lib.hid (hUk.trans hhb)
                have HHb := Lib.hid hhb
                clear hUk hhb
                have hk10 : (k : Int) < 10 := by omega
                have hfz := World.rowIs.frozen HSr.out 1
                have hfu := World.rowIs.frozen HSr.out (2 + k)
                have hap := HSr.out.apart HOr.out
                have hA1 : ∀ o, (wo.drew.alloc o).cell? ⟨S, 1, none⟩ = some (.slice (some ⟨g, 0, none⟩) (N + 1) c) := fun o => (World.cell?_alloc_old _ _ _ (Nat.ne_of_lt hSlt)).trans s1
                have HOd : Hid (Own wo.drew W1.heap.size (.slice (some ⟨g, 0, none⟩) (N + 1) c) p) := HOr.out.below (Below.refl _ _).drew
                go_wp2
                refine wp_region_any (by kernel_rfl) ?_
                change wpAny _ _ _ _ _ _ _ (World.drew _)
                refine wpAny_take (i := 0) (v := ?v0z) rfl (by kernel_rfl) (by kernel_rfl) (by kernel_rfl) (fun _ _ _ h => h) (Or.inl ⟨by rfl, ?hy0z⟩) ?rest0z
                case hy0z => (intro w; go_simp; try with_reducible rfl)
                (try simp only [Act.put, List.setIfInBounds_toArray, List.set_cons_zero, List.set_cons_succ])
                refine wpAny_take (i := 1) (v := ?v1z) rfl (by kernel_rfl) (by kernel_rfl) (by kernel_rfl) (fun _ _ _ h => h) (Or.inl ⟨by rfl, ?hy1z⟩) ?rest1z
                case hy1z => (intro w; go_simp; try with_reducible rfl)
                (try simp only [Act.put, List.setIfInBounds_toArray, List.set_cons_zero, List.set_cons_succ])
                refine wpAny_take (i := 2) (v := ?v2z) rfl (by kernel_rfl) (by kernel_rfl) (by kernel_rfl) (fun _ _ _ h => h) (Or.inl ⟨by rfl, ?hy2z⟩) ?rest2z
                case hy2z => (intro w; go_simp; try with_reducible rfl)
                (try simp only [Act.put, List.setIfInBounds_toArray, List.set_cons_zero, List.set_cons_succ])
                refine wpAny_take (i := 3) (v := ?v3z) rfl (by kernel_rfl) (by kernel_rfl) (by kernel_rfl) (fun _ _ _ h => h) (Or.inl ⟨by rfl, ?hy3z⟩) ?rest3z
                case hy3z => (intro w; go_simp; try with_reducible rfl)
                (try simp only [Act.put, List.setIfInBounds_toArray, List.set_cons_zero, List.set_cons_succ])
                refine wpAny_take (i := 4) (v := ?v4z) rfl (by kernel_rfl) (by kernel_rfl) (by kernel_rfl) (fun _ _ _ h => h) (Or.inl ⟨by rfl, ?hy4z⟩) ?rest4z
                case hy4z => (intro w; go_simp; try with_reducible rfl)
                (try simp only [Act.put, List.setIfInBounds_toArray, List.set_cons_zero, List.set_cons_succ])
                refine wpAny_take (i := 5) (v := ?v5z) rfl (by kernel_rfl) (by kernel_rfl) (by kernel_rfl) (fun _ _ _ h => h) (Or.inl ⟨by rfl, ?hy5z⟩) ?rest5z
                case hy5z => (intro w; go_simp; try with_reducible rfl)
                (try simp only [Act.put, List.setIfInBounds_toArray, List.set_cons_zero, List.set_cons_succ])
                refine wpAny_take (i := 7) (v := ?v7z) rfl (by kernel_rfl) (by kernel_rfl) (by kernel_rfl) (fun _ _ _ h => h) (Or.inl ⟨by rfl, ?hy7z⟩) ?rest7z
                case hy7z => (intro w; go_simp; try with_reducible rfl)
                (try simp only [Act.put, List.setIfInBounds_toArray, List.set_cons_zero, List.set_cons_succ])
                refine wpAny_take (i := 13) (v := ?v13z) rfl (by kernel_rfl) (by kernel_rfl) (by kernel_rfl) (fun _ _ _ h => h) (Or.inl ⟨by rfl, ?hy13z⟩) ?rest13z
                case hy13z => (intro w; go_simp; try with_reducible rfl)
                (try simp only [Act.put, List.setIfInBounds_toArray, List.set_cons_zero, List.set_cons_succ])
                refine wpAny_take (i := 14) (v := ?v14z) rfl (by kernel_rfl) (by kernel_rfl) (by kernel_rfl) (fun _ _ _ h => h) (Or.inl ⟨by rfl, ?hy14z⟩) ?rest14z
                case hy14z => (intro w; go_simp; try with_reducible rfl)
                (try simp only [Act.put, List.setIfInBounds_toArray, List.set_cons_zero, List.set_cons_succ])
                refine wpAny_ready (rs := [6, 8]) (by kernel_rfl) (by simp) (AllReady.cons rfl (fun K hK => ?a6z) (AllReady.cons rfl (fun K hK => ?a8z) AllReady.nil))
                case' a6z =>
                  go_simp
                  refine hK _ _ ?_
                  clear hK K
                  (try simp only [Act.put, List.setIfInBounds_toArray, List.set_cons_zero, List.set_cons_succ])
                  refine wpAny_ready (rs := [8]) (by kernel_rfl) (by simp) (AllReady.cons rfl (fun K hK => ?_) AllReady.nil)
                  go_simp
                  refine hK _ _ ?_
                  clear hK K
                  (try simp only [Act.put, List.setIfInBounds_toArray, List.set_cons_zero, List.set_cons_succ])
                  refine wpAny_ready (rs := [9]) (by kernel_rfl) (by simp) (AllReady.cons rfl (fun K hK => ?_) AllReady.nil)
                  refine step_append2 _ rfl _ _ rfl W1.heap.size _ p (k : Int) _ (N + 1) HPl.out rfl (HOd.out.below (b_alloc _ _)) rfl (by simp) (by omega) (by simp; have := HB1.out.size; omega) ?_
                  intro g2 c2 w2 ho hb hk5
                  have HO2 := Lib.hid ho
                  have HBa := Lib.hid hb
                  have HS2 := Lib.hid (HSr.out.block ((hk5 S (by simp; omega) (by intro e; exact hap (by injection e))).trans (Below.heap_alloc _ _ _ hSlt)))
                  have t1 := HS2.out.c1
                  have t2 := World.rowIs.frozen HS2.out 1
                  have t3 := HS2.out.cU k (by omega)
                  have t4 := World.rowIs.frozen HS2.out (2 + k)
                  rw [HUk.out] at t3
                  have t5 := fun x => (HS2.out.setPath x).cU k (by omega)
                  have t6 := fun x => (HS2.out.setUsed k (by omega) x).c1
                  simp only [HUk.out] at t5
                  clear ho hb hk5
                  refine hK _ _ ?_
                  clear hK K
                  (try simp only [Act.put, List.setIfInBounds_toArray, List.set_cons_zero, List.set_cons_succ])
                  refine wpAny_ready (rs := [10]) (by kernel_rfl) (by simp) (AllReady.cons rfl (fun K hK => ?_) AllReady.nil)
                  go_simp
                  refine hK _ _ ?_
                  clear hK K
                  (try simp only [Act.put, List.setIfInBounds_toArray, List.set_cons_zero, List.set_cons_succ])
                  refine wpAny_ready (rs := [11]) (by kernel_rfl) (by simp) (AllReady.cons rfl (fun K hK => ?_) AllReady.nil)
                  go_simp
                  refine hK _ _ ?_
                  clear hK K
                  (try simp only [Act.put, List.setIfInBounds_toArray, List.set_cons_zero, List.set_cons_succ])
                  refine wpAny_ready (rs := [12]) (by kernel_rfl) (by simp) (AllReady.cons rfl (fun K hK => ?_) AllReady.nil)
                  go_simp
                  refine hK _ _ ?_
                  clear hK K
                  (try simp only [Act.put, List.setIfInBounds_toArray, List.set_cons_zero, List.set_cons_succ])
                  refine wpAny_ready (rs := [15]) (by kernel_rfl) (by simp) (AllReady.cons rfl (fun K hK => ?_) AllReady.nil)
                  go_simp
                  refine hK _ _ ?_
                  clear hK K
                  (try simp only [Act.put, List.setIfInBounds_toArray, List.set_cons_zero, List.set_cons_succ])
                  refine wpAny_ready (rs := [16]) (by kernel_rfl) (by simp) (AllReady.cons rfl (fun K hK => ?_) AllReady.nil)
                  go_simp
                  refine hK _ _ ?_
                  clear hK K
                  (try simp only [Act.put, List.setIfInBounds_toArray, List.set_cons_zero, List.set_cons_succ])
                  refine wpAny_done (by kernel_rfl) ?_ _
                case' a8z =>
                  go_simp
                  refine hK _ _ ?_
                  clear hK K
                  (try simp only [Act.put, List.setIfInBounds_toArray, List.set_cons_zero, List.set_cons_succ])
                  refine wpAny_ready (rs := [6]) (by kernel_rfl) (by simp) (AllReady.cons rfl (fun K hK => ?_) AllReady.nil)
                  go_simp
                  refine hK _ _ ?_
                  clear hK K
                  (try simp only [Act.put, List.setIfInBounds_toArray, List.set_cons_zero, List.set_cons_succ])
                  refine wpAny_ready (rs := [9]) (by kernel_rfl) (by simp) (AllReady.cons rfl (fun K hK => ?_) AllReady.nil)
                  refine step_append2 _ rfl _ _ rfl W1.heap.size _ p (k : Int) _ (N + 1) HPl.out rfl (HOd.out.below (b_alloc _ _)) rfl (by simp) (by omega) (by simp; have := HB1.out.size; omega) ?_
                  intro g2 c2 w2 ho hb hk5
                  have HO2 := Lib.hid ho
                  have HBa := Lib.hid hb
                  have HS2 := Lib.hid (HSr.out.block ((hk5 S (by simp; omega) (by intro e; exact hap (by injection e))).trans (Below.heap_alloc _ _ _ hSlt)))
                  have t1 := HS2.out.c1
                  have t2 := World.rowIs.frozen HS2.out 1
                  have t3 := HS2.out.cU k (by omega)
                  have t4 := World.rowIs.frozen HS2.out (2 + k)
                  rw [HUk.out] at t3
                  have t5 := fun x => (HS2.out.setPath x).cU k (by omega)
                  have t6 := fun x => (HS2.out.setUsed k (by omega) x).c1
                  simp only [HUk.out] at t5
                  clear ho hb hk5
                  refine hK _ _ ?_
                  clear hK K
                  (try simp only [Act.put, List.setIfInBounds_toArray, List.set_cons_zero, List.set_cons_succ])
                  refine wpAny_ready (rs := [10]) (by kernel_rfl) (by simp) (AllReady.cons rfl (fun K hK => ?_) AllReady.nil)
                  go_simp
                  refine hK _ _ ?_
                  clear hK K
                  (try simp only [Act.put, List.setIfInBounds_toArray, List.set_cons_zero, List.set_cons_succ])
                  refine wpAny_ready (rs := [11]) (by kernel_rfl) (by simp) (AllReady.cons rfl (fun K hK => ?_) AllReady.nil)
                  go_simp
                  refine hK _ _ ?_
                  clear hK K
                  (try simp only [Act.put, List.setIfInBounds_toArray, List.set_cons_zero, List.set_cons_succ])
                  refine wpAny_ready (rs := [12]) (by kernel_rfl) (by simp) (AllReady.cons rfl (fun K hK => ?_) AllReady.nil)
                  go_simp
                  refine hK _ _ ?_
                  clear hK K
                  (try simp only [Act.put, List.setIfInBounds_toArray, List.set_cons_zero, List.set_cons_succ])
                  refine wpAny_ready (rs := [15]) (by kernel_rfl) (by simp) (AllReady.cons rfl (fun K hK => ?_) AllReady.nil)
                  go_simp
                  refine hK _ _ ?_
                  clear hK K
                  (try simp only [Act.put, List.setIfInBounds_toArray, List.set_cons_zero, List.set_cons_succ])
                  refine wpAny_ready (rs := [16]) (by kernel_rfl) (by simp) (AllReady.cons rfl (fun K hK => ?_) AllReady.nil)
                  go_simp
                  refine hK _ _ ?_
                  clear hK K
                  (try simp only [Act.put, List.setIfInBounds_toArray, List.set_cons_zero, List.set_cons_succ])
                  refine wpAny_done (by kernel_rfl) ?_ _
                all_goals
                  have HS4 := Lib.hid ((HS2.out.setPath (.slice (some ⟨g2, 0, none⟩) (N + 1 + 1) c2)).setUsed k (by omega) true)
                  have hne2 := HS2.out.apart HO2.out
                  have HO4 : Hid (Own ((w2.setCell ⟨S, 1, none⟩ (.slice (some ⟨g2, 0, none⟩) (N + 1 + 1) c2)).setCell ⟨S, 2 + k, none⟩ (.bool true)) W1.heap.size (.slice (some ⟨g2, 0, none⟩) (N + 1 + 1) c2) (p ++ [(k : Int)])) :=
                    ownsRow_keep HO2.out (fun q hv => by
                      have hq : g2 = q := by injection hv
                      subst hq
                      exact (Below.heap_setCell _ _ _ _ hne2).trans (Below.heap_setCell _ _ _ _ hne2))
                  have HB4 : Hid (Below W1.heap.size W1 ((w2.setCell ⟨S, 1, none⟩ (.slice (some ⟨g2, 0, none⟩) (N + 1 + 1) c2)).setCell ⟨S, 2 + k, none⟩ (.bool true))) :=
                    ((((HB1.out.drew).alloc (by have := HB1.out.size; exact this) _).trans HBa.out).setCell (p := ⟨S, 1, none⟩) hSB _).setCell (p := ⟨S, 2 + k, none⟩) hSB _
                  generalize ((w2.setCell ⟨S, 1, none⟩ (.slice (some ⟨g2, 0, none⟩) (N + 1 + 1) c2)).setCell ⟨S, 2 + k, none⟩ (.bool true)) = w4 at HS4 HO4 HB4 ⊢
                  clear t1 t2 t3 t4 t5 t6 HS2 HO2 HBa hne2 s0 s1 hSlt hcu hfz hfu hap hA1 HOd
                  have hwy : IntKind.i64.wrap (wt + y) = wt + y := IntWalk.i64_in _ (by omega)
                  have HGk : Hid (G k = M.grow (M.ent R) L' ov f (p ++ [(k : Int)]) (wt + y)) := by
                    show _ = _
                    rw [HGg.out, M.step_go (by rw [HVj.out, ← HYe.out]; exact hyb) HHb.out, HVj.out, ← HYe.out]
                  have HRc : Hid ((M.grow (M.ent R) L' ov f (p ++ [(k : Int)]) (wt + y)).length ≠ 0 → res = M.grow (M.ent R) L' ov f (p ++ [(k : Int)]) (wt + y)) := fun hc => by
                    have e : M.grow (M.ent R) L' ov (f + 1) p wt = M.grow (M.ent R) L' ov f (p ++ [(k : Int)]) (wt + y) := by
                      rw [HG.out, HK.out, M.pick_yes hk (by rw [HGk.out]; exact hc), HGk.out]
                    rw [← e]
                    exact HRES.out (by rw [e]; exact hc)
                  have HU4 : Hid (∀ q, q < L' → q ≠ M.vx (p ++ [(k : Int)]) 0 → (fun i => if i = k then true else U i) q = M.hasB (p ++ [(k : Int)]) (q : Int)) := fun q hq hq0 => by
                    rw [M.snoc_first (by rw [HPl.out]; omega)] at hq0
                    rw [hasB_app, ← HU.out q hq hq0]
                    show (if q = k then true else U q) = _
                    by_cases e : q = k
                    · subst e; simp
                    · rw [if_neg e]
                      have : ¬ (q : Int) = (k : Int) := by omega
                      simp [this]
                  have HN2 := Lib.hid (M.nodesB_snoc HNd.out hk)
                  have HD2 := Lib.hid (M.diffB_snoc HDf.out HHb.out)
                  go_wp2_with fail
                  refine (HIH.out g2 c2 (N + 1 + 1) (p ++ [(k : Int)]) (wt + y) _ w4 HB4.out HS4.out HO4.out HN2.out HD2.out (by omega) (by omega) (by omega) (by omega) HU4.out HRc.out).mono ?_
                  rintro e w5 (⟨rfl, hnil, ⟨g5, c5, hs5, ho5⟩, hb5⟩ | ⟨rfl, ⟨g5, c5, hs5, hc5, hc6⟩, hT⟩)
                  · have hc5 := (own_cap ho5).1
                    have hci : (N : Int) + 1 ≤ (c5 : Int) := by omega
                    have HS5 := Lib.hid hs5
                    have HO5 := Lib.hid ho5
                    have HB5 := Lib.hid hb5
                    have HKn : Hid (M.pick G (L' - (i + 1)) (i + 1) = M.pick G (L' - (k + 1)) (k + 1)) := HK.out.trans (M.pick_no hk (by rw [HGk.out]; exact hnil))
                    clear hs5 ho5 hb5 hnil HS4 HO4 HB4 HRc HU4 HN2 HD2
                    have t1 := HS5.out.c1
                    have t2 := World.rowIs.frozen HS5.out 1
                    have t3 := HS5.out.cU k (by omega)
                    have t4 := World.rowIs.frozen HS5.out (2 + k)
                    simp only [if_true] at t3
                    have t5 := fun x => (HS5.out.setPath x).cU k (by omega)
                    have t6 := fun x => (HS5.out.setUsed k (by omega) x).c1
                    simp only [if_true] at t5
                    have ht2 : ((N : Int) + 1 + 1 - 1) = (N : Int) + 1 := by omega
                    go_wp2
                    go_region
                    all_goals
                      go_wp2
                      go_roundw
                      case rel =>
                        have HS6 := (HS5.out.setPath (.slice (some ⟨g5, 0, none⟩) (N + 1) c5)).setUsed k (by omega) false
                        have hne5 := HS5.out.apart HO5.out
                        refine ⟨k + 1, g5, c5, by omega, by omega, by go_num, HKn, ?_, ?_, ?_⟩
                        · exact HS6.congrU fun q => by
                            by_cases e : q = k
                            · subst e; simp [HUk.out]
                            · simp [e]
                        · exact own_cut (ownsRow_keep HO5.out (fun q hv => by
                            have hq : g5 = q := by injection hv
                            subst hq
                            exact (Below.heap_setCell _ _ _ _ hne5).trans (Below.heap_setCell _ _ _ _ hne5)))
                        · exact ((HB5.out.drew).setCell (p := ⟨S, 1, none⟩) hSB _).setCell (p := ⟨S, 2 + k, none⟩) hSB _
                      case measure => simp [intOf]; omega
                  · have hci : (N : Int) + 1 ≤ (c5 : Int) := by omega
                    have HS5 := Lib.hid hs5
                    have HTT := Lib.hid hT
                    clear hs5 hT HS4 HO4 HB4 HRc HU4 HN2 HD2
                    have t1 := HS5.out.c1
                    have t2 := World.rowIs.frozen HS5.out 1
                    have t3 := HS5.out.cU k (by omega)
                    have t4 := World.rowIs.frozen HS5.out (2 + k)
                    simp only [if_true] at t3
                    have t5 := fun x => (HS5.out.setPath x).cU k (by omega)
                    have t6 := fun x => (HS5.out.setUsed k (by omega) x).c1
                    simp only [if_true] at t5
                    have ht2 : ((N : Int) + 1 + 1 - 1) = (N : Int) + 1 := by omega
                    go_wp2
                    go_region
                    all_goals
                      go_wp2
                      go_ret
                      have HS6 := (HS5.out.setPath (.slice (some ⟨g5, 0, none⟩) (N + 1) c5)).setUsed k (by omega) false
                      obtain ⟨x, W2, W3, q1, q2, q3, q4, q5, q6⟩ := HTT.out
                      refine .inr ⟨rfl, ⟨g5, c5, ?_, by omega, hc6⟩, x, W2, W3, q1, q2, q3, q4, q5, ?_⟩
                      · exact HS6.congrU fun q => by
                          by_cases e : q = k
                          · subst e; simp [HUk.out]
                          · simp [e]
                      · exact ((q6.drew S).setCell (p := ⟨S, 1, none⟩) _).setCell (p := ⟨S, 2 + k, none⟩) _
          · obtain rfl : k = L := by omega
            have HE : Hid (M.grow (M.ent R) k ov (f + 1) p wt = []) := HG.out.trans (HK.out.trans M.pick_end)
            go_wp2
            go_ret
            exact .inl ⟨rfl, by rw [HE.out]; rfl, ⟨g, c, HSr.out, HOr.out⟩, HB1.out⟩
      · have HS3 := Lib.hid (HSq.out.block (hkeep S hSB hSlt2))
        have hcc := own_cap HOd.out
        have HF : Hid (∃ x W2 W3, PreC ov W1.heap.size res x W2 ∧ Below W1.heap.size W1 W2 ∧ T x W2 W3 ∧ S < W2.heap.size ∧ W2.heap.size ≤ W3.heap.size ∧ Chg1 S W3 w3) := ⟨_, _, _, HP.out, HBd.out, hT, hSlt2, hsz, Chg1.refl _ _⟩
        clear hT hsz hkeep hy
        go_wp2
        go_ret
        exact .inr ⟨rfl, ⟨g, c, HS3.out, hcc.1, hcc.2⟩, HF.out⟩
end Go.Proofs.Ytobdgboejbbfiaa.V
