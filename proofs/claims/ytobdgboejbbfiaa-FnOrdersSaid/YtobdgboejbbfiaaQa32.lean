/- Texts laid together: Dga. -/
import Derived.Test.YtobdgboejbbfiaaQa13
import Derived.Test.YtobdgboejbbfiaaQa19
import Derived.Deep.RegionWith
import Derived.Deep.RegionHeld3
import Derived.Deep.DeepCutAuto
set_option linter.unusedSimpArgs false
set_option linter.unusedVariables false
set_option linter.unusedSectionVars false
namespace Go.Proofs.Ytobdgboejbbfiaa
namespace V
set_option maxRecDepth 100000
open Go.RowKit
theorem OwnPl.thr {w w' : World} {B g : Nat} {v : Value} {l : List M.Pc} (h : OwnPl w B v l) (ht : Thr g w w') (hB : g < B) : OwnPl w' B v l := h.keep (fun k h1 h2 => ht.other k (by omega) h2)
theorem ResG.thr {w w' : World} {R g : Nat} (h : ResG w R) (ht : Thr g w w') (hg : g < R) : ResG w' R := by
  obtain ⟨h1, h2, h3, h4⟩ := h
  have hl : R < w.heap.size := cell_lt h1
  exact ⟨(ht.cell (p := ⟨R, 0, none⟩) hl (by show R ≠ g; omega)).trans h1, (ht.cell (p := ⟨R, 1, none⟩) hl (by show R ≠ g; omega)).trans h2, (ht.frozen (p := ⟨R, 0, none⟩) hl hg).trans h3, (ht.frozen (p := ⟨R, 1, none⟩) hl hg).trans h4⟩
/-- The box gb of the graph with the events x and the places l, the list in the block q; the result's box rb; the source g. -/
structure GD (g rb gb : Nat) (w wr : World) (x : Int) (q n c : Nat) (l : List M.Pc) : Prop where
  res : ResG wr rb
  ev : wr.cell? ⟨gb, 0, none⟩ = some (.int .i64 x)
  pl : wr.cell? ⟨gb, 1, none⟩ = some (.slice (some ⟨q, 0, none⟩) n c)
  f0 : wr.frozen? ⟨gb, 0, none⟩ = false
  f1 : wr.frozen? ⟨gb, 1, none⟩ = false
  own : OwnPl wr w.heap.size (.slice (some ⟨q, 0, none⟩) n c) l
  qg : q ≠ gb
  qr : q ≠ rb
  gr : gb ≠ rb
  lr : w.heap.size ≤ rb
  lg : w.heap.size ≤ gb
  lq : w.heap.size ≤ q
  ls : g < w.heap.size
  src : Src wr g
  thr : Thr g w wr
theorem GD.step {g rb gb : Nat} {w wr w' : World} {x : Int} {q n c : Nat} {l : List M.Pc} (h : GD g rb gb w wr x q n c l) (hs : Src w' g) (ht : Thr g wr w') : GD g rb gb w w' x q n c l := by
  have hls := h.ls
  have hlr := h.lr
  have hlg := h.lg
  have hlt : gb < wr.heap.size := cell_lt h.ev
  exact ⟨h.res.thr ht (by omega), (ht.cell (p := ⟨gb, 0, none⟩) hlt (by show gb ≠ g; omega)).trans h.ev, (ht.cell (p := ⟨gb, 1, none⟩) hlt (by show gb ≠ g; omega)).trans h.pl, (ht.frozen (p := ⟨gb, 0, none⟩) hlt (by show g < gb; omega)).trans h.f0, (ht.frozen (p := ⟨gb, 1, none⟩) hlt (by show g < gb; omega)).trans h.f1, h.own.thr ht (by omega), h.qg, h.qr, h.gr, h.lr, h.lg, h.lq, h.ls, hs, h.thr.trans ht⟩
theorem GD.below {g rb gb : Nat} {w wr w' : World} {x : Int} {q n c : Nat} {l : List M.Pc} (h : GD g rb gb w wr x q n c l) (hb : Below wr.heap.size wr w') : GD g rb gb w w' x q n c l :=
  h.step (h.src.below (hb.mono (by have := h.src.lt; omega))) (Thr.of_below hb (by have := h.src.lt; omega))
/-- The number of events is written. -/
theorem GD.setX {g rb gb : Nat} {w wr : World} {x : Int} {q n c : Nat} {l : List M.Pc} (h : GD g rb gb w wr x q n c l) (y : Int) : GD g rb gb w (wr.setCell ⟨gb, 0, none⟩ (.int .i64 y)) y q n c l := by
  have hls := h.ls
  have hlg := h.lg
  have hgr := h.gr
  have hlt : gb < wr.heap.size := cell_lt h.ev
  have hk : ∀ k, k ≠ gb → (wr.setCell ⟨gb, 0, none⟩ (.int .i64 y)).heap[k]? = wr.heap[k]? := fun k hk => Below.heap_setCell _ _ _ _ (by show k ≠ gb; omega)
  obtain ⟨r0, r1, r2, r3⟩ := h.res
  have hrb := hk rb (by omega)
  exact ⟨⟨(World.cell?_of_block (a := ⟨rb, 0, none⟩) hrb).trans r0, (World.cell?_of_block (a := ⟨rb, 1, none⟩) hrb).trans r1, (World.frozen?_of_block (a := ⟨rb, 0, none⟩) hrb).trans r2, (World.frozen?_of_block (a := ⟨rb, 1, none⟩) hrb).trans r3⟩,
    by simp [go_sem, h.ev, hlt], by simp [go_sem, h.pl, h.ev, hlt], by simp [go_sem, h.f0], by simp [go_sem, h.f1], h.own.keepB fun k hq => hk k (by simp [Value.ownBlock] at hq; have := h.qg; omega), h.qg, h.qr, h.gr, h.lr, h.lg, h.lq, h.ls,
    h.src.below ((Below.refl _ _).setCell (p := ⟨gb, 0, none⟩) (by show g + 1 ≤ gb; omega) _), ⟨h.thr.below.setCell (p := ⟨gb, 0, none⟩) (by show g ≤ gb; omega) _, fun k h1 h2 => (hk k (by omega)).trans (h.thr.other k h1 h2)⟩⟩
/-- The places are written behind an append. -/
theorem GD.push {g rb gb : Nat} {w wr wl w' : World} {x : Int} {q n c m : Nat} {l k : List M.Pc} {v' : Value} (h : GD g rb gb w wr x q n c l) (hl : Below wr.heap.size wr wl) (ha : AppP wl w.heap.size (.slice (some ⟨q, 0, none⟩) n c) (l ++ k) m v' w') :
    ∃ q' c', v' = .slice (some ⟨q', 0, none⟩) m c' ∧ w'.cell? ⟨gb, 1, none⟩ = some (.slice (some ⟨q, 0, none⟩) n c) ∧ w'.frozen? ⟨gb, 1, none⟩ = false ∧ w'.cell? ⟨gb, 0, none⟩ = some (.int .i64 x) ∧ GD g rb gb w (w'.setCell ⟨gb, 1, none⟩ (.slice (some ⟨q', 0, none⟩) m c')) x q' m c' (l ++ k) := by
  obtain ⟨q', c', hv, ho, hb, hf, hob⟩ := ha
  have hls := h.ls
  have hlg := h.lg
  have hlr := h.lr
  have hgr := h.gr
  have hlt : gb < wr.heap.size := cell_lt h.ev
  have hrt : rb < wr.heap.size := cell_lt h.res.1
  have hwl := hl.size
  have hqb : q' = q ∨ wl.heap.size ≤ q' := by
    rcases hob with e | e
    · simp [Value.ownBlock] at e; exact .inl e
    · exact .inr e
  have hq1 : q' ≠ gb := by rcases hqb with e | e; exact e ▸ h.qg; omega
  have hq2 : q' ≠ rb := by rcases hqb with e | e; exact e ▸ h.qr; omega
  have hq3 : w.heap.size ≤ q' := by rcases hqb with e | e; exact e ▸ h.lq; have := h.lq; have := h.thr.below.size; omega
  have hkeep : ∀ k, k < wr.heap.size → k ≠ q → w'.heap[k]? = wr.heap[k]? := fun k h1 h2 => (hf k (by omega) (by simp [Value.ownBlock]; omega)).trans (hl.block k h1)
  have hg1 := hkeep gb hlt (fun e => h.qg e.symm)
  have hr1 := hkeep rb hrt (fun e => h.qr e.symm)
  have e0 : w'.cell? ⟨gb, 0, none⟩ = some (.int .i64 x) := (World.cell?_of_block (a := ⟨gb, 0, none⟩) hg1).trans h.ev
  have e1 : w'.cell? ⟨gb, 1, none⟩ = some (.slice (some ⟨q, 0, none⟩) n c) := (World.cell?_of_block (a := ⟨gb, 1, none⟩) hg1).trans h.pl
  have e2 : w'.frozen? ⟨gb, 0, none⟩ = false := (World.frozen?_of_block (a := ⟨gb, 0, none⟩) hg1).trans h.f0
  have e3 : w'.frozen? ⟨gb, 1, none⟩ = false := (World.frozen?_of_block (a := ⟨gb, 1, none⟩) hg1).trans h.f1
  have hlt' : gb < w'.heap.size := cell_lt e0
  refine ⟨q', c', hv, e1, e3, e0, ?_⟩
  have hk : ∀ k, k ≠ gb → (w'.setCell ⟨gb, 1, none⟩ (.slice (some ⟨q', 0, none⟩) m c')).heap[k]? = w'.heap[k]? := fun k hk => Below.heap_setCell _ _ _ _ (by show k ≠ gb; omega)
  obtain ⟨r0, r1, r2, r3⟩ := h.res
  have hrb := (hk rb (by omega)).trans hr1
  have hbw : Below w.heap.size wr w' := (hl.mono (by have := h.thr.below.size; have := cell_lt h.ev; omega)).trans hb
  exact ⟨⟨(World.cell?_of_block (a := ⟨rb, 0, none⟩) hrb).trans r0, (World.cell?_of_block (a := ⟨rb, 1, none⟩) hrb).trans r1, (World.frozen?_of_block (a := ⟨rb, 0, none⟩) hrb).trans r2, (World.frozen?_of_block (a := ⟨rb, 1, none⟩) hrb).trans r3⟩,
    by simp [go_sem, e0, e1, hlt'], by simp [go_sem, e1, hlt'], by simp [go_sem, e2], by simp [go_sem, e3], ho.keepB fun k hq => hk k (by simp [Value.ownBlock] at hq; omega), hq1, hq2, h.gr, h.lr, h.lg, hq3, h.ls,
    h.src.below ((hbw.mono (by omega)).setCell (p := ⟨gb, 1, none⟩) (by show g + 1 ≤ gb; omega) _),
    ⟨h.thr.below.trans ((hbw.mono (by omega)).setCell (p := ⟨gb, 1, none⟩) (by show g ≤ gb; omega) _), fun k h1 h2 => (hk k (by omega)).trans ((hbw.block k h2).trans (h.thr.other k h1 h2))⟩⟩
/-- The graph is written into the result's box. -/
theorem GD.fin {g rb gb : Nat} {w wr : World} {x : Int} {q n c : Nat} {l : List M.Pc} (h : GD g rb gb w wr x q n c l) :
    OwnPl ((wr.setCell ⟨rb, 0, none⟩ (.int .i64 x)).setCell ⟨rb, 1, none⟩ (.slice (some ⟨q, 0, none⟩) n c)) w.heap.size (.slice (some ⟨q, 0, none⟩) n c) l ∧ Src ((wr.setCell ⟨rb, 0, none⟩ (.int .i64 x)).setCell ⟨rb, 1, none⟩ (.slice (some ⟨q, 0, none⟩) n c)) g ∧ Thr g w ((wr.setCell ⟨rb, 0, none⟩ (.int .i64 x)).setCell ⟨rb, 1, none⟩ (.slice (some ⟨q, 0, none⟩) n c)) := by
  have hls := h.ls
  have hlr := h.lr
  have hqr := h.qr
  have hk : ∀ k, k ≠ rb → ((wr.setCell ⟨rb, 0, none⟩ (.int .i64 x)).setCell ⟨rb, 1, none⟩ (.slice (some ⟨q, 0, none⟩) n c)).heap[k]? = wr.heap[k]? := fun k hk => (Below.heap_setCell _ _ _ _ (by show k ≠ rb; omega)).trans (Below.heap_setCell _ _ _ _ (by show k ≠ rb; omega))
  exact ⟨h.own.keepB fun k hq => hk k (by simp [Value.ownBlock] at hq; omega), h.src.below (((Below.refl _ _).setCell (p := ⟨rb, 0, none⟩) (by show g + 1 ≤ rb; omega) _).setCell (p := ⟨rb, 1, none⟩) (by show g + 1 ≤ rb; omega) _), (h.thr.below.setCell (p := ⟨rb, 0, none⟩) (by show g ≤ rb; omega) _).setCell (p := ⟨rb, 1, none⟩) (by show g ≤ rb; omega) _, fun k h1 h2 => (hk k (by omega)).trans (h.thr.other k h1 h2)⟩
/-- A new box of four numbers. -/
def ZB (w : World) (z : Nat) : Prop := w.cell? ⟨z, 0, none⟩ = some (.int .i64 0) ∧ w.cell? ⟨z, 1, none⟩ = some (.int .i64 0) ∧ w.cell? ⟨z, 2, none⟩ = some (.int .i64 0) ∧ w.cell? ⟨z, 3, none⟩ = some (.int .i64 0) ∧ w.frozen? ⟨z, 0, none⟩ = false ∧ w.frozen? ⟨z, 1, none⟩ = false ∧ w.frozen? ⟨z, 2, none⟩ = false ∧ w.frozen? ⟨z, 3, none⟩ = false
theorem zb_new (w : World) (t : TypeId) : ZB (w.alloc (.cells #[.int .i64 0, .int .i64 0, .int .i64 0, .int .i64 0] t)) w.heap.size := ⟨by simp [go_sem], by simp [go_sem], by simp [go_sem], by simp [go_sem], by simp [go_sem], by simp [go_sem], by simp [go_sem], by simp [go_sem]⟩
theorem ZB.thr {w w' : World} {z g : Nat} (h : ZB w z) (ht : Thr g w w') (hg : g < z) : ZB w' z := by
  obtain ⟨h0, h1, h2, h3, h4, h5, h6, h7⟩ := h
  have hl : z < w.heap.size := cell_lt h0
  exact ⟨(ht.cell (p := ⟨z, 0, none⟩) hl (by show z ≠ g; omega)).trans h0, (ht.cell (p := ⟨z, 1, none⟩) hl (by show z ≠ g; omega)).trans h1, (ht.cell (p := ⟨z, 2, none⟩) hl (by show z ≠ g; omega)).trans h2, (ht.cell (p := ⟨z, 3, none⟩) hl (by show z ≠ g; omega)).trans h3, (ht.frozen (p := ⟨z, 0, none⟩) hl hg).trans h4, (ht.frozen (p := ⟨z, 1, none⟩) hl hg).trans h5, (ht.frozen (p := ⟨z, 2, none⟩) hl hg).trans h6, (ht.frozen (p := ⟨z, 3, none⟩) hl hg).trans h7⟩
theorem zb_call {g : Nat} {w wy : World} {t : TypeId} (ht : Thr g (w.alloc (.cells #[.int .i64 0, .int .i64 0, .int .i64 0, .int .i64 0] t)) wy) (hg : g < w.heap.size) : ZB wy w.heap.size := (zb_new w t).thr ht hg
def ZBg (g B : Nat) (w : World) (z : Nat) : Prop := ZB w z ∧ g < B ∧ B ≤ z
theorem zbg_call {g B : Nat} {w wy : World} {t : TypeId} (ht : Thr g (w.alloc (.cells #[.int .i64 0, .int .i64 0, .int .i64 0, .int .i64 0] t)) wy) (hg : g < B) (hB : B ≤ w.heap.size) : ZBg g B wy w.heap.size := ⟨(zb_new w t).thr ht (by omega), hg, hB⟩
theorem zbg_calld {g B : Nat} {w wy : World} {t : TypeId} (ht : Thr g (w.alloc (.cells #[.int .i64 0, .int .i64 0, .int .i64 0, .int .i64 0] t)).drew wy) (hg : g < B) (hB : B ≤ w.heap.size) : ZBg g B wy w.heap.size := ⟨ZB.thr (w := (w.alloc (.cells #[.int .i64 0, .int .i64 0, .int .i64 0, .int .i64 0] t)).drew) (zb_new w t) ht (by omega), hg, hB⟩
theorem ZBg.thr {g B : Nat} {w w' : World} {z : Nat} (h : ZBg g B w z) (ht : Thr g w w') : ZBg g B w' z := ⟨h.1.thr ht (by have := h.2; omega), h.2⟩
/-- A place's box. -/
def PB (w : World) (z : Nat) (p0 p1 p2 p3 : Int) : Prop := w.cell? ⟨z, 0, none⟩ = some (.int .i64 p0) ∧ w.cell? ⟨z, 1, none⟩ = some (.int .i64 p1) ∧ w.cell? ⟨z, 2, none⟩ = some (.int .i64 p2) ∧ w.cell? ⟨z, 3, none⟩ = some (.int .i64 p3) ∧ w.frozen? ⟨z, 3, none⟩ = false
theorem PB.thr {w w' : World} {z g : Nat} {p0 p1 p2 p3 : Int} (h : PB w z p0 p1 p2 p3) (ht : Thr g w w') (hg : g < z) : PB w' z p0 p1 p2 p3 := by
  obtain ⟨h0, h1, h2, h3, h7⟩ := h
  have hl : z < w.heap.size := cell_lt h0
  exact ⟨(ht.cell (p := ⟨z, 0, none⟩) hl (by show z ≠ g; omega)).trans h0, (ht.cell (p := ⟨z, 1, none⟩) hl (by show z ≠ g; omega)).trans h1, (ht.cell (p := ⟨z, 2, none⟩) hl (by show z ≠ g; omega)).trans h2, (ht.cell (p := ⟨z, 3, none⟩) hl (by show z ≠ g; omega)).trans h3, (ht.frozen (p := ⟨z, 3, none⟩) hl hg).trans h7⟩
theorem PB.set3 {w : World} {z : Nat} {p0 p1 p2 p3 : Int} (h : PB w z p0 p1 p2 p3) (t : Int) : PB (w.setCell ⟨z, 3, none⟩ (.int .i64 t)) z p0 p1 p2 t := by
  obtain ⟨h0, h1, h2, h3, h4⟩ := h
  have hl : z < w.heap.size := cell_lt h0
  exact ⟨by simp [go_sem, h0, hl], by simp [go_sem, h1, hl], by simp [go_sem, h2, hl], by simp [go_sem, h3, hl], by simp [go_sem, h4]⟩
/-- Behind a drawn region that makes a place's box. -/
def DP (g rb gb : Nat) (w wx : World) (x : Int) (q n c : Nat) (l : List M.Pc) (s : Value) : Prop :=
  ∃ z p0 p1 p2, s = .pointer (some ⟨z, 0, none⟩) ∧ PB wx z p0 p1 p2 0 ∧ GD g rb gb w wx x q n c l ∧ gb < z ∧ z ≠ q ∧ z ≠ rb
theorem dp_new {g rb gb : Nat} {w wv : World} {x : Int} {q n c : Nat} {l : List M.Pc} {p0 p1 p2 : Int} {t : TypeId} (h : GD g rb gb w wv x q n c l) : DP g rb gb w (wv.alloc (.cells #[.int .i64 p0, .int .i64 p1, .int .i64 p2, .int .i64 0] t)) x q n c l (.pointer (some ⟨wv.heap.size, 0, none⟩)) :=
  ⟨wv.heap.size, p0, p1, p2, rfl, ⟨by simp [go_sem], by simp [go_sem], by simp [go_sem], by simp [go_sem], by simp [go_sem]⟩, h.below (b_alloc _ _), cell_lt h.ev, by have := (h.own.lt (k := q) rfl).2; omega, by have : rb < wv.heap.size := cell_lt h.res.1; omega⟩
/-- Stores into a box that is none of the others. -/
theorem GD.other {g rb gb : Nat} {w wr : World} {x : Int} {q n c : Nat} {l : List M.Pc} (h : GD g rb gb w wr x q n c l) {z i : Nat} (v : Value) (hz : w.heap.size ≤ z) (h1 : z ≠ gb) (h2 : z ≠ rb) (h3 : z ≠ q) : GD g rb gb w (wr.setCell ⟨z, i, none⟩ v) x q n c l := by
  have hls := h.ls
  have hk : ∀ k, k ≠ z → (wr.setCell ⟨z, i, none⟩ v).heap[k]? = wr.heap[k]? := fun k hk => Below.heap_setCell _ _ _ _ (by show k ≠ z; omega)
  obtain ⟨r0, r1, r2, r3⟩ := h.res
  have hrb := hk rb (by omega)
  have hgb := hk gb (by omega)
  exact ⟨⟨(World.cell?_of_block (a := ⟨rb, 0, none⟩) hrb).trans r0, (World.cell?_of_block (a := ⟨rb, 1, none⟩) hrb).trans r1, (World.frozen?_of_block (a := ⟨rb, 0, none⟩) hrb).trans r2, (World.frozen?_of_block (a := ⟨rb, 1, none⟩) hrb).trans r3⟩,
    (World.cell?_of_block (a := ⟨gb, 0, none⟩) hgb).trans h.ev, (World.cell?_of_block (a := ⟨gb, 1, none⟩) hgb).trans h.pl, (World.frozen?_of_block (a := ⟨gb, 0, none⟩) hgb).trans h.f0, (World.frozen?_of_block (a := ⟨gb, 1, none⟩) hgb).trans h.f1, h.own.keepB fun k hq => hk k (by simp [Value.ownBlock] at hq; omega), h.qg, h.qr, h.gr, h.lr, h.lg, h.lq, h.ls,
    h.src.below ((Below.refl _ _).setCell (p := ⟨z, i, none⟩) (by show g + 1 ≤ z; omega) _), ⟨h.thr.below.setCell (p := ⟨z, i, none⟩) (by show g ≤ z; omega) _, fun k h1 h2 => (hk k (by omega)).trans (h.thr.other k h1 h2)⟩⟩
theorem pls_one (w : World) (p0 p1 p2 p3 : Int) : Pls (w.alloc (.cells #[.int .i64 p0, .int .i64 p1, .int .i64 p2, .int .i64 p3] 35)) (some ⟨w.heap.size, 0, none⟩) 1 [(p0, p1, p2, p3)] := by
  refine ⟨rfl, by unfold maxLen; omega, .inr ⟨w.heap.size, 0, rfl, by simp, fun i hi => ?_⟩⟩
  obtain rfl : i = 0 := by omega
  exact ⟨by simp [go_sem], by simp [go_sem], by simp [go_sem], by simp [go_sem]⟩
theorem dp_old {g rb gb : Nat} {w wv : World} {x : Int} {q n c : Nat} {l : List M.Pc} {z : Nat} {p0 p1 p2 : Int} (h : GD g rb gb w wv x q n c l) (hz : ZB wv z) (h1 : gb < z) (h2 : z ≠ rb) (h3 : z ≠ q) : DP g rb gb w ((((wv.setCell ⟨z, 0, none⟩ (.int .i64 p0)).setCell ⟨z, 1, none⟩ (.int .i64 p1)).setCell ⟨z, 2, none⟩ (.int .i64 p2)).setCell ⟨z, 3, none⟩ (.int .i64 0)) x q n c l (.pointer (some ⟨z, 0, none⟩)) := by
  obtain ⟨c0, c1, c2, c3, f0, f1, f2, f3⟩ := hz
  have hl : z < wv.heap.size := cell_lt c0
  have hlg := h.lg
  refine ⟨z, p0, p1, p2, rfl, ⟨?_, ?_, ?_, ?_, ?_⟩, (((h.other _ (by omega) (by omega) h2 h3).other _ (by omega) (by omega) h2 h3).other _ (by omega) (by omega) h2 h3).other _ (by omega) (by omega) h2 h3, h1, h3, h2⟩ <;> simp [go_sem, c0, c1, c2, c3, f3, hl]
theorem dp_oldZ {g rb gb B : Nat} {w wv : World} {x : Int} {q n c : Nat} {l : List M.Pc} {z : Nat} {p0 p1 p2 : Int} (h : GD g rb gb w wv x q n c l) (hz : ZBg g B wv z) (h1 : gb < B) (h2 : rb < B) (h3 : q < B) : DP g rb gb w ((((wv.setCell ⟨z, 0, none⟩ (.int .i64 p0)).setCell ⟨z, 1, none⟩ (.int .i64 p1)).setCell ⟨z, 2, none⟩ (.int .i64 p2)).setCell ⟨z, 3, none⟩ (.int .i64 0)) x q n c l (.pointer (some ⟨z, 0, none⟩)) :=
  dp_old h hz.1 (by have := hz.2; omega) (by have := hz.2; omega) (by have := hz.2; omega)
/-- Three numbers to pick from. -/
def CO (w : World) (b : Nat) : Prop := ∀ i, i < 3 → ∃ x : Int, (Lit.int .i64 x).wf = true ∧ w.cell? ⟨b, 0 + i, none⟩ = some (.int .i64 x)
theorem co_new (w : World) (x y z : Int) (t : TypeId) (hx : (Lit.int .i64 x).wf = true) (hy : (Lit.int .i64 y).wf = true) (hz : (Lit.int .i64 z).wf = true) : CO (w.alloc (.cells #[.int .i64 x, .int .i64 y, .int .i64 z] t)) w.heap.size :=
  litCells w [x, y, z] _ _ rfl (by simp [hx, hy, hz])
theorem CO.keep {w w' : World} {b : Nat} (h : CO w b) (e : w'.heap[b]? = w.heap[b]?) : CO w' b := fun i hi => by
  obtain ⟨x, hx, hc⟩ := h i hi
  exact ⟨x, hx, (World.cell?_of_block (a := ⟨b, 0 + i, none⟩) e).trans hc⟩
theorem CO.lt {w : World} {b : Nat} (h : CO w b) : b < w.heap.size := by
  obtain ⟨x, hx, hc⟩ := h 0 (by omega)
  exact cell_lt hc
theorem CO.alloc {w : World} {b : Nat} (h : CO w b) (o : Obj) : CO (w.alloc o) b := h.keep (Below.heap_alloc _ _ _ h.lt)
theorem CO.thr {w w' : World} {b g : Nat} (h : CO w b) (ht : Thr g w w') (hg : g < b) : CO w' b := h.keep (ht.other b hg h.lt)
/-- What such a region keeps. -/
theorem kd_call {g rb gb B : Nat} {w wr w' : World} {x : Int} {q n c : Nat} {l : List M.Pc} (h : wr.cell? ⟨gb, 0, none⟩ = some (.int .i64 x) ∧ GD g rb gb w wr x q n c l ∧ B ≤ wr.heap.size) (hs : Src w' g) (ht : Thr g wr w') : w'.cell? ⟨gb, 0, none⟩ = some (.int .i64 x) ∧ GD g rb gb w w' x q n c l ∧ B ≤ w'.heap.size :=
  ⟨(h.2.1.step hs ht).ev, h.2.1.step hs ht, Nat.le_trans h.2.2 ht.below.size⟩
theorem kd_alloc {g rb gb B : Nat} {w wr : World} {x : Int} {q n c : Nat} {l : List M.Pc} (h : wr.cell? ⟨gb, 0, none⟩ = some (.int .i64 x) ∧ GD g rb gb w wr x q n c l ∧ B ≤ wr.heap.size) (o : Obj) : (wr.alloc o).cell? ⟨gb, 0, none⟩ = some (.int .i64 x) ∧ GD g rb gb w (wr.alloc o) x q n c l ∧ B ≤ (wr.alloc o).heap.size :=
  ⟨(h.2.1.below (b_alloc _ _)).ev, h.2.1.below (b_alloc _ _), by simp; omega⟩
theorem kd_allocd {g rb gb B : Nat} {w wr : World} {x : Int} {q n c : Nat} {l : List M.Pc} (h : GD g rb gb w wr x q n c l) (hB : B ≤ wr.heap.size) (o : Obj) : (wr.alloc o).drew.cell? ⟨gb, 0, none⟩ = some (.int .i64 x) ∧ GD g rb gb w (wr.alloc o).drew x q n c l ∧ B ≤ (wr.alloc o).drew.heap.size := by
  have := h.below (b_alloc wr o).drew
  exact ⟨this.ev, this, Nat.le_trans hB (b_alloc wr o).drew.size⟩
theorem kd_store {g rb gb B : Nat} {w wr : World} {x : Int} {q n c z : Nat} {l : List M.Pc} {u0 u1 u2 u3 : Value} (h : wr.cell? ⟨gb, 0, none⟩ = some (.int .i64 x) ∧ GD g rb gb w wr x q n c l ∧ B ≤ wr.heap.size) (hz : ZBg g B wr z) (h1 : gb < B) (h2 : rb < B) (h3 : q < B) : ((((wr.setCell ⟨z, 0, none⟩ u0).setCell ⟨z, 1, none⟩ u1).setCell ⟨z, 2, none⟩ u2).setCell ⟨z, 3, none⟩ u3).cell? ⟨gb, 0, none⟩ = some (.int .i64 x) ∧ GD g rb gb w ((((wr.setCell ⟨z, 0, none⟩ u0).setCell ⟨z, 1, none⟩ u1).setCell ⟨z, 2, none⟩ u2).setCell ⟨z, 3, none⟩ u3) x q n c l ∧ B ≤ ((((wr.setCell ⟨z, 0, none⟩ u0).setCell ⟨z, 1, none⟩ u1).setCell ⟨z, 2, none⟩ u2).setCell ⟨z, 3, none⟩ u3).heap.size := by
  have hlg := h.2.1.lg
  obtain ⟨-, z1, z2⟩ := hz
  have := (((h.2.1.other (z := z) (i := 0) u0 (by omega) (by omega) (by omega) (by omega)).other (z := z) (i := 1) u1 (by omega) (by omega) (by omega) (by omega)).other (z := z) (i := 2) u2 (by omega) (by omega) (by omega) (by omega)).other (z := z) (i := 3) u3 (by omega) (by omega) (by omega) (by omega)
  exact ⟨this.ev, this, by simpa using h.2.2⟩
end V
end Go.Proofs.Ytobdgboejbbfiaa
