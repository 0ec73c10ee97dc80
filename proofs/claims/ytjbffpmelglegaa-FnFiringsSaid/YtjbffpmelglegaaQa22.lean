/- Texts laid together: Dga, End1, End2, Rcb. -/
import Derived.Test.YtjbffpmelglegaaQa12
import Derived.Test.YtjbffpmelglegaaQa21
import Derived.Deep.RegionWith
import Derived.Deep.RegionHeld3
import Derived.Deep.DeepCutAuto
import Derived.Test.YtjbffpmelglegaaQa6
import Derived.Test.YtjbffpmelglegaaQa8
import Derived.Test.YtjbffpmelglegaaQa14
import Derived.Test.YtjbffpmelglegaaQa10
set_option linter.unusedSimpArgs false
set_option linter.unusedVariables false
set_option linter.unusedSectionVars false
namespace Go.Proofs.Ytjbffpmelglegaa
namespace V
set_option maxRecDepth 100000
open Go.RowKit
theorem OwnPl.thr {w w' : World} {B g : Nat} {v : Value} {l : List M.Pc} (h : OwnPl w B v l) (ht : Thr g w w') (hB : g < B) : OwnPl w' B v l := h.keep (fun k h1 h2 => ht.other k (by omega) h2)
theorem ResG.thr {w w' : World} {R g : Nat} (h : ResG w R) (ht : Thr g w w') (hg : g < R) : ResG w' R := by
  obtain ⟨h1, h2, h3, h4⟩ := h
  have hl : R < w.heap.size := cell_lt h1
  exact ⟨(ht.cell (p := ⟨R, 0, none⟩) hl (by show R ≠ g; omega)).trans h1, (ht.cell (p := ⟨R, 1, none⟩) hl (by show R ≠ g; omega)).trans h2, (ht.frozen (p := ⟨R, 0, none⟩) hl hg).trans h3, (ht.frozen (p := ⟨R, 1, none⟩) hl hg).trans h4⟩
/-- The box gb of the graph with the events x and the places l, the list in the block q; the result's box rb; the source g. -/
structure GD (g rb gb : Nat) (w wr : World) (x : Int) (q n c : Nat) (l : List M.Pc) : Prop where
  res : ResG wr rb
  ev : wr.cell? ⟨gb, 0, none⟩ = some (.int .i64 x)
  pl : wr.cell? ⟨gb, 1, none⟩ = some (.slice (some ⟨q, 0, none⟩) n c)
  f0 : wr.frozen? ⟨gb, 0, none⟩ = false
  f1 : wr.frozen? ⟨gb, 1, none⟩ = false
  own : OwnPl wr w.heap.size (.slice (some ⟨q, 0, none⟩) n c) l
  qg : q ≠ gb
  qr : q ≠ rb
  gr : gb ≠ rb
  lr : w.heap.size ≤ rb
  lg : w.heap.size ≤ gb
  lq : w.heap.size ≤ q
  ls : g < w.heap.size
  src : Src wr g
  thr : Thr g w wr
theorem GD.step {g rb gb : Nat} {w wr w' : World} {x : Int} {q n c : Nat} {l : List M.Pc} (h : GD g rb gb w wr x q n c l) (hs : Src w' g) (ht : Thr g wr w') : GD g rb gb w w' x q n c l := by
  have hls := h.ls
  have hlr := h.lr
  have hlg := h.lg
  have hlt : gb < wr.heap.size := cell_lt h.ev
  exact ⟨h.res.thr ht (by omega), (ht.cell (p := ⟨gb, 0, none⟩) hlt (by show gb ≠ g; omega)).trans h.ev, (ht.cell (p := ⟨gb, 1, none⟩) hlt (by show gb ≠ g; omega)).trans h.pl, (ht.frozen (p := ⟨gb, 0, none⟩) hlt (by show g < gb; omega)).trans h.f0, (ht.frozen (p := ⟨gb, 1, none⟩) hlt (by show g < gb; omega)).trans h.f1, h.own.thr ht (by omega), h.qg, h.qr, h.gr, h.lr, h.lg, h.lq, h.ls, hs, h.thr.trans ht⟩
theorem GD.below {g rb gb : Nat} {w wr w' : World} {x : Int} {q n c : Nat} {l : List M.Pc} (h : GD g rb gb w wr x q n c l) (hb : Below wr.heap.size wr w') : GD g rb gb w w' x q n c l :=
  h.step (h.src.below (hb.mono (by have := h.src.lt; omega))) (Thr.of_below hb (by have := h.src.lt; omega))
/-- The number of events is written. -/
theorem GD.setX {g rb gb : Nat} {w wr : World} {x : Int} {q n c : Nat} {l : List M.Pc} (h : GD g rb gb w wr x q n c l) (y : Int) : GD g rb gb w (wr.setCell ⟨gb, 0, none⟩ (.int .i64 y)) y q n c l := by
  have hls := h.ls
  have hlg := h.lg
  have hgr := h.gr
  have hlt : gb < wr.heap.size := cell_lt h.ev
  have hk : ∀ k, k ≠ gb → (wr.setCell ⟨gb, 0, none⟩ (.int .i64 y)).heap[k]? = wr.heap[k]? := fun k hk => Below.heap_setCell _ _ _ _ (by show k ≠ gb; omega)
  obtain ⟨r0, r1, r2, r3⟩ := h.res
  have hrb := hk rb (by omega)
  exact ⟨⟨(World.cell?_of_block (a := ⟨rb, 0, none⟩) hrb).trans r0, (World.cell?_of_block (a := ⟨rb, 1, none⟩) hrb).trans r1, (World.frozen?_of_block (a := ⟨rb, 0, none⟩) hrb).trans r2, (World.frozen?_of_block (a := ⟨rb, 1, none⟩) hrb).trans r3⟩,
    by simp [go_sem, h.ev, hlt], by simp [go_sem, h.pl, h.ev, hlt], by simp [go_sem, h.f0], by simp [go_sem, h.f1], h.own.keepB fun k hq => hk k (by simp [Value.ownBlock] at hq; have := h.qg; omega), h.qg, h.qr, h.gr, h.lr, h.lg, h.lq, h.ls,
    h.src.below ((Below.refl _ _).setCell (p := ⟨gb, 0, none⟩) (by show g + 1 ≤ gb; omega) _), ⟨h.thr.below.setCell (p := ⟨gb, 0, none⟩) (by show g ≤ gb; omega) _, fun k h1 h2 => (hk k (by omega)).trans (h.thr.other k h1 h2)⟩⟩
/-- The places are written behind an append. -/
theorem GD.push {g rb gb : Nat} {w wr wl w' : World} {x : Int} {q n c m : Nat} {l k : List M.Pc} {v' : Value} (h : GD g rb gb w wr x q n c l) (hl : Below wr.heap.size wr wl) (ha : AppP wl w.heap.size (.slice (some ⟨q, 0, none⟩) n c) (l ++ k) m v' w') :
    ∃ q' c', v' = .slice (some ⟨q', 0, none⟩) m c' ∧ w'.cell? ⟨gb, 1, none⟩ = some (.slice (some ⟨q, 0, none⟩) n c) ∧ w'.frozen? ⟨gb, 1, none⟩ = false ∧ w'.cell? ⟨gb, 0, none⟩ = some (.int .i64 x) ∧ GD g rb gb w (w'.setCell ⟨gb, 1, none⟩ (.slice (some ⟨q', 0, none⟩) m c')) x q' m c' (l ++ k) := by
  obtain ⟨q', c', hv, ho, hb, hf, hob⟩ := ha
  have hls := h.ls
  have hlg := h.lg
  have hlr := h.lr
  have hgr := h.gr
  have hlt : gb < wr.heap.size := cell_lt h.ev
  have hrt : rb < wr.heap.size := cell_lt h.res.1
  have hwl := hl.size
  have hqb : q' = q ∨ wl.heap.size ≤ q' := by
    rcases hob with e | e
    · simp [Value.ownBlock] at e; exact .inl e
    · exact .inr e
  have hq1 : q' ≠ gb := by rcases hqb with e | e; exact e ▸ h.qg; omega
  have hq2 : q' ≠ rb := by rcases hqb with e | e; exact e ▸ h.qr; omega
  have hq3 : w.heap.size ≤ q' := by rcases hqb with e | e; exact e ▸ h.lq; have := h.lq; have := h.thr.below.size; omega
  have hkeep : ∀ k, k < wr.heap.size → k ≠ q → w'.heap[k]? = wr.heap[k]? := fun k h1 h2 => (hf k (by omega) (by simp [Value.ownBlock]; omega)).trans (hl.block k h1)
  have hg1 := hkeep gb hlt (fun e => h.qg e.symm)
  have hr1 := hkeep rb hrt (fun e => h.qr e.symm)
  have e0 : w'.cell? ⟨gb, 0, none⟩ = some (.int .i64 x) := (World.cell?_of_block (a := ⟨gb, 0, none⟩) hg1).trans h.ev
  have e1 : w'.cell? ⟨gb, 1, none⟩ = some (.slice (some ⟨q, 0, none⟩) n c) := (World.cell?_of_block (a := ⟨gb, 1, none⟩) hg1).trans h.pl
  have e2 : w'.frozen? ⟨gb, 0, none⟩ = false := (World.frozen?_of_block (a := ⟨gb, 0, none⟩) hg1).trans h.f0
  have e3 : w'.frozen? ⟨gb, 1, none⟩ = false := (World.frozen?_of_block (a := ⟨gb, 1, none⟩) hg1).trans h.f1
  have hlt' : gb < w'.heap.size := cell_lt e0
  refine ⟨q', c', hv, e1, e3, e0, ?_⟩
  have hk : ∀ k, k ≠ gb → (w'.setCell ⟨gb, 1, none⟩ (.slice (some ⟨q', 0, none⟩) m c')).heap[k]? = w'.heap[k]? := fun k hk => Below.heap_setCell _ _ _ _ (by show k ≠ gb; omega)
  obtain ⟨r0, r1, r2, r3⟩ := h.res
  have hrb := (hk rb (by omega)).trans hr1
  have hbw : Below w.heap.size wr w' := (hl.mono (by have := h.thr.below.size; have := cell_lt h.ev; omega)).trans hb
  exact ⟨⟨(World.cell?_of_block (a := ⟨rb, 0, none⟩) hrb).trans r0, (World.cell?_of_block (a := ⟨rb, 1, none⟩) hrb).trans r1, (World.frozen?_of_block (a := ⟨rb, 0, none⟩) hrb).trans r2, (World.frozen?_of_block (a := ⟨rb, 1, none⟩) hrb).trans r3⟩,
    by simp [go_sem, e0, e1, hlt'], by simp [go_sem, e1, hlt'], by simp [go_sem, e2], by simp [go_sem, e3], ho.keepB fun k hq => hk k (by simp [Value.ownBlock] at hq; omega), hq1, hq2, h.gr, h.lr, h.lg, hq3, h.ls,
    h.src.below ((hbw.mono (by omega)).setCell (p := ⟨gb, 1, none⟩) (by show g + 1 ≤ gb; omega) _),
    ⟨h.thr.below.trans ((hbw.mono (by omega)).setCell (p := ⟨gb, 1, none⟩) (by show g ≤ gb; omega) _), fun k h1 h2 => (hk k (by omega)).trans ((hbw.block k h2).trans (h.thr.other k h1 h2))⟩⟩
/-- The graph is written into the result's box. -/
theorem GD.fin {g rb gb : Nat} {w wr : World} {x : Int} {q n c : Nat} {l : List M.Pc} (h : GD g rb gb w wr x q n c l) :
    OwnPl ((wr.setCell ⟨rb, 0, none⟩ (.int .i64 x)).setCell ⟨rb, 1, none⟩ (.slice (some ⟨q, 0, none⟩) n c)) w.heap.size (.slice (some ⟨q, 0, none⟩) n c) l ∧ Src ((wr.setCell ⟨rb, 0, none⟩ (.int .i64 x)).setCell ⟨rb, 1, none⟩ (.slice (some ⟨q, 0, none⟩) n c)) g ∧ Thr g w ((wr.setCell ⟨rb, 0, none⟩ (.int .i64 x)).setCell ⟨rb, 1, none⟩ (.slice (some ⟨q, 0, none⟩) n c)) := by
  have hls := h.ls
  have hlr := h.lr
  have hqr := h.qr
  have hk : ∀ k, k ≠ rb → ((wr.setCell ⟨rb, 0, none⟩ (.int .i64 x)).setCell ⟨rb, 1, none⟩ (.slice (some ⟨q, 0, none⟩) n c)).heap[k]? = wr.heap[k]? := fun k hk => (Below.heap_setCell _ _ _ _ (by show k ≠ rb; omega)).trans (Below.heap_setCell _ _ _ _ (by show k ≠ rb; omega))
  exact ⟨h.own.keepB fun k hq => hk k (by simp [Value.ownBlock] at hq; omega), h.src.below (((Below.refl _ _).setCell (p := ⟨rb, 0, none⟩) (by show g + 1 ≤ rb; omega) _).setCell (p := ⟨rb, 1, none⟩) (by show g + 1 ≤ rb; omega) _), (h.thr.below.setCell (p := ⟨rb, 0, none⟩) (by show g ≤ rb; omega) _).setCell (p := ⟨rb, 1, none⟩) (by show g ≤ rb; omega) _, fun k h1 h2 => (hk k (by omega)).trans (h.thr.other k h1 h2)⟩
/-- A new box of four numbers. -/
def ZB (w : World) (z : Nat) : Prop := w.cell? ⟨z, 0, none⟩ = some (.int .i64 0) ∧ w.cell? ⟨z, 1, none⟩ = some (.int .i64 0) ∧ w.cell? ⟨z, 2, none⟩ = some (.int .i64 0) ∧ w.cell? ⟨z, 3, none⟩ = some (.int .i64 0) ∧ w.frozen? ⟨z, 0, none⟩ = false ∧ w.frozen? ⟨z, 1, none⟩ = false ∧ w.frozen? ⟨z, 2, none⟩ = false ∧ w.frozen? ⟨z, 3, none⟩ = false
theorem zb_new (w : World) (t : TypeId) : ZB (w.alloc (.cells #[.int .i64 0, .int .i64 0, .int .i64 0, .int .i64 0] t)) w.heap.size := ⟨by simp [go_sem], by simp [go_sem], by simp [go_sem], by simp [go_sem], by simp [go_sem], by simp [go_sem], by simp [go_sem], by simp [go_sem]⟩
theorem ZB.thr {w w' : World} {z g : Nat} (h : ZB w z) (ht : Thr g w w') (hg : g < z) : ZB w' z := by
  obtain ⟨h0, h1, h2, h3, h4, h5, h6, h7⟩ := h
  have hl : z < w.heap.size := cell_lt h0
  exact ⟨(ht.cell (p := ⟨z, 0, none⟩) hl (by show z ≠ g; omega)).trans h0, (ht.cell (p := ⟨z, 1, none⟩) hl (by show z ≠ g; omega)).trans h1, (ht.cell (p := ⟨z, 2, none⟩) hl (by show z ≠ g; omega)).trans h2, (ht.cell (p := ⟨z, 3, none⟩) hl (by show z ≠ g; omega)).trans h3, (ht.frozen (p := ⟨z, 0, none⟩) hl hg).trans h4, (ht.frozen (p := ⟨z, 1, none⟩) hl hg).trans h5, (ht.frozen (p := ⟨z, 2, none⟩) hl hg).trans h6, (ht.frozen (p := ⟨z, 3, none⟩) hl hg).trans h7⟩
theorem zb_call {g : Nat} {w wy : World} {t : TypeId} (ht : Thr g (w.alloc (.cells #[.int .i64 0, .int .i64 0, .int .i64 0, .int .i64 0] t)) wy) (hg : g < w.heap.size) : ZB wy w.heap.size := (zb_new w t).thr ht hg
def ZBg (g B : Nat) (w : World) (z : Nat) : Prop := ZB w z ∧ g < B ∧ B ≤ z
theorem zbg_call {g B : Nat} {w wy : World} {t : TypeId} (ht : Thr g (w.alloc (.cells #[.int .i64 0, .int .i64 0, .int .i64 0, .int .i64 0] t)) wy) (hg : g < B) (hB : B ≤ w.heap.size) : ZBg g B wy w.heap.size := ⟨(zb_new w t).thr ht (by omega), hg, hB⟩
theorem zbg_calld {g B : Nat} {w wy : World} {t : TypeId} (ht : Thr g (w.alloc (.cells #[.int .i64 0, .int .i64 0, .int .i64 0, .int .i64 0] t)).drew wy) (hg : g < B) (hB : B ≤ w.heap.size) : ZBg g B wy w.heap.size := ⟨ZB.thr (w := (w.alloc (.cells #[.int .i64 0, .int .i64 0, .int .i64 0, .int .i64 0] t)).drew) (zb_new w t) ht (by omega), hg, hB⟩
theorem ZBg.thr {g B : Nat} {w w' : World} {z : Nat} (h : ZBg g B w z) (ht : Thr g w w') : ZBg g B w' z := ⟨h.1.thr ht (by have := h.2; omega), h.2⟩
/-- A place's box. -/
def PB (w : World) (z : Nat) (p0 p1 p2 p3 : Int) : Prop := w.cell? ⟨z, 0, none⟩ = some (.int .i64 p0) ∧ w.cell? ⟨z, 1, none⟩ = some (.int .i64 p1) ∧ w.cell? ⟨z, 2, none⟩ = some (.int .i64 p2) ∧ w.cell? ⟨z, 3, none⟩ = some (.int .i64 p3) ∧ w.frozen? ⟨z, 3, none⟩ = false
theorem PB.thr {w w' : World} {z g : Nat} {p0 p1 p2 p3 : Int} (h : PB w z p0 p1 p2 p3) (ht : Thr g w w') (hg : g < z) : PB w' z p0 p1 p2 p3 := by
  obtain ⟨h0, h1, h2, h3, h7⟩ := h
  have hl : z < w.heap.size := cell_lt h0
  exact ⟨(ht.cell (p := ⟨z, 0, none⟩) hl (by show z ≠ g; omega)).trans h0, (ht.cell (p := ⟨z, 1, none⟩) hl (by show z ≠ g; omega)).trans h1, (ht.cell (p := ⟨z, 2, none⟩) hl (by show z ≠ g; omega)).trans h2, (ht.cell (p := ⟨z, 3, none⟩) hl (by show z ≠ g; omega)).trans h3, (ht.frozen (p := ⟨z, 3, none⟩) hl hg).trans h7⟩
theorem PB.set3 {w : World} {z : Nat} {p0 p1 p2 p3 : Int} (h : PB w z p0 p1 p2 p3) (t : Int) : PB (w.setCell ⟨z, 3, none⟩ (.int .i64 t)) z p0 p1 p2 t := by
  obtain ⟨h0, h1, h2, h3, h4⟩ := h
  have hl : z < w.heap.size := cell_lt h0
  exact ⟨by simp [go_sem, h0, hl], by simp [go_sem, h1, hl], by simp [go_sem, h2, hl], by simp [go_sem, h3, hl], by simp [go_sem, h4]⟩
/-- Behind a drawn region that makes a place's box. -/
def DP (g rb gb : Nat) (w wx : World) (x : Int) (q n c : Nat) (l : List M.Pc) (s : Value) : Prop :=
  ∃ z p0 p1 p2, s = .pointer (some ⟨z, 0, none⟩) ∧ PB wx z p0 p1 p2 0 ∧ GD g rb gb w wx x q n c l ∧ gb < z ∧ z ≠ q ∧ z ≠ rb
theorem dp_new {g rb gb : Nat} {w wv : World} {x : Int} {q n c : Nat} {l : List M.Pc} {p0 p1 p2 : Int} {t : TypeId} (h : GD g rb gb w wv x q n c l) : DP g rb gb w (wv.alloc (.cells #[.int .i64 p0, .int .i64 p1, .int .i64 p2, .int .i64 0] t)) x q n c l (.pointer (some ⟨wv.heap.size, 0, none⟩)) :=
  ⟨wv.heap.size, p0, p1, p2, rfl, ⟨by simp [go_sem], by simp [go_sem], by simp [go_sem], by simp [go_sem], by simp [go_sem]⟩, h.below (b_alloc _ _), cell_lt h.ev, by have := (h.own.lt (k := q) rfl).2; omega, by have : rb < wv.heap.size := cell_lt h.res.1; omega⟩
/-- Stores into a box that is none of the others. -/
theorem GD.other {g rb gb : Nat} {w wr : World} {x : Int} {q n c : Nat} {l : List M.Pc} (h : GD g rb gb w wr x q n c l) {z i : Nat} (v : Value) (hz : w.heap.size ≤ z) (h1 : z ≠ gb) (h2 : z ≠ rb) (h3 : z ≠ q) : GD g rb gb w (wr.setCell ⟨z, i, none⟩ v) x q n c l := by
  have hls := h.ls
  have hk : ∀ k, k ≠ z → (wr.setCell ⟨z, i, none⟩ v).heap[k]? = wr.heap[k]? := fun k hk => Below.heap_setCell _ _ _ _ (by show k ≠ z; omega)
  obtain ⟨r0, r1, r2, r3⟩ := h.res
  have hrb := hk rb (by omega)
  have hgb := hk gb (by omega)
  exact ⟨⟨(World.cell?_of_block (a := ⟨rb, 0, none⟩) hrb).trans r0, (World.cell?_of_block (a := ⟨rb, 1, none⟩) hrb).trans r1, (World.frozen?_of_block (a := ⟨rb, 0, none⟩) hrb).trans r2, (World.frozen?_of_block (a := ⟨rb, 1, none⟩) hrb).trans r3⟩,
    (World.cell?_of_block (a := ⟨gb, 0, none⟩) hgb).trans h.ev, (World.cell?_of_block (a := ⟨gb, 1, none⟩) hgb).trans h.pl, (World.frozen?_of_block (a := ⟨gb, 0, none⟩) hgb).trans h.f0, (World.frozen?_of_block (a := ⟨gb, 1, none⟩) hgb).trans h.f1, h.own.keepB fun k hq => hk k (by simp [Value.ownBlock] at hq; omega), h.qg, h.qr, h.gr, h.lr, h.lg, h.lq, h.ls,
    h.src.below ((Below.refl _ _).setCell (p := ⟨z, i, none⟩) (by show g + 1 ≤ z; omega) _), ⟨h.thr.below.setCell (p := ⟨z, i, none⟩) (by show g ≤ z; omega) _, fun k h1 h2 => (hk k (by omega)).trans (h.thr.other k h1 h2)⟩⟩
theorem pls_one (w : World) (p0 p1 p2 p3 : Int) : Pls (w.alloc (.cells #[.int .i64 p0, .int .i64 p1, .int .i64 p2, .int .i64 p3] 52)) (some ⟨w.heap.size, 0, none⟩) 1 [(p0, p1, p2, p3)] := by
  refine ⟨rfl, by unfold maxLen; omega, .inr ⟨w.heap.size, 0, rfl, by simp, fun i hi => ?_⟩⟩
  obtain rfl : i = 0 := by omega
  exact ⟨by simp [go_sem], by simp [go_sem], by simp [go_sem], by simp [go_sem]⟩
theorem dp_old {g rb gb : Nat} {w wv : World} {x : Int} {q n c : Nat} {l : List M.Pc} {z : Nat} {p0 p1 p2 : Int} (h : GD g rb gb w wv x q n c l) (hz : ZB wv z) (h1 : gb < z) (h2 : z ≠ rb) (h3 : z ≠ q) : DP g rb gb w ((((wv.setCell ⟨z, 0, none⟩ (.int .i64 p0)).setCell ⟨z, 1, none⟩ (.int .i64 p1)).setCell ⟨z, 2, none⟩ (.int .i64 p2)).setCell ⟨z, 3, none⟩ (.int .i64 0)) x q n c l (.pointer (some ⟨z, 0, none⟩)) := by
  obtain ⟨c0, c1, c2, c3, f0, f1, f2, f3⟩ := hz
  have hl : z < wv.heap.size := cell_lt c0
  have hlg := h.lg
  refine ⟨z, p0, p1, p2, rfl, ⟨?_, ?_, ?_, ?_, ?_⟩, (((h.other _ (by omega) (by omega) h2 h3).other _ (by omega) (by omega) h2 h3).other _ (by omega) (by omega) h2 h3).other _ (by omega) (by omega) h2 h3, h1, h3, h2⟩ <;> simp [go_sem, c0, c1, c2, c3, f3, hl]
theorem dp_oldZ {g rb gb B : Nat} {w wv : World} {x : Int} {q n c : Nat} {l : List M.Pc} {z : Nat} {p0 p1 p2 : Int} (h : GD g rb gb w wv x q n c l) (hz : ZBg g B wv z) (h1 : gb < B) (h2 : rb < B) (h3 : q < B) : DP g rb gb w ((((wv.setCell ⟨z, 0, none⟩ (.int .i64 p0)).setCell ⟨z, 1, none⟩ (.int .i64 p1)).setCell ⟨z, 2, none⟩ (.int .i64 p2)).setCell ⟨z, 3, none⟩ (.int .i64 0)) x q n c l (.pointer (some ⟨z, 0, none⟩)) :=
  dp_old h hz.1 (by have := hz.2; omega) (by have := hz.2; omega) (by have := hz.2; omega)
/-- Three numbers to pick from. -/
def CO (w : World) (b : Nat) : Prop := ∀ i, i < 3 → ∃ x : Int, (Lit.int .i64 x).wf = true ∧ w.cell? ⟨b, 0 + i, none⟩ = some (.int .i64 x)
theorem co_new (w : World) (x y z : Int) (t : TypeId) (hx : (Lit.int .i64 x).wf = true) (hy : (Lit.int .i64 y).wf = true) (hz : (Lit.int .i64 z).wf = true) : CO (w.alloc (.cells #[.int .i64 x, .int .i64 y, .int .i64 z] t)) w.heap.size :=
  litCells w [x, y, z] _ _ rfl (by simp [hx, hy, hz])
theorem CO.keep {w w' : World} {b : Nat} (h : CO w b) (e : w'.heap[b]? = w.heap[b]?) : CO w' b := fun i hi => by
  obtain ⟨x, hx, hc⟩ := h i hi
  exact ⟨x, hx, (World.cell?_of_block (a := ⟨b, 0 + i, none⟩) e).trans hc⟩
theorem CO.lt {w : World} {b : Nat} (h : CO w b) : b < w.heap.size := by
  obtain ⟨x, hx, hc⟩ := h 0 (by omega)
  exact cell_lt hc
theorem CO.alloc {w : World} {b : Nat} (h : CO w b) (o : Obj) : CO (w.alloc o) b := h.keep (Below.heap_alloc _ _ _ h.lt)
theorem CO.thr {w w' : World} {b g : Nat} (h : CO w b) (ht : Thr g w w') (hg : g < b) : CO w' b := h.keep (ht.other b hg h.lt)
/-- What such a region keeps. -/
theorem kd_call {g rb gb B : Nat} {w wr w' : World} {x : Int} {q n c : Nat} {l : List M.Pc} (h : wr.cell? ⟨gb, 0, none⟩ = some (.int .i64 x) ∧ GD g rb gb w wr x q n c l ∧ B ≤ wr.heap.size) (hs : Src w' g) (ht : Thr g wr w') : w'.cell? ⟨gb, 0, none⟩ = some (.int .i64 x) ∧ GD g rb gb w w' x q n c l ∧ B ≤ w'.heap.size :=
  ⟨(h.2.1.step hs ht).ev, h.2.1.step hs ht, Nat.le_trans h.2.2 ht.below.size⟩
theorem kd_alloc {g rb gb B : Nat} {w wr : World} {x : Int} {q n c : Nat} {l : List M.Pc} (h : wr.cell? ⟨gb, 0, none⟩ = some (.int .i64 x) ∧ GD g rb gb w wr x q n c l ∧ B ≤ wr.heap.size) (o : Obj) : (wr.alloc o).cell? ⟨gb, 0, none⟩ = some (.int .i64 x) ∧ GD g rb gb w (wr.alloc o) x q n c l ∧ B ≤ (wr.alloc o).heap.size :=
  ⟨(h.2.1.below (b_alloc _ _)).ev, h.2.1.below (b_alloc _ _), by simp; omega⟩
theorem kd_allocd {g rb gb B : Nat} {w wr : World} {x : Int} {q n c : Nat} {l : List M.Pc} (h : GD g rb gb w wr x q n c l) (hB : B ≤ wr.heap.size) (o : Obj) : (wr.alloc o).drew.cell? ⟨gb, 0, none⟩ = some (.int .i64 x) ∧ GD g rb gb w (wr.alloc o).drew x q n c l ∧ B ≤ (wr.alloc o).drew.heap.size := by
  have := h.below (b_alloc wr o).drew
  exact ⟨this.ev, this, Nat.le_trans hB (b_alloc wr o).drew.size⟩
theorem kd_store {g rb gb B : Nat} {w wr : World} {x : Int} {q n c z : Nat} {l : List M.Pc} {u0 u1 u2 u3 : Value} (h : wr.cell? ⟨gb, 0, none⟩ = some (.int .i64 x) ∧ GD g rb gb w wr x q n c l ∧ B ≤ wr.heap.size) (hz : ZBg g B wr z) (h1 : gb < B) (h2 : rb < B) (h3 : q < B) : ((((wr.setCell ⟨z, 0, none⟩ u0).setCell ⟨z, 1, none⟩ u1).setCell ⟨z, 2, none⟩ u2).setCell ⟨z, 3, none⟩ u3).cell? ⟨gb, 0, none⟩ = some (.int .i64 x) ∧ GD g rb gb w ((((wr.setCell ⟨z, 0, none⟩ u0).setCell ⟨z, 1, none⟩ u1).setCell ⟨z, 2, none⟩ u2).setCell ⟨z, 3, none⟩ u3) x q n c l ∧ B ≤ ((((wr.setCell ⟨z, 0, none⟩ u0).setCell ⟨z, 1, none⟩ u1).setCell ⟨z, 2, none⟩ u2).setCell ⟨z, 3, none⟩ u3).heap.size := by
  have hlg := h.2.1.lg
  obtain ⟨-, z1, z2⟩ := hz
  have := (((h.2.1.other (z := z) (i := 0) u0 (by omega) (by omega) (by omega) (by omega)).other (z := z) (i := 1) u1 (by omega) (by omega) (by omega) (by omega)).other (z := z) (i := 2) u2 (by omega) (by omega) (by omega) (by omega)).other (z := z) (i := 3) u3 (by omega) (by omega) (by omega) (by omega)
  exact ⟨this.ev, this, by simpa using h.2.2⟩
end V
end Go.Proofs.Ytjbffpmelglegaa

namespace Go.Proofs.Ytjbffpmelglegaa.V
open Go.RowKit
/-- One row of an owned matrix, as a list of its own. -/
theorem OwnM.rowOf {w : World} {B n cap : Nat} {a : Option Addr} {R : List (List Int)} (h : OwnM w B (.slice a n cap) R) (i : Nat) (hi : i < n) :
    ∃ g ra rc, a = some ⟨g, 0, none⟩ ∧ w.cell? ⟨g, i, none⟩ = some (.slice ra (R.getD i []).length rc) ∧ Own w B (.slice ra (R.getD i []).length rc) (R.getD i []) := by
  have hl := h.len
  obtain ⟨V, h1, h2, h3, h4, h5⟩ := h
  obtain ⟨a', c', hv, hc, hm, hg⟩ := own_form h2
  injection hv with e1 e2 e3
  subst e1 e2 e3
  obtain ⟨g, rfl, hB, hlt⟩ := hg (by omega)
  have hr := h3 i (by omega)
  obtain ⟨ra, rc, hrv, _⟩ := own_form hr
  rw [hrv] at hr
  refine ⟨g, ra, rc, rfl, ?_, hr⟩
  rw [World.ownsRow.cellAt h2 i (by omega), ← hrv]
  simp [show i < V.length by omega]
theorem ownM_first (w : World) (B : Nat) (hB : B ≤ w.heap.size) {rv : Value} {l : List Int} (ho : Own w B rv l) : OwnM (w.alloc (.cells #[rv] 24)) B (.slice (some ⟨w.heap.size, 0, none⟩) 1 1) [l] := by
  refine ⟨[rv], rfl, World.ownsRow_lit w #[rv] 1 hB (by decide) rfl, fun i hi => ?_, fun i hi k hk => ?_, fun i j hi hj hne => ?_⟩
  · obtain rfl : i = 0 := by simp at hi; omega
    exact ho.below (b_alloc w _)
  · obtain rfl : i = 0 := by simp at hi; omega
    have := (own_lt ho hk).2
    intro e
    simp only [Value.ownBlock, Option.some.injEq] at e
    omega
  · simp at hi hj; omega
/-- The greatest weights of paths with so many arcs. -/
def M.fkL (A : Nat → Nat → Int) (n k : Nat) : List Int := (List.range n).map (M.Fk A n k)
theorem M.fkL_len (A : Nat → Nat → Int) (n k : Nat) : (M.fkL A n k).length = n := by unfold M.fkL; simp
theorem M.fkL_at (A : Nat → Nat → Int) (n k v : Nat) (hv : v < n) : (M.fkL A n k).getD v 0 = M.Fk A n k v := by unfold M.fkL; simp [hv]
def M.endM (A : Nat → Nat → Int) (n k : Nat) : List (List Int) := M.mk k n fun s j => M.Fk A n s j
theorem M.end_row (A : Nat → Nat → Int) (n k s : Nat) (h : s < k) : (M.endM A n k).getD s [] = M.fkL A n s := M.mk_row _ _ _ _ h
theorem M.end_next {R : List (List Int)} {n : Nat} (h : R.length = n) (k : Nat) : M.applyM R (M.fkL (M.ent R) n k) = M.fkL (M.ent R) n (k + 1) := by
  unfold M.applyM
  rw [h, M.fkL_len]
  show _ = (List.range n).map (M.Fk (M.ent R) n (k + 1))
  refine List.map_congr_left fun i hi => ?_
  unfold M.dotV
  show _ = M.sumN n fun u => M.times (M.ent R i u) (M.Fk (M.ent R) n k u)
  refine M.sumN_congr fun u hu => ?_
  rw [M.fkL_at _ _ _ _ hu]

end Go.Proofs.Ytjbffpmelglegaa.V

namespace Go.Proofs.Ytjbffpmelglegaa.V
open Go.RowKit
/-- The greatest of the first values. -/
def M.topN (f : Nat → Int) : Nat → Int
  | 0 => f 0
  | k + 1 => max (M.topN f k) (f (k + 1))
theorem M.topN_ge (f : Nat → Int) (m : Nat) : ∀ v, v ≤ m → f v ≤ M.topN f m := by
  induction m with
  | zero => intro v hv; obtain rfl : v = 0 := by omega
            exact Int.le_refl _
  | succ m ih =>
    intro v hv
    show _ ≤ max _ _
    by_cases e : v = m + 1
    · subst e; omega
    · have := ih v (by omega); omega
theorem M.topN_at (f : Nat → Int) (m : Nat) : ∃ v, v ≤ m ∧ M.topN f m = f v := by
  induction m with
  | zero => exact ⟨0, Nat.le_refl _, rfl⟩
  | succ m ih =>
    obtain ⟨v, h1, h2⟩ := ih
    rcases Int.le_total (M.topN f m) (f (m + 1)) with h | h
    · exact ⟨m + 1, Nat.le_refl _, Int.max_eq_right h⟩
    · exact ⟨v, by omega, (Int.max_eq_left h).trans h2⟩
theorem M.topN_congr {f g : Nat → Int} {m : Nat} (h : ∀ v, v ≤ m → f v = g v) : M.topN f m = M.topN g m := by
  induction m with
  | zero => exact h 0 (Nat.le_refl _)
  | succ m ih => show max _ _ = max _ _; rw [ih fun v hv => h v (by omega), h (m + 1) (Nat.le_refl _)]
theorem M.top_cyc {A : Nat → Nat → Int} {n : Nat} (h1 : 1 ≤ n) (h2 : n ≤ 10) (hA : ∀ i j, i < n → j < n → M.Sm 1000000 (A i j)) : decide (M.topN (fun i => (M.fkL A n n).getD i 0) (n - 1) ≠ -1000000000000000) = M.hasCyc A n := by
  have hc : M.topN (fun i => (M.fkL A n n).getD i 0) (n - 1) = M.topN (M.Fk A n n) (n - 1) := M.topN_congr fun v hv => M.fkL_at _ _ _ _ (by omega)
  rw [hc, Bool.eq_iff_iff, decide_eq_true_eq]
  unfold M.hasCyc
  rw [List.any_eq_true]
  obtain ⟨v, hv, e⟩ := M.topN_at (M.Fk A n n) (n - 1)
  constructor
  · intro h
    exact ⟨v, List.mem_range.2 (by omega), by rw [← e]; simpa using h⟩
  · rintro ⟨u, hu, h⟩
    have hu := List.mem_range.1 hu
    have h3 := M.topN_ge (M.Fk A n n) (n - 1) u (by omega)
    have h4 : M.Fk A n n u ≠ -1000000000000000 := by simpa using h
    rcases M.Fk_sm hA n v (by omega) with k | k
    · rcases M.Fk_sm hA n u hu with q | q
      · exact absurd q h4
      · omega
    · omega

end Go.Proofs.Ytjbffpmelglegaa.V

namespace Go.Proofs.Ytjbffpmelglegaa
namespace M
/-- A place without tokens is an arc. -/
theorem arc_zero {l : List (Int × Int × Int × Int)} {p : Int × Int × Int × Int} (hp : p ∈ l) {i j : Nat} (h1 : p.2.1 = (i : Int)) (h0 : p.1 = (j : Int)) (h3 : p.2.2.2 = 0) : wtF fOne l i j ≠ -1000000000000000 := by
  have hge : ∀ (r : List (Int × Int × Int × Int)) (m : Int), m ≤ r.foldl (wtS fOne i j) m := by
    intro r
    induction r with
    | nil => intro m; exact Int.le_refl _
    | cons p r ih =>
      intro m
      refine Int.le_trans ?_ (ih _)
      unfold wtS
      split <;> omega
  have key : ∀ (l : List (Int × Int × Int × Int)) (m : Int), p ∈ l → 1 ≤ l.foldl (wtS fOne i j) m := by
    intro l
    induction l with
    | nil => intro m h; cases h
    | cons q l ih =>
      intro m h
      rcases List.mem_cons.1 h with rfl | h
      · refine Int.le_trans ?_ (hge l _)
        unfold wtS
        rw [if_pos ⟨h1, h0⟩]
        have : fOne p = 1 := by unfold fOne; rw [if_neg (by omega)]
        omega
      · exact ih _ h
  have := key l (-1000000000000000) hp
  unfold wtF
  omega
theorem ord_mono (A : Nat → Nat → Int) (n t d : Nat) {x : Int} (h : hasB (ordL A n t) x = true) : hasB (ordL A n (t + d)) x = true := by
  induction d with
  | zero => exact h
  | succ d ih =>
    show hasB (stepO A n (ordL A n (t + d))) x = true
    cases e : nxtO A n (ordL A n (t + d)) with
    | none => rw [step_none e]; exact ih
    | some y => rw [step_some e, has_snoc, ih]; rfl
section
variable {l : List (Int × Int × Int × Int)} {N : Nat} (hn : N ≤ 10) (hp : noPos (wtF fOne l) N = true) (hl : ∀ p ∈ l, (0 ≤ p.1 ∧ p.1 < (N : Int)) ∧ 0 ≤ p.2.2.2)
include hn hp
theorem ord_later {t s x : Nat} (hs : s < N) (hts : t ≤ s) (h : hasB (ordL (wtF fOne l) N t) (x : Int) = true) : ((ordL (wtF fOne l) N N).getD s 0).toNat ≠ x := by
  obtain ⟨e, he, h1, -, h2, -⟩ := ord_at (uz_graph l) hn hp hs
  rw [h1, Int.toNat_natCast]
  intro q
  subst q
  have := ord_mono (wtF fOne l) N t (s - t) h
  rw [show t + (s - t) = s by omega, h2] at this
  cases this
theorem ord_pos {x : Nat} (hx : x < N) : ∃ t, t < N ∧ (ordL (wtF fOne l) N N).getD t 0 = (x : Int) := by
  have hall := ord_all (ord_nodes (wtF fOne l) N N).1 (ord_nodes (wtF fOne l) N N).2.1 (ord_full (uz_graph l) hn hp (Nat.le_refl _)) hx
  have hm := hasB_iff.1 hall
  obtain ⟨t, ht, e⟩ := List.getElem_of_mem hm
  rw [ord_full (uz_graph l) hn hp (Nat.le_refl _)] at ht
  refine ⟨t, ht, ?_⟩
  rw [List.getD_eq_getElem?_getD, List.getElem?_eq_getElem (by rw [ord_full (uz_graph l) hn hp (Nat.le_refl _)]; exact ht), e]
  rfl
variable (st : Nat → Int) (F : Nat → Nat → Int)
include hl
/-- What an event waits for is settled when it is its turn. -/
theorem rd_settled {k t d e : Nat} (hd : t + d ≤ N) (ht : t < N) (he : (ordL (wtF fOne l) N N).getD t 0 = (e : Int)) (least : Int) :
    rd (rowT l (ordL (wtF fOne l) N N) st F k (t + d)) k e l least = rd (rowT l (ordL (wtF fOne l) N N) st F k t) k e l least := by
  obtain ⟨e', -, h1, -, -, h4⟩ := ord_at (uz_graph l) hn hp ht
  have hee : e' = e := by rw [he] at h1; omega
  subst hee
  refine rd_congr (fun p hpl q1 q3 => ?_) least
  have hb := hl p hpl
  by_cases hz : p.2.2.2 = 0
  · have ha := arc_zero hpl (i := e') (j := p.1.toNat) q1 (by omega) hz
    have hd' := h4 p.1.toNat (by omega) ha
    rw [hz]
    exact rowT_keep l _ st F k t d fun s s1 s2 => ord_later hn hp (by omega) s1 hd'
  · rw [rowT_out _ _ _ _ _ _ (by omega), rowT_out _ _ _ _ _ _ (by omega)]
/-- Each time satisfies the recurrence. -/
theorem row_eq {k e : Nat} (he : e < N) : rowT l (ordL (wtF fOne l) N N) st F k N k e = rd (rowT l (ordL (wtF fOne l) N N) st F k N) k e l (st e) := by
  obtain ⟨t, ht, hte⟩ := ord_pos hn hp he
  have h1 := rd_settled hn hp hl st F (k := k) (t := t) (d := N - t) (by omega) ht hte (st e)
  rw [show t + (N - t) = N by omega] at h1
  rw [h1]
  have h2 := rowT_keep l (ordL (wtF fOne l) N N) st F k (t + 1) (N - (t + 1)) (x := e) fun s s1 s2 => ord_later hn hp (t := t + 1) (by omega) s1 (by
    obtain ⟨e', -, h1, h2, -, -⟩ := ord_at (uz_graph l) hn hp ht
    have hee : e' = e := by rw [hte] at h1; omega
    subst hee
    rw [h2, has_snoc, decide_eq_true rfl, Bool.or_true])
  rw [show t + 1 + (N - (t + 1)) = N by omega] at h2
  rw [h2]
  show updF _ _ _ _ k e = _
  unfold updF
  rw [hte, Int.toNat_natCast, if_pos ⟨rfl, rfl⟩]
theorem tab_eq {n k e : Nat} (h1 : 1 ≤ k) (hk : k ≤ n) (he : e < N) : tabT l (ordL (wtF fOne l) N N) st n k e = rd (tabT l (ordL (wtF fOne l) N N) st n) k e l (st e) := by
  have ho := ord_full (uz_graph l) hn hp (Nat.le_refl N)
  obtain ⟨d, rfl⟩ : ∃ d, n = k + d := ⟨n - k, by omega⟩
  have h2 : ∀ r x, r ≤ k → tabT l (ordL (wtF fOne l) N N) st (k + d) r x = tabT l (ordL (wtF fOne l) N N) st k r x := fun r x hr => by
    have a1 := tabT_old l (ordL (wtF fOne l) N N) st (n := r) (Nat.le_refl r) (k + d - r) x
    have a2 := tabT_old l (ordL (wtF fOne l) N N) st (n := r) (Nat.le_refl r) (k - r) x
    rw [show r + (k + d - r) = k + d by omega] at a1
    rw [show r + (k - r) = k by omega] at a2
    rw [a1, a2]
  rw [rd_congr (G := tabT l (ordL (wtF fOne l) N N) st k) (fun p hpl q1 q3 => h2 _ _ (by omega)) (st e), h2 k e (Nat.le_refl _)]
  obtain ⟨m, rfl⟩ : ∃ m, k = m + 1 := ⟨k - 1, by omega⟩
  have h3 := row_eq hn hp hl st (tabT l (ordL (wtF fOne l) N N) st m) (k := m + 1) he
  have h4 : tabT l (ordL (wtF fOne l) N N) st (m + 1) = rowT l (ordL (wtF fOne l) N N) st (tabT l (ordL (wtF fOne l) N N) st m) (m + 1) N := by
    show rowT _ _ _ _ _ (ordL (wtF fOne l) N N).length = _
    rw [ho]
  rw [h4]
  exact h3
omit hp hl hn
/-- The model's row: an event that has not fired has its start. -/
def rowM (l : List (Int × Int × Int × Int)) (N : Nat) (st : Nat → Int) (F : Nat → Nat → Int) (k t : Nat) : Nat → Nat → Int := fun r x => if r = k ∧ hasB (ordL (wtF fOne l) N t) (x : Int) = false then st x else rowT l (ordL (wtF fOne l) N N) st F k t r x
/-- .. and while an event's places are passed. -/
def midM (l : List (Int × Int × Int × Int)) (N : Nat) (st : Nat → Int) (F : Nat → Nat → Int) (k t e m : Nat) : Nat → Nat → Int := updF (rowM l N st F k t) k e (rd (rowT l (ordL (wtF fOne l) N N) st F k t) k e (l.take m) (st e))
theorem rowM_at (l : List (Int × Int × Int × Int)) (N : Nat) (st : Nat → Int) (F : Nat → Nat → Int) (k t r x : Nat) : rowM l N st F k t r x = if r = k ∧ hasB (ordL (wtF fOne l) N t) (x : Int) = false then st x else rowT l (ordL (wtF fOne l) N N) st F k t r x := rfl
theorem midM_zero {k t e : Nat} (he : hasB (ordL (wtF fOne l) N t) (e : Int) = false) (r x : Nat) : midM l N st F k t e 0 r x = rowM l N st F k t r x := by
  unfold midM updF
  by_cases q : r = k ∧ x = e
  · obtain ⟨rfl, rfl⟩ := q
    rw [if_pos ⟨rfl, rfl⟩]
    unfold rowM
    rw [if_pos ⟨rfl, he⟩]
    rfl
  · rw [if_neg q]
theorem midM_self (k t e m : Nat) : midM l N st F k t e m k e = rd (rowT l (ordL (wtF fOne l) N N) st F k t) k e (l.take m) (st e) := if_pos ⟨rfl, rfl⟩
include hn hp hl
theorem midM_read {k t e m : Nat} (ht : t < N) (he : (ordL (wtF fOne l) N N).getD t 0 = (e : Int)) {p : Int × Int × Int × Int} (hpl : p ∈ l) (q1 : p.2.1 = (e : Int)) (q3 : p.2.2.2 < (k : Int)) :
    midM l N st F k t e m (k - p.2.2.2.toNat) p.1.toNat = rowT l (ordL (wtF fOne l) N N) st F k t (k - p.2.2.2.toNat) p.1.toNat := by
  obtain ⟨e', -, h1, -, h3, h4⟩ := ord_at (uz_graph l) hn hp ht
  have hee : e' = e := by rw [he] at h1; omega
  subst hee
  have hb := hl p hpl
  unfold midM updF
  by_cases hz : p.2.2.2 = 0
  · have ha := arc_zero hpl (i := e') (j := p.1.toNat) q1 (by omega) hz
    have hd' := h4 p.1.toNat (by omega) ha
    have hne : p.1.toNat ≠ e' := by intro q; rw [q] at hd'; rw [h3] at hd'; cases hd'
    rw [if_neg (fun q => hne q.2)]
    unfold rowM
    rw [if_neg (fun q => by rw [hd'] at q; exact absurd q.2 (by simp))]
  · rw [if_neg (fun q => by have := q.1; omega)]
    unfold rowM
    rw [if_neg (fun q => by have := q.1; omega)]
omit hl
theorem midM_end {k t e : Nat} (ht : t < N) (he : (ordL (wtF fOne l) N N).getD t 0 = (e : Int)) (r x : Nat) : midM l N st F k t e l.length r x = rowM l N st F k (t + 1) r x := by
  obtain ⟨e', -, h1, h2, h3, -⟩ := ord_at (uz_graph l) hn hp ht
  have hee : e' = e := by rw [he] at h1; omega
  subst hee
  have hnx : rowT l (ordL (wtF fOne l) N N) st F k (t + 1) r x = updF (rowT l (ordL (wtF fOne l) N N) st F k t) k e' (rd (rowT l (ordL (wtF fOne l) N N) st F k t) k e' l (st e')) r x := by
    show updF _ _ _ _ r x = _
    rw [he, Int.toNat_natCast]
  rw [rowM_at, hnx, h2, has_snoc]
  unfold midM
  rw [List.take_length]
  unfold updF
  by_cases q : r = k ∧ x = e'
  · obtain ⟨rfl, rfl⟩ := q
    have hf : ¬ (r = r ∧ (hasB (ordL (wtF fOne l) N t) (x : Int) || decide ((x : Int) = (x : Int))) = false) := fun h => by simp at h
    rw [if_neg hf, if_pos ⟨rfl, rfl⟩, if_pos ⟨rfl, rfl⟩]
  · rw [if_neg q, if_neg q, rowM_at]
    by_cases q2 : r = k
    · have hx : x ≠ e' := fun h => q ⟨q2, h⟩
      rw [decide_eq_false (show ¬ (x : Int) = (e' : Int) by omega), Bool.or_false]
    · rw [if_neg (fun h => q2 h.1), if_neg (fun h => q2 h.1)]
theorem rowM_end {k : Nat} {x : Nat} (hx : x < N) (r : Nat) : rowM l N st F k N r x = rowT l (ordL (wtF fOne l) N N) st F k N r x := by
  unfold rowM
  rw [ord_all (ord_nodes (wtF fOne l) N N).1 (ord_nodes (wtF fOne l) N N).2.1 (ord_full (uz_graph l) hn hp (Nat.le_refl _)) hx]
  rw [if_neg (fun h => absurd h.2 (by simp))]
omit hn hp
theorem rowM_row0 (n : Nat) : (mk (n + 1) N fun r x => rowM l N st (tabT l (ordL (wtF fOne l) N N) st n) (n + 1) 0 (r + 1) x) = timM l (ordL (wtF fOne l) N N) st N n ++ [(List.range N).map st] := by
  rw [mk_snoc]
  congr 1
  · unfold timM
    refine mk_congr fun r hr x _ => ?_
    unfold rowM
    rw [if_neg (fun h => by have := h.1; omega)]
    rfl
  · congr 1
    refine List.map_congr_left fun x _ => ?_
    exact if_pos ⟨rfl, rfl⟩
theorem midM_set {n t e m : Nat} (v : Int) (hv : v = midM l N st F (n + 1) t e (m + 1) (n + 1) e) :
    (mk (n + 1) N fun r x => midM l N st F (n + 1) t e m (r + 1) x).set n (((mk (n + 1) N fun r x => midM l N st F (n + 1) t e m (r + 1) x).getD n []).set e v) = mk (n + 1) N fun r x => midM l N st F (n + 1) t e (m + 1) (r + 1) x := by
  rw [mk_set _ _ _ _ _ _ (by omega)]
  refine mk_congr fun r hr x hx => ?_
  by_cases q : r = n
  · subst q
    rw [if_pos rfl]
    by_cases q2 : x = e
    · subst q2; rw [if_pos rfl]; exact hv
    · rw [if_neg q2]
      unfold midM updF
      rw [if_neg (fun h => q2 h.2), if_neg (fun h => q2 h.2)]
  · rw [if_neg q]
    unfold midM updF
    rw [if_neg (fun h => q (by have := h.1; omega)), if_neg (fun h => q (by have := h.1; omega))]
end
end M
end Go.Proofs.Ytjbffpmelglegaa
