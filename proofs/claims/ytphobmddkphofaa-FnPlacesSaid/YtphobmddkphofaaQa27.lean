/- Texts laid together: Dgf. -/
import Derived.Test.YtphobmddkphofaaQa26
set_option linter.unusedSimpArgs false
set_option linter.unusedVariables false
set_option linter.unusedSectionVars false
namespace Go.Proofs.Ytphobmddkphofaa
namespace V
set_option maxRecDepth 100000
open Go.RowKit
theorem Src.box {w : World} {g R : Nat} {x : Int} {v : Value} (h : Src w g) (hR : R ≠ g) (hr : ResG w R) : Src ((w.setCell ⟨R, 0, none⟩ (.int .i64 x)).setCell ⟨R, 1, none⟩ v) g := by
  obtain ⟨a, n, cap, t, s, h1, ⟨h2, h4⟩, h3⟩ := h
  obtain ⟨r0, r1, -, -⟩ := hr
  refine ⟨a, n, cap, t, s, h1.of_block ((Below.heap_setCell _ _ _ _ (by show g ≠ R; omega)).trans (Below.heap_setCell _ _ _ _ (by show g ≠ R; omega))), ⟨h2, ?_⟩, h3⟩
  rcases h4 with h4 | ⟨b, off, rfl, hlt, hc⟩
  · exact .inl h4
  · refine .inr ⟨b, off, rfl, hlt, fun i hi => ?_⟩
    obtain ⟨y, y1, y2, hy⟩ := hc i hi
    have n0 : (⟨R, 0, none⟩ : Addr) ≠ ⟨b, off + i, none⟩ := by intro e; rw [← e, r0] at hy; simp at hy
    have n1 : (⟨R, 1, none⟩ : Addr) ≠ ⟨b, off + i, none⟩ := by intro e; rw [← e, r1] at hy; simp at hy
    exact ⟨y, y1, y2, by rw [World.cell?_setCell_other (h := n1), World.cell?_setCell_other (h := n0)]; exact hy⟩
theorem ResG.low {w w' : World} {R g : Nat} (h : ResG w R) (ht : Thr g w w') (hg : R < g) : ResG w' R := by
  obtain ⟨h1, h2, h3, h4⟩ := h
  exact ⟨(ht.below.cell (p := ⟨R, 0, none⟩) hg).trans h1, (ht.below.cell (p := ⟨R, 1, none⟩) hg).trans h2, (ht.below.frozen (p := ⟨R, 0, none⟩) hg).trans h3, (ht.below.frozen (p := ⟨R, 1, none⟩) hg).trans h4⟩
/-- A drawn graph in the box gb; the box that the result goes to lies below the source. -/
structure GQ (g gb : Nat) (w wr : World) (x : Int) (q n c : Nat) (l : List M.Pc) : Prop where
  ev : wr.cell? ⟨gb, 0, none⟩ = some (.int .i64 x)
  pl : wr.cell? ⟨gb, 1, none⟩ = some (.slice (some ⟨q, 0, none⟩) n c)
  own : OwnPl wr (g + 1) (.slice (some ⟨q, 0, none⟩) n c) l
  bel : Below w.heap.size w wr
  src : Src wr g
  lg : w.heap.size < g
  lb : g < gb
theorem GQ.step {g gb : Nat} {w wr w' : World} {x : Int} {q n c : Nat} {l : List M.Pc} (h : GQ g gb w wr x q n c l) (hs : Src w' g) (ht : Thr g wr w') : GQ g gb w w' x q n c l := by
  have hlg := h.lg
  have hlb := h.lb
  have hlt : gb < wr.heap.size := cell_lt h.ev
  exact ⟨(ht.cell (p := ⟨gb, 0, none⟩) hlt (by show gb ≠ g; omega)).trans h.ev, (ht.cell (p := ⟨gb, 1, none⟩) hlt (by show gb ≠ g; omega)).trans h.pl, h.own.thr ht (by omega), h.bel.trans (ht.below.mono (by omega)), hs, hlg, hlb⟩
theorem GQ.below {g gb : Nat} {w wr w' : World} {x : Int} {q n c : Nat} {l : List M.Pc} (h : GQ g gb w wr x q n c l) (hb : Below wr.heap.size wr w') : GQ g gb w w' x q n c l :=
  h.step (h.src.below (hb.mono (by have := h.src.lt; omega))) (Thr.of_below hb (by have := h.src.lt; omega))
theorem GQ.store {g gb : Nat} {w wr : World} {x y : Int} {q n c : Nat} {l : List M.Pc} {v : Value} (h : GQ g gb w wr x q n c l) (hr : ResG wr w.heap.size) : GQ g gb w ((wr.setCell ⟨w.heap.size, 0, none⟩ (.int .i64 y)).setCell ⟨w.heap.size, 1, none⟩ v) x q n c l := by
  have hlg := h.lg
  have hlb := h.lb
  have hq := (h.own.lt (k := q) rfl).1
  have hk : ∀ k, k ≠ w.heap.size → ((wr.setCell ⟨w.heap.size, 0, none⟩ (.int .i64 y)).setCell ⟨w.heap.size, 1, none⟩ v).heap[k]? = wr.heap[k]? := fun k hk => (Below.heap_setCell _ _ _ _ (by show k ≠ w.heap.size; omega)).trans (Below.heap_setCell _ _ _ _ (by show k ≠ w.heap.size; omega))
  have hgb := hk gb (by omega)
  exact ⟨(World.cell?_of_block (a := ⟨gb, 0, none⟩) hgb).trans h.ev, (World.cell?_of_block (a := ⟨gb, 1, none⟩) hgb).trans h.pl, h.own.keepB fun k hk2 => hk k (by have hkq : k = q := (by simp [Value.ownBlock] at hk2; exact hk2.symm); omega), (h.bel.setCell (p := ⟨w.heap.size, 0, none⟩) (Nat.le_refl _) _).setCell (p := ⟨w.heap.size, 1, none⟩) (Nat.le_refl _) _, h.src.box (by omega) hr, hlg, hlb⟩
/-- The result is written. -/
def RS (wr : World) (R : Nat) (x : Int) (q n c : Nat) : Prop := wr.cell? ⟨R, 0, none⟩ = some (.int .i64 x) ∧ wr.cell? ⟨R, 1, none⟩ = some (.slice (some ⟨q, 0, none⟩) n c)
theorem RS.new {wr : World} {R : Nat} {x : Int} {q n c : Nat} (h : ResG wr R) : RS ((wr.setCell ⟨R, 0, none⟩ (.int .i64 x)).setCell ⟨R, 1, none⟩ (.slice (some ⟨q, 0, none⟩) n c)) R x q n c := by
  obtain ⟨r0, r1, r2, r3⟩ := h
  exact ⟨by simp [go_sem, r0, r1], by simp [go_sem, r0, r1]⟩
theorem RS.low {w w' : World} {R g : Nat} {x : Int} {q n c : Nat} (h : RS w R x q n c) (ht : Thr g w w') (hg : R < g) : RS w' R x q n c :=
  ⟨(ht.below.cell (p := ⟨R, 0, none⟩) hg).trans h.1, (ht.below.cell (p := ⟨R, 1, none⟩) hg).trans h.2⟩
/-- Four numbers to pick from. -/
abbrev C4 (w : World) (b : Nat) : Prop := ∀ i, i < 4 → ∃ x : Int, (Lit.int .i64 x).wf = true ∧ w.cell? ⟨b, 0 + i, none⟩ = some (.int .i64 x)
theorem c4_new (w : World) (p0 p1 p2 p3 : Int) (t : TypeId) (h : [p0, p1, p2, p3].all (fun x => (Lit.int .i64 x).wf) = true) : C4 (w.alloc (.cells #[.int .i64 p0, .int .i64 p1, .int .i64 p2, .int .i64 p3] t)) w.heap.size :=
  litCells w [p0, p1, p2, p3] _ _ rfl h
theorem c4_keep {w w' : World} {b : Nat} (h : C4 w b) (e : w'.heap[b]? = w.heap[b]?) : C4 w' b := fun i hi => by
  obtain ⟨x, hx, hc⟩ := h i hi
  exact ⟨x, hx, (World.cell?_of_block (a := ⟨b, 0 + i, none⟩) e).trans hc⟩
theorem c4_lt {w : World} {b : Nat} (h : C4 w b) : b < w.heap.size := by
  obtain ⟨x, hx, hc⟩ := h 0 (by omega)
  exact cell_lt hc
theorem c4_alloc {w : World} {b : Nat} (h : C4 w b) (o : Obj) : C4 (w.alloc o) b := c4_keep h (Below.heap_alloc _ _ _ (c4_lt h))
theorem c4_thr {w w' : World} {b g : Nat} (h : C4 w b) (ht : Thr g w w') (hg : g < b) : C4 w' b := c4_keep h (ht.other b hg (c4_lt h))
theorem c4_box {w : World} {b R : Nat} {u v : Value} (h : C4 w b) (hb : b ≠ R) : C4 ((w.setCell ⟨R, 0, none⟩ u).setCell ⟨R, 1, none⟩ v) b :=
  c4_keep h ((Below.heap_setCell _ _ _ _ (by show b ≠ R; omega)).trans (Below.heap_setCell _ _ _ _ (by show b ≠ R; omega)))
theorem c4_at {w : World} {b b' : Nat} (h : C4 w b) (e : b = b') : C4 w b' := e ▸ h
theorem RS.below {w w' : World} {R g : Nat} {x : Int} {q n c : Nat} (h : RS w R x q n c) (hb : Below w.heap.size w w') (hg : R < w.heap.size) : RS w' R x q n c :=
  ⟨(hb.cell (p := ⟨R, 0, none⟩) hg).trans h.1, (hb.cell (p := ⟨R, 1, none⟩) hg).trans h.2⟩
/-- A drawn graph and three numbers, for a law. -/
def DrawnGIII (w : World) (e : Ending) (w' : World) : Prop :=
  ∃ (x : Int) (q n c : Nat) (l : List M.Pc) (i y z : Int), e = .returned (.tuple #[.agg #[.int .i64 x, .slice (some ⟨q, 0, none⟩) n c], .int .i64 i, .int .i64 y, .int .i64 z]) ∧ OwnPl w' w.heap.size (.slice (some ⟨q, 0, none⟩) n c) l ∧ n ≤ 60 ∧ Below w.heap.size w w'
set_option maxRecDepth 100000 in
set_option maxHeartbeats 4000000 in
theorem drawChangePlace (a : Option Addr) (m cap : Nat) (w : World) (h : Bytes w a m) :
    Calls Try.prog 23 #[.slice a m cap] w (DrawnGIII w) := by
  have hb0 := b_alloc w (.cells #[.int .i64 0, .slice none 0 0] 26)
  have HB := Lib.hid (h.below hb0)
  have HB0 := Lib.hid hb0
  clear h hb0
  go_enter Try.func23, Try.ntmps23
  go_wp2_with fail
  refine (from_ _ _ _ _ HB.out).mono ?_
  rintro e w1 ⟨rfl, hs1, hb1⟩
  have HR1 := Lib.hid ((resG_new w 26).below hb1)
  have HB1 := Lib.hid (HB0.out.trans (hb1.mono HB0.out.size))
  have HS1 := Lib.hid hs1
  have hgz : w.heap.size < (w.alloc (.cells #[.int .i64 0, .slice none 0 0] 26)).heap.size := by simp
  have hsz : (w.alloc (.cells #[.int .i64 0, .slice none 0 0] 26)).heap.size = w.heap.size + 1 := by simp
  rw [hsz] at HS1 hgz
  obtain ⟨g, hgd⟩ : ∃ g, g = w.heap.size + 1 := ⟨_, rfl⟩
  rw [← hgd] at HS1 hgz
  have HGd := Lib.hid hgd
  clear hs1 hb1 hgd hsz
  go_wp2_with fail
  refine (drawIndex11 _ _ (by first | exact HS1.out | (have := HS1.out; rw [HGd.out] at this; simpa using this))).mono ?_
  rintro e w2 ⟨x, q, n, c, l, iy, rfl, ho, hn60, wfx, hs, ht⟩
  have hg1 := HS1.out.lt
  have HR2 : Hid (ResG (w2.alloc (.cells #[.int .i64 x, .slice (some ⟨q, 0, none⟩) n c] 26)) w.heap.size) := (HR1.out.low (by simpa [HGd.out] using ht) (by omega)).below (b_alloc _ _)
  have HQ2 : Hid (GQ g w2.heap.size w (w2.alloc (.cells #[.int .i64 x, .slice (some ⟨q, 0, none⟩) n c] 26)) x q n c l) := by
    have hb2 := b_alloc w2 (.cells #[.int .i64 x, .slice (some ⟨q, 0, none⟩) n c] 26)
    have hs' : Src w2 g := by simpa [HGd.out] using hs
    have ht' : Thr g w1 w2 := by simpa [HGd.out] using ht
    exact ⟨by simp [go_sem], by simp [go_sem], (ho.below hb2).mono (by omega), (HB1.out.trans (ht'.below.mono (by omega))).trans (hb2.mono (by have := hs'.lt; omega)), hs'.alloc _, hgz, hs'.lt⟩
  obtain ⟨gb, hgb⟩ : ∃ b, b = w2.heap.size := ⟨_, rfl⟩
  obtain ⟨w3, hw3⟩ : ∃ z, z = w2.alloc (.cells #[.int .i64 x, .slice (some ⟨q, 0, none⟩) n c] 26) := ⟨_, rfl⟩
  rw [← hw3, ← hgb] at HQ2
  rw [← hw3] at HR2
  have HW3 := Lib.hid hw3.symm
  have HGb := Lib.hid hgb.symm
  have HSrc : Hid (Src w3 (w.heap.size + 1)) := by have := HQ2.out.src; rw [HGd.out] at this; exact this
  clear ho hs ht wfx hg1 hgb hw3
  go_upto_region 3 with fail
  rw [HW3.out, HGb.out]
  clear HW3 HGb
  go_wp2_with fail
  rw [← HGd.out]
  refine (next _ _ _ (by decide) HQ2.out.src).mono ?_
  rintro e ws ⟨y0, rfl, hy1, hy2, hs, ht⟩
  have HG := Lib.hid (HQ2.out.step hs ht)
  have HR := Lib.hid (HR2.out.low ht HG.out.lg)
  clear hs ht HQ2 HR2 hy1 hy2 HSrc HR1 HB1 HS1 HB HB0 HGd hgz
  have hev := HG.out.ev
  have hpl := HG.out.pl
  obtain ⟨r0, r1, r2, r3⟩ := HR.out
  have hlg := HG.out.lg
  have hrl : w.heap.size < ws.heap.size := cell_lt r0
  have hgl : gb < ws.heap.size := cell_lt hev
  have HGS := Lib.hid (show GQ g gb w ((ws.setCell ⟨w.heap.size, 0, none⟩ (.int .i64 x)).setCell ⟨w.heap.size, 1, none⟩ (.slice (some ⟨q, 0, none⟩) n c)) x q n c l from HG.out.store HR.out)
  have HRS := Lib.hid (show RS ((ws.setCell ⟨w.heap.size, 0, none⟩ (.int .i64 x)).setCell ⟨w.heap.size, 1, none⟩ (.slice (some ⟨q, 0, none⟩) n c)) w.heap.size x q n c from RS.new HR.out)
  by_cases hy0 : y0 = 0
  · subst hy0
    have hgz : g < ws.heap.size := HG.out.src.lt
    have wsz : ((ws.setCell ⟨w.heap.size, 0, none⟩ (.int .i64 x)).setCell ⟨w.heap.size, 1, none⟩ (.slice (some ⟨q, 0, none⟩) n c)).heap.size = ws.heap.size := by simp [go_sem]
    have GA01 : Hid (GQ g gb w (ws.alloc (.cells #[.int .i64 (-1), .int .i64 0, .int .i64 1000, .int .i64 1001] 2)).drew x q n c l) := HG.out.below (b_alloc ws (.cells #[.int .i64 (-1), .int .i64 0, .int .i64 1000, .int .i64 1001] 2)).drew
    have RA01 : Hid (ResG (ws.alloc (.cells #[.int .i64 (-1), .int .i64 0, .int .i64 1000, .int .i64 1001] 2)).drew w.heap.size) := HR.out.below ((b_alloc ws (.cells #[.int .i64 (-1), .int .i64 0, .int .i64 1000, .int .i64 1001] 2)).drew)
    have CA01 : Hid (C4 (ws.alloc (.cells #[.int .i64 (-1), .int .i64 0, .int .i64 1000, .int .i64 1001] 2)).drew ws.heap.size) := (show C4 (ws.alloc (.cells #[.int .i64 (-1), .int .i64 0, .int .i64 1000, .int .i64 1001] 2)) ws.heap.size from c4_at (c4_new ws (-1) 0 1000 1001 2 (by decide)) (rfl))
    have GA02 : Hid (GQ g gb w ((ws.alloc (.cells #[.int .i64 (-1), .int .i64 0, .int .i64 1000, .int .i64 1001] 2)).alloc (.cells #[.int .i64 (-1), .int .i64 0, .int .i64 5, .int .i64 6] 2)).drew x q n c l) := HG.out.below (b_alloc2 ws (.cells #[.int .i64 (-1), .int .i64 0, .int .i64 1000, .int .i64 1001] 2) (.cells #[.int .i64 (-1), .int .i64 0, .int .i64 5, .int .i64 6] 2)).drew
    have RA02 : Hid (ResG ((ws.alloc (.cells #[.int .i64 (-1), .int .i64 0, .int .i64 1000, .int .i64 1001] 2)).alloc (.cells #[.int .i64 (-1), .int .i64 0, .int .i64 5, .int .i64 6] 2)).drew w.heap.size) := HR.out.below ((b_alloc2 ws (.cells #[.int .i64 (-1), .int .i64 0, .int .i64 1000, .int .i64 1001] 2) (.cells #[.int .i64 (-1), .int .i64 0, .int .i64 5, .int .i64 6] 2)).drew)
    have CA02 : Hid (C4 ((ws.alloc (.cells #[.int .i64 (-1), .int .i64 0, .int .i64 1000, .int .i64 1001] 2)).alloc (.cells #[.int .i64 (-1), .int .i64 0, .int .i64 5, .int .i64 6] 2)).drew ws.heap.size) := (show C4 ((ws.alloc (.cells #[.int .i64 (-1), .int .i64 0, .int .i64 1000, .int .i64 1001] 2)).alloc (.cells #[.int .i64 (-1), .int .i64 0, .int .i64 5, .int .i64 6] 2)) ws.heap.size from c4_at (c4_alloc (c4_new ws (-1) 0 1000 1001 2 (by decide)) _) (rfl))
    have CB02 : Hid (C4 ((ws.alloc (.cells #[.int .i64 (-1), .int .i64 0, .int .i64 1000, .int .i64 1001] 2)).alloc (.cells #[.int .i64 (-1), .int .i64 0, .int .i64 5, .int .i64 6] 2)).drew (ws.heap.size + 1)) := (show C4 ((ws.alloc (.cells #[.int .i64 (-1), .int .i64 0, .int .i64 1000, .int .i64 1001] 2)).alloc (.cells #[.int .i64 (-1), .int .i64 0, .int .i64 5, .int .i64 6] 2)) (ws.heap.size + 1) from c4_at (c4_new (ws.alloc (.cells #[.int .i64 (-1), .int .i64 0, .int .i64 1000, .int .i64 1001] 2)) (-1) 0 5 6 2 (by decide)) (by simp))
    have GA03 : Hid (GQ g gb w ((ws.alloc (.cells #[.int .i64 (-1), .int .i64 0, .int .i64 5, .int .i64 6] 2)).alloc (.cells #[.int .i64 (-1), .int .i64 0, .int .i64 1000, .int .i64 1001] 2)).drew x q n c l) := HG.out.below (b_alloc2 ws (.cells #[.int .i64 (-1), .int .i64 0, .int .i64 5, .int .i64 6] 2) (.cells #[.int .i64 (-1), .int .i64 0, .int .i64 1000, .int .i64 1001] 2)).drew
    have RA03 : Hid (ResG ((ws.alloc (.cells #[.int .i64 (-1), .int .i64 0, .int .i64 5, .int .i64 6] 2)).alloc (.cells #[.int .i64 (-1), .int .i64 0, .int .i64 1000, .int .i64 1001] 2)).drew w.heap.size) := HR.out.below ((b_alloc2 ws (.cells #[.int .i64 (-1), .int .i64 0, .int .i64 5, .int .i64 6] 2) (.cells #[.int .i64 (-1), .int .i64 0, .int .i64 1000, .int .i64 1001] 2)).drew)
    have CA03 : Hid (C4 ((ws.alloc (.cells #[.int .i64 (-1), .int .i64 0, .int .i64 5, .int .i64 6] 2)).alloc (.cells #[.int .i64 (-1), .int .i64 0, .int .i64 1000, .int .i64 1001] 2)).drew (ws.heap.size + 1)) := (show C4 ((ws.alloc (.cells #[.int .i64 (-1), .int .i64 0, .int .i64 5, .int .i64 6] 2)).alloc (.cells #[.int .i64 (-1), .int .i64 0, .int .i64 1000, .int .i64 1001] 2)) (ws.heap.size + 1) from c4_at (c4_new (ws.alloc (.cells #[.int .i64 (-1), .int .i64 0, .int .i64 5, .int .i64 6] 2)) (-1) 0 1000 1001 2 (by decide)) (by simp))
    have CB03 : Hid (C4 ((ws.alloc (.cells #[.int .i64 (-1), .int .i64 0, .int .i64 5, .int .i64 6] 2)).alloc (.cells #[.int .i64 (-1), .int .i64 0, .int .i64 1000, .int .i64 1001] 2)).drew ws.heap.size) := (show C4 ((ws.alloc (.cells #[.int .i64 (-1), .int .i64 0, .int .i64 5, .int .i64 6] 2)).alloc (.cells #[.int .i64 (-1), .int .i64 0, .int .i64 1000, .int .i64 1001] 2)) ws.heap.size from c4_at (c4_alloc (c4_new ws (-1) 0 5 6 2 (by decide)) _) (rfl))
    have GA11 : Hid (GQ g gb w (((ws.setCell ⟨w.heap.size, 0, none⟩ (.int .i64 x)).setCell ⟨w.heap.size, 1, none⟩ (.slice (some ⟨q, 0, none⟩) n c)).alloc (.cells #[.int .i64 (-1), .int .i64 0, .int .i64 1000, .int .i64 1001] 2)).drew x q n c l) := HGS.out.below (b_alloc ((ws.setCell ⟨w.heap.size, 0, none⟩ (.int .i64 x)).setCell ⟨w.heap.size, 1, none⟩ (.slice (some ⟨q, 0, none⟩) n c)) (.cells #[.int .i64 (-1), .int .i64 0, .int .i64 1000, .int .i64 1001] 2)).drew
    have RA11 : Hid (RS (((ws.setCell ⟨w.heap.size, 0, none⟩ (.int .i64 x)).setCell ⟨w.heap.size, 1, none⟩ (.slice (some ⟨q, 0, none⟩) n c)).alloc (.cells #[.int .i64 (-1), .int .i64 0, .int .i64 1000, .int .i64 1001] 2)).drew w.heap.size x q n c) := RS.below (g := g) HRS.out ((b_alloc ((ws.setCell ⟨w.heap.size, 0, none⟩ (.int .i64 x)).setCell ⟨w.heap.size, 1, none⟩ (.slice (some ⟨q, 0, none⟩) n c)) (.cells #[.int .i64 (-1), .int .i64 0, .int .i64 1000, .int .i64 1001] 2)).drew) (by rw [wsz]; exact hrl)
    have CA11 : Hid (C4 (((ws.setCell ⟨w.heap.size, 0, none⟩ (.int .i64 x)).setCell ⟨w.heap.size, 1, none⟩ (.slice (some ⟨q, 0, none⟩) n c)).alloc (.cells #[.int .i64 (-1), .int .i64 0, .int .i64 1000, .int .i64 1001] 2)).drew ws.heap.size) := (show C4 (((ws.setCell ⟨w.heap.size, 0, none⟩ (.int .i64 x)).setCell ⟨w.heap.size, 1, none⟩ (.slice (some ⟨q, 0, none⟩) n c)).alloc (.cells #[.int .i64 (-1), .int .i64 0, .int .i64 1000, .int .i64 1001] 2)) ws.heap.size from c4_at (c4_new ((ws.setCell ⟨w.heap.size, 0, none⟩ (.int .i64 x)).setCell ⟨w.heap.size, 1, none⟩ (.slice (some ⟨q, 0, none⟩) n c)) (-1) 0 1000 1001 2 (by decide)) (wsz))
    have GA12 : Hid (GQ g gb w ((((ws.setCell ⟨w.heap.size, 0, none⟩ (.int .i64 x)).setCell ⟨w.heap.size, 1, none⟩ (.slice (some ⟨q, 0, none⟩) n c)).alloc (.cells #[.int .i64 (-1), .int .i64 0, .int .i64 1000, .int .i64 1001] 2)).alloc (.cells #[.int .i64 (-1), .int .i64 0, .int .i64 5, .int .i64 6] 2)).drew x q n c l) := HGS.out.below (b_alloc2 ((ws.setCell ⟨w.heap.size, 0, none⟩ (.int .i64 x)).setCell ⟨w.heap.size, 1, none⟩ (.slice (some ⟨q, 0, none⟩) n c)) (.cells #[.int .i64 (-1), .int .i64 0, .int .i64 1000, .int .i64 1001] 2) (.cells #[.int .i64 (-1), .int .i64 0, .int .i64 5, .int .i64 6] 2)).drew
    have RA12 : Hid (RS ((((ws.setCell ⟨w.heap.size, 0, none⟩ (.int .i64 x)).setCell ⟨w.heap.size, 1, none⟩ (.slice (some ⟨q, 0, none⟩) n c)).alloc (.cells #[.int .i64 (-1), .int .i64 0, .int .i64 1000, .int .i64 1001] 2)).alloc (.cells #[.int .i64 (-1), .int .i64 0, .int .i64 5, .int .i64 6] 2)).drew w.heap.size x q n c) := RS.below (g := g) HRS.out ((b_alloc2 ((ws.setCell ⟨w.heap.size, 0, none⟩ (.int .i64 x)).setCell ⟨w.heap.size, 1, none⟩ (.slice (some ⟨q, 0, none⟩) n c)) (.cells #[.int .i64 (-1), .int .i64 0, .int .i64 1000, .int .i64 1001] 2) (.cells #[.int .i64 (-1), .int .i64 0, .int .i64 5, .int .i64 6] 2)).drew) (by rw [wsz]; exact hrl)
    have CA12 : Hid (C4 ((((ws.setCell ⟨w.heap.size, 0, none⟩ (.int .i64 x)).setCell ⟨w.heap.size, 1, none⟩ (.slice (some ⟨q, 0, none⟩) n c)).alloc (.cells #[.int .i64 (-1), .int .i64 0, .int .i64 1000, .int .i64 1001] 2)).alloc (.cells #[.int .i64 (-1), .int .i64 0, .int .i64 5, .int .i64 6] 2)).drew ws.heap.size) := (show C4 ((((ws.setCell ⟨w.heap.size, 0, none⟩ (.int .i64 x)).setCell ⟨w.heap.size, 1, none⟩ (.slice (some ⟨q, 0, none⟩) n c)).alloc (.cells #[.int .i64 (-1), .int .i64 0, .int .i64 1000, .int .i64 1001] 2)).alloc (.cells #[.int .i64 (-1), .int .i64 0, .int .i64 5, .int .i64 6] 2)) ws.heap.size from c4_at (c4_alloc (c4_new ((ws.setCell ⟨w.heap.size, 0, none⟩ (.int .i64 x)).setCell ⟨w.heap.size, 1, none⟩ (.slice (some ⟨q, 0, none⟩) n c)) (-1) 0 1000 1001 2 (by decide)) _) (wsz))
    have CB12 : Hid (C4 ((((ws.setCell ⟨w.heap.size, 0, none⟩ (.int .i64 x)).setCell ⟨w.heap.size, 1, none⟩ (.slice (some ⟨q, 0, none⟩) n c)).alloc (.cells #[.int .i64 (-1), .int .i64 0, .int .i64 1000, .int .i64 1001] 2)).alloc (.cells #[.int .i64 (-1), .int .i64 0, .int .i64 5, .int .i64 6] 2)).drew (ws.heap.size + 1)) := (show C4 ((((ws.setCell ⟨w.heap.size, 0, none⟩ (.int .i64 x)).setCell ⟨w.heap.size, 1, none⟩ (.slice (some ⟨q, 0, none⟩) n c)).alloc (.cells #[.int .i64 (-1), .int .i64 0, .int .i64 1000, .int .i64 1001] 2)).alloc (.cells #[.int .i64 (-1), .int .i64 0, .int .i64 5, .int .i64 6] 2)) (ws.heap.size + 1) from c4_at (c4_new (((ws.setCell ⟨w.heap.size, 0, none⟩ (.int .i64 x)).setCell ⟨w.heap.size, 1, none⟩ (.slice (some ⟨q, 0, none⟩) n c)).alloc (.cells #[.int .i64 (-1), .int .i64 0, .int .i64 1000, .int .i64 1001] 2)) (-1) 0 5 6 2 (by decide)) (by simp))
    have GA13 : Hid (GQ g gb w ((((ws.setCell ⟨w.heap.size, 0, none⟩ (.int .i64 x)).setCell ⟨w.heap.size, 1, none⟩ (.slice (some ⟨q, 0, none⟩) n c)).alloc (.cells #[.int .i64 (-1), .int .i64 0, .int .i64 5, .int .i64 6] 2)).alloc (.cells #[.int .i64 (-1), .int .i64 0, .int .i64 1000, .int .i64 1001] 2)).drew x q n c l) := HGS.out.below (b_alloc2 ((ws.setCell ⟨w.heap.size, 0, none⟩ (.int .i64 x)).setCell ⟨w.heap.size, 1, none⟩ (.slice (some ⟨q, 0, none⟩) n c)) (.cells #[.int .i64 (-1), .int .i64 0, .int .i64 5, .int .i64 6] 2) (.cells #[.int .i64 (-1), .int .i64 0, .int .i64 1000, .int .i64 1001] 2)).drew
    have RA13 : Hid (RS ((((ws.setCell ⟨w.heap.size, 0, none⟩ (.int .i64 x)).setCell ⟨w.heap.size, 1, none⟩ (.slice (some ⟨q, 0, none⟩) n c)).alloc (.cells #[.int .i64 (-1), .int .i64 0, .int .i64 5, .int .i64 6] 2)).alloc (.cells #[.int .i64 (-1), .int .i64 0, .int .i64 1000, .int .i64 1001] 2)).drew w.heap.size x q n c) := RS.below (g := g) HRS.out ((b_alloc2 ((ws.setCell ⟨w.heap.size, 0, none⟩ (.int .i64 x)).setCell ⟨w.heap.size, 1, none⟩ (.slice (some ⟨q, 0, none⟩) n c)) (.cells #[.int .i64 (-1), .int .i64 0, .int .i64 5, .int .i64 6] 2) (.cells #[.int .i64 (-1), .int .i64 0, .int .i64 1000, .int .i64 1001] 2)).drew) (by rw [wsz]; exact hrl)
    have CA13 : Hid (C4 ((((ws.setCell ⟨w.heap.size, 0, none⟩ (.int .i64 x)).setCell ⟨w.heap.size, 1, none⟩ (.slice (some ⟨q, 0, none⟩) n c)).alloc (.cells #[.int .i64 (-1), .int .i64 0, .int .i64 5, .int .i64 6] 2)).alloc (.cells #[.int .i64 (-1), .int .i64 0, .int .i64 1000, .int .i64 1001] 2)).drew (ws.heap.size + 1)) := (show C4 ((((ws.setCell ⟨w.heap.size, 0, none⟩ (.int .i64 x)).setCell ⟨w.heap.size, 1, none⟩ (.slice (some ⟨q, 0, none⟩) n c)).alloc (.cells #[.int .i64 (-1), .int .i64 0, .int .i64 5, .int .i64 6] 2)).alloc (.cells #[.int .i64 (-1), .int .i64 0, .int .i64 1000, .int .i64 1001] 2)) (ws.heap.size + 1) from c4_at (c4_new (((ws.setCell ⟨w.heap.size, 0, none⟩ (.int .i64 x)).setCell ⟨w.heap.size, 1, none⟩ (.slice (some ⟨q, 0, none⟩) n c)).alloc (.cells #[.int .i64 (-1), .int .i64 0, .int .i64 5, .int .i64 6] 2)) (-1) 0 1000 1001 2 (by decide)) (by simp))
    have CB13 : Hid (C4 ((((ws.setCell ⟨w.heap.size, 0, none⟩ (.int .i64 x)).setCell ⟨w.heap.size, 1, none⟩ (.slice (some ⟨q, 0, none⟩) n c)).alloc (.cells #[.int .i64 (-1), .int .i64 0, .int .i64 5, .int .i64 6] 2)).alloc (.cells #[.int .i64 (-1), .int .i64 0, .int .i64 1000, .int .i64 1001] 2)).drew ws.heap.size) := (show C4 ((((ws.setCell ⟨w.heap.size, 0, none⟩ (.int .i64 x)).setCell ⟨w.heap.size, 1, none⟩ (.slice (some ⟨q, 0, none⟩) n c)).alloc (.cells #[.int .i64 (-1), .int .i64 0, .int .i64 5, .int .i64 6] 2)).alloc (.cells #[.int .i64 (-1), .int .i64 0, .int .i64 1000, .int .i64 1001] 2)) ws.heap.size from c4_at (c4_alloc (c4_new ((ws.setCell ⟨w.heap.size, 0, none⟩ (.int .i64 x)).setCell ⟨w.heap.size, 1, none⟩ (.slice (some ⟨q, 0, none⟩) n c)) (-1) 0 5 6 2 (by decide)) _) (wsz))
    clear wsz
    go_upto_region 4 with fail
    go_region_with (first | (go_at_call 81; refine (pick g _ 0 4 4 _ ?hs (by omega) (by omega) ?hb ?hc).mono ?_; (case hs => with_reducible first | exact GA01.out.src | exact GA02.out.src | exact GA03.out.src | exact GA11.out.src | exact GA12.out.src | exact GA13.out.src); (case hb => first | exact hgz | omega); (case hc => with_reducible first | exact CA01.out | exact CA02.out | exact CA03.out | exact CA11.out | exact CA12.out | exact CA13.out); rintro e wn ⟨y, rfl, -, hs, ht⟩; first | ((with_reducible have hG := GA01.out.step hs ht); have HRn : Hid (ResG wn w.heap.size) := RA01.out.low ht hlg; have HGn := Lib.hid hG; have hzn : w.heap.size < wn.heap.size := (by have h9 := hG.src.lt; omega); have hgn : g < wn.heap.size := hG.src.lt; have hev' := HGn.out.ev; have hpl' := HGn.out.pl; have hgbn : gb < wn.heap.size := cell_lt hev'; have HGSn : Hid (GQ g gb w ((wn.setCell ⟨w.heap.size, 0, none⟩ (.int .i64 x)).setCell ⟨w.heap.size, 1, none⟩ (.slice (some ⟨q, 0, none⟩) n c)) x q n c l) := HGn.out.store HRn.out; have HRSn : Hid (RS ((wn.setCell ⟨w.heap.size, 0, none⟩ (.int .i64 x)).setCell ⟨w.heap.size, 1, none⟩ (.slice (some ⟨q, 0, none⟩) n c)) w.heap.size x q n c) := RS.new HRn.out; obtain ⟨z0, z1, z2, z3⟩ := HRn.out; have HGnA : Hid (GQ g gb w (wn.alloc (.cells #[.int .i64 (-1), .int .i64 0, .int .i64 5, .int .i64 6] 2)) x q n c l) := HGn.out.below (b_alloc _ _); have HRnA : Hid (ResG (wn.alloc (.cells #[.int .i64 (-1), .int .i64 0, .int .i64 5, .int .i64 6] 2)) w.heap.size) := HRn.out.below (b_alloc _ _); have D2A : Hid (C4 (wn.alloc (.cells #[.int .i64 (-1), .int .i64 0, .int .i64 5, .int .i64 6] 2)) wn.heap.size) := c4_new wn (-1) 0 5 6 2 (by decide); have HGSnA : Hid (GQ g gb w (((wn.setCell ⟨w.heap.size, 0, none⟩ (.int .i64 x)).setCell ⟨w.heap.size, 1, none⟩ (.slice (some ⟨q, 0, none⟩) n c)).alloc (.cells #[.int .i64 (-1), .int .i64 0, .int .i64 5, .int .i64 6] 2)) x q n c l) := HGSn.out.below (b_alloc _ _); have HRSnA : Hid (RS (((wn.setCell ⟨w.heap.size, 0, none⟩ (.int .i64 x)).setCell ⟨w.heap.size, 1, none⟩ (.slice (some ⟨q, 0, none⟩) n c)).alloc (.cells #[.int .i64 (-1), .int .i64 0, .int .i64 5, .int .i64 6] 2)) w.heap.size x q n c) := RS.below (g := g) HRSn.out (b_alloc _ _) (by simp [go_sem]; exact hzn); have D2SA : Hid (C4 (((wn.setCell ⟨w.heap.size, 0, none⟩ (.int .i64 x)).setCell ⟨w.heap.size, 1, none⟩ (.slice (some ⟨q, 0, none⟩) n c)).alloc (.cells #[.int .i64 (-1), .int .i64 0, .int .i64 5, .int .i64 6] 2)) wn.heap.size) := c4_at (c4_new ((wn.setCell ⟨w.heap.size, 0, none⟩ (.int .i64 x)).setCell ⟨w.heap.size, 1, none⟩ (.slice (some ⟨q, 0, none⟩) n c)) (-1) 0 5 6 2 (by decide)) (by simp [go_sem]); clear hG hs ht) | ((with_reducible have hG := GA02.out.step hs ht); have HRn : Hid (ResG wn w.heap.size) := RA02.out.low ht hlg; have D2 : Hid (C4 wn (ws.heap.size + 1)) := c4_thr CB02.out ht (by omega); have HGn := Lib.hid hG; have hzn : w.heap.size < wn.heap.size := (by have h9 := hG.src.lt; omega); have hgn : g < wn.heap.size := hG.src.lt; have hev' := HGn.out.ev; have hpl' := HGn.out.pl; have hgbn : gb < wn.heap.size := cell_lt hev'; have HGSn : Hid (GQ g gb w ((wn.setCell ⟨w.heap.size, 0, none⟩ (.int .i64 x)).setCell ⟨w.heap.size, 1, none⟩ (.slice (some ⟨q, 0, none⟩) n c)) x q n c l) := HGn.out.store HRn.out; have HRSn : Hid (RS ((wn.setCell ⟨w.heap.size, 0, none⟩ (.int .i64 x)).setCell ⟨w.heap.size, 1, none⟩ (.slice (some ⟨q, 0, none⟩) n c)) w.heap.size x q n c) := RS.new HRn.out; obtain ⟨z0, z1, z2, z3⟩ := HRn.out; have D2S : Hid (C4 ((wn.setCell ⟨w.heap.size, 0, none⟩ (.int .i64 x)).setCell ⟨w.heap.size, 1, none⟩ (.slice (some ⟨q, 0, none⟩) n c)) (ws.heap.size + 1)) := c4_box D2.out (by omega); clear hG hs ht) | ((with_reducible have hG := GA03.out.step hs ht); have HRn : Hid (ResG wn w.heap.size) := RA03.out.low ht hlg; have D2 : Hid (C4 wn ws.heap.size) := c4_thr CB03.out ht (by omega); have HGn := Lib.hid hG; have hzn : w.heap.size < wn.heap.size := (by have h9 := hG.src.lt; omega); have hgn : g < wn.heap.size := hG.src.lt; have hev' := HGn.out.ev; have hpl' := HGn.out.pl; have hgbn : gb < wn.heap.size := cell_lt hev'; have HGSn : Hid (GQ g gb w ((wn.setCell ⟨w.heap.size, 0, none⟩ (.int .i64 x)).setCell ⟨w.heap.size, 1, none⟩ (.slice (some ⟨q, 0, none⟩) n c)) x q n c l) := HGn.out.store HRn.out; have HRSn : Hid (RS ((wn.setCell ⟨w.heap.size, 0, none⟩ (.int .i64 x)).setCell ⟨w.heap.size, 1, none⟩ (.slice (some ⟨q, 0, none⟩) n c)) w.heap.size x q n c) := RS.new HRn.out; obtain ⟨z0, z1, z2, z3⟩ := HRn.out; have D2S : Hid (C4 ((wn.setCell ⟨w.heap.size, 0, none⟩ (.int .i64 x)).setCell ⟨w.heap.size, 1, none⟩ (.slice (some ⟨q, 0, none⟩) n c)) ws.heap.size) := c4_box D2.out (by omega); clear hG hs ht) | ((with_reducible have hG := GA11.out.step hs ht); have HRn : Hid (RS wn w.heap.size x q n c) := RA11.out.low ht hlg; have HGn := Lib.hid hG; have hzn : w.heap.size < wn.heap.size := (by have h9 := hG.src.lt; omega); have hgn : g < wn.heap.size := hG.src.lt; have hev' := HGn.out.ev; have hpl' := HGn.out.pl; have hgbn : gb < wn.heap.size := cell_lt hev'; obtain ⟨z0, z1⟩ := HRn.out; have HGnA : Hid (GQ g gb w (wn.alloc (.cells #[.int .i64 (-1), .int .i64 0, .int .i64 5, .int .i64 6] 2)) x q n c l) := HGn.out.below (b_alloc _ _); have HRnA : Hid (RS (wn.alloc (.cells #[.int .i64 (-1), .int .i64 0, .int .i64 5, .int .i64 6] 2)) w.heap.size x q n c) := RS.below (g := g) HRn.out (b_alloc _ _) hzn; have D2A : Hid (C4 (wn.alloc (.cells #[.int .i64 (-1), .int .i64 0, .int .i64 5, .int .i64 6] 2)) wn.heap.size) := c4_new wn (-1) 0 5 6 2 (by decide); clear hG hs ht) | ((with_reducible have hG := GA12.out.step hs ht); have HRn : Hid (RS wn w.heap.size x q n c) := RA12.out.low ht hlg; have D2 : Hid (C4 wn (ws.heap.size + 1)) := c4_thr CB12.out ht (by omega); have HGn := Lib.hid hG; have hzn : w.heap.size < wn.heap.size := (by have h9 := hG.src.lt; omega); have hgn : g < wn.heap.size := hG.src.lt; have hev' := HGn.out.ev; have hpl' := HGn.out.pl; have hgbn : gb < wn.heap.size := cell_lt hev'; obtain ⟨z0, z1⟩ := HRn.out; clear hG hs ht) | ((with_reducible have hG := GA13.out.step hs ht); have HRn : Hid (RS wn w.heap.size x q n c) := RA13.out.low ht hlg; have D2 : Hid (C4 wn ws.heap.size) := c4_thr CB13.out ht (by omega); have HGn := Lib.hid hG; have hzn : w.heap.size < wn.heap.size := (by have h9 := hG.src.lt; omega); have hgn : g < wn.heap.size := hG.src.lt; have hev' := HGn.out.ev; have hpl' := HGn.out.pl; have hgbn : gb < wn.heap.size := cell_lt hev'; obtain ⟨z0, z1⟩ := HRn.out; clear hG hs ht)) | (go_at_call 81; refine (pick g _ 0 4 4 _ ?hs (by omega) (by omega) ?hb ?hc).mono ?_; (case hs => with_reducible first | exact HGn.out.src | exact HGSn.out.src | exact HGnA.out.src | exact HGSnA.out.src); (case hb => first | exact hgn | exact hgz | omega); (case hc => with_reducible first | exact D2.out | exact D2S.out | exact D2A.out | exact D2SA.out); rintro e wm ⟨z, rfl, -, hs, ht⟩; first | ((with_reducible have hG := HGn.out.step hs ht); first | (have HRm : Hid (ResG wm w.heap.size) := HRn.out.low ht hlg; have HGm := Lib.hid (hG.store (y := x) (v := .slice (some ⟨q, 0, none⟩) n c) HRm.out); have hev'' := hG.ev; have hpl'' := hG.pl; obtain ⟨u0, u1, u2, u3⟩ := HRm.out; have hul : w.heap.size < wm.heap.size := cell_lt u0; clear hG hs ht) | (have HRm : Hid (RS wm w.heap.size x q n c) := HRn.out.low ht hlg; have HGm := Lib.hid hG; obtain ⟨u0, u1⟩ := HRm.out; have hul : w.heap.size < wm.heap.size := cell_lt u0; clear hG hs ht)) | ((with_reducible have hG := HGnA.out.step hs ht); first | (have HRm : Hid (ResG wm w.heap.size) := HRnA.out.low ht hlg; have HGm := Lib.hid (hG.store (y := x) (v := .slice (some ⟨q, 0, none⟩) n c) HRm.out); have hev'' := hG.ev; have hpl'' := hG.pl; obtain ⟨u0, u1, u2, u3⟩ := HRm.out; have hul : w.heap.size < wm.heap.size := cell_lt u0; clear hG hs ht) | (have HRm : Hid (RS wm w.heap.size x q n c) := HRnA.out.low ht hlg; have HGm := Lib.hid hG; obtain ⟨u0, u1⟩ := HRm.out; have hul : w.heap.size < wm.heap.size := cell_lt u0; clear hG hs ht)) | ((with_reducible have hG := HGSn.out.step hs ht); have HRm : Hid (RS wm w.heap.size x q n c) := HRSn.out.low ht hlg; have HGm := Lib.hid hG; obtain ⟨u0, u1⟩ := HRm.out; have hul : w.heap.size < wm.heap.size := cell_lt u0; clear hG hs ht) | ((with_reducible have hG := HGSnA.out.step hs ht); have HRm : Hid (RS wm w.heap.size x q n c) := HRSnA.out.low ht hlg; have HGm := Lib.hid hG; obtain ⟨u0, u1⟩ := HRm.out; have hul : w.heap.size < wm.heap.size := cell_lt u0; clear hG hs ht)))
    all_goals go_wp2
    all_goals exact bodyPost_ret (v := .tuple #[.agg #[.int .i64 x, .slice (some ⟨q, 0, none⟩) n c], .int .i64 iy, .int .i64 y, .int .i64 z]) (by simp [results, Try.results23, go_sem, u0, u1, hul]) rfl ⟨x, q, n, c, l, iy, y, z, rfl, HGm.out.own.mono (by omega), hn60, HGm.out.bel⟩
  · have hyb : (y0 == 0) = false := by simpa using hy0
    have HE : Hid (∀ w', Src w' g → Thr g ws.drew w' → GQ g gb w w' x q n c l ∧ ResG w' w.heap.size) := fun w' hs ht => ⟨HG.out.step hs (((Thr.refl g ws).drew).trans ht), HR.out.low (((Thr.refl g ws).drew).trans ht) hlg⟩
    have HL : Hid (∀ w', Src w' g → Thr g ((ws.setCell ⟨w.heap.size, 0, none⟩ (.int .i64 x)).setCell ⟨w.heap.size, 1, none⟩ (.slice (some ⟨q, 0, none⟩) n c)).drew w' → GQ g gb w w' x q n c l ∧ RS w' w.heap.size x q n c) := fun w' hs ht => ⟨HGS.out.step hs (((Thr.refl g _).drew).trans ht), HRS.out.low (((Thr.refl g _).drew).trans ht) hlg⟩
    have HA : Hid (Src ws.drew g) := HG.out.src.drew
    have HB : Hid (Src ((ws.setCell ⟨w.heap.size, 0, none⟩ (.int .i64 x)).setCell ⟨w.heap.size, 1, none⟩ (.slice (some ⟨q, 0, none⟩) n c)).drew g) := HGS.out.src.drew
    go_upto_region 5 with fail
    go_region_with (first
      | (go_at_call 80; refine (next _ _ _ (by decide) ?hs).mono ?_; (case hs => with_reducible first | exact HA.out | exact HB.out); rintro e wn ⟨y, rfl, -, -, hs, ht⟩; first | ((with_reducible have hG := HE.out _ hs ht); have HGn := Lib.hid hG.1; have HRn := Lib.hid hG.2; have HGSn := Lib.hid (HGn.out.store (y := x) (v := .slice (some ⟨q, 0, none⟩) n c) HRn.out); have HRSn := Lib.hid (RS.new (x := x) (q := q) (n := n) (c := c) HRn.out); have hev' := HGn.out.ev; have hpl' := HGn.out.pl; obtain ⟨z0, z1, z2, z3⟩ := HRn.out; have hzl : w.heap.size < wn.heap.size := cell_lt z0; clear hG hs ht) | ((with_reducible have hG := HL.out _ hs ht); have HGn := Lib.hid hG.1; have HRn := Lib.hid hG.2; obtain ⟨z0, z1⟩ := HRn.out; have hzl : w.heap.size < wn.heap.size := cell_lt z0; clear hG hs ht))
      | (go_at_call 80; refine (next _ _ _ (by decide) ?hs).mono ?_; (case hs => with_reducible first | exact HGn.out.src | exact HGSn.out.src); rintro e wm ⟨z, rfl, -, -, hs, ht⟩; first | ((with_reducible have hG := HGn.out.step hs ht); first | (have HRm : Hid (ResG wm w.heap.size) := HRn.out.low ht hlg; have HGm := Lib.hid (hG.store (y := x) (v := .slice (some ⟨q, 0, none⟩) n c) HRm.out); have hev'' := hG.ev; have hpl'' := hG.pl; obtain ⟨u0, u1, u2, u3⟩ := HRm.out; have hul : w.heap.size < wm.heap.size := cell_lt u0; clear hG hs ht) | (have HRm : Hid (RS wm w.heap.size x q n c) := HRn.out.low ht hlg; have HGm := Lib.hid hG; obtain ⟨u0, u1⟩ := HRm.out; have hul : w.heap.size < wm.heap.size := cell_lt u0; clear hG hs ht)) | ((with_reducible have hG := HGSn.out.step hs ht); have HRm : Hid (RS wm w.heap.size x q n c) := HRSn.out.low ht hlg; have HGm := Lib.hid hG; obtain ⟨u0, u1⟩ := HRm.out; have hul : w.heap.size < wm.heap.size := cell_lt u0; clear hG hs ht)))
    all_goals go_wp2
    all_goals exact bodyPost_ret (v := .tuple #[.agg #[.int .i64 x, .slice (some ⟨q, 0, none⟩) n c], .int .i64 iy, .int .i64 y, .int .i64 z]) (by simp [results, Try.results23, go_sem, u0, u1, hul]) rfl ⟨x, q, n, c, l, iy, y, z, rfl, HGm.out.own.mono (by omega), hn60, HGm.out.bel⟩
end V
end Go.Proofs.Ytphobmddkphofaa
