/- Texts laid together: Dgd. -/
import Derived.Test.YtjbffpmelglegaaQa33
set_option linter.unusedSimpArgs false
set_option linter.unusedVariables false
set_option linter.unusedSectionVars false
namespace Go.Proofs.Ytjbffpmelglegaa
namespace V
set_option maxRecDepth 100000
open Go.RowKit
/-- A drawn graph and a number. -/
def DrawGI (g : Nat) (w : World) (e : Ending) (w' : World) : Prop :=
  ∃ (x : Int) (q n c : Nat) (l : List M.Pc) (y : Int), e = .returned (.tuple #[.agg #[.int .i64 x, .slice (some ⟨q, 0, none⟩) n c], .int .i64 y]) ∧ OwnPl w' w.heap.size (.slice (some ⟨q, 0, none⟩) n c) l ∧ n ≤ 60 ∧ (Lit.int .i64 x).wf = true ∧ Src w' g ∧ Thr g w w'
/-- The result's box is written, the number not yet drawn. -/
theorem GD.late {g rb gb : Nat} {w wr : World} {x : Int} {q n c : Nat} {l : List M.Pc} (h : GD g rb gb w wr x q n c l) :
    ∀ w1, Below wr.heap.size ((wr.setCell ⟨rb, 0, none⟩ (.int .i64 x)).setCell ⟨rb, 1, none⟩ (.slice (some ⟨q, 0, none⟩) n c)) w1 → ∀ w', Src w' g → Thr g w1 w' →
      OwnPl w' w.heap.size (.slice (some ⟨q, 0, none⟩) n c) l ∧ Thr g w w' ∧ w'.cell? ⟨rb, 0, none⟩ = some (.int .i64 x) ∧ w'.cell? ⟨rb, 1, none⟩ = some (.slice (some ⟨q, 0, none⟩) n c) := by
  intro w1 hb w' hs ht
  obtain ⟨o1, s1, t1⟩ := h.fin
  obtain ⟨r0, r1, r2, r3⟩ := h.res
  have hls := h.ls
  have hlr := h.lr
  have hl : rb < wr.heap.size := cell_lt r0
  have hz : ((wr.setCell ⟨rb, 0, none⟩ (.int .i64 x)).setCell ⟨rb, 1, none⟩ (.slice (some ⟨q, 0, none⟩) n c)).heap.size = wr.heap.size := by simp [go_sem]
  have hb2 : Below ((wr.setCell ⟨rb, 0, none⟩ (.int .i64 x)).setCell ⟨rb, 1, none⟩ (.slice (some ⟨q, 0, none⟩) n c)).heap.size ((wr.setCell ⟨rb, 0, none⟩ (.int .i64 x)).setCell ⟨rb, 1, none⟩ (.slice (some ⟨q, 0, none⟩) n c)) w1 := by rw [hz]; exact hb
  have h1 := hb.size
  have t2 := t1.trans (Thr.of_below hb2 (by omega))
  have hl1 : rb < w1.heap.size := by omega
  refine ⟨(o1.below hb2).thr ht (by omega), t2.trans ht, ?_, ?_⟩
  · rw [ht.cell (p := ⟨rb, 0, none⟩) hl1 (by show rb ≠ g; omega), hb.cell (p := ⟨rb, 0, none⟩) hl]
    simp [go_sem, r0, r1]
  · rw [ht.cell (p := ⟨rb, 1, none⟩) hl1 (by show rb ≠ g; omega), hb.cell (p := ⟨rb, 1, none⟩) hl]
    simp [go_sem, r0, r1]
set_option maxRecDepth 100000 in
set_option maxHeartbeats 4000000 in
theorem drawEvent11 (g : Nat) (w : World) (h : Src w g) :
    Calls Try.prog 96 #[.pointer (some ⟨g, 0, none⟩)] w (DrawGI g w) := by
  have HS := Lib.hid h
  have hg := h.lt
  clear h
  go_enter Try.func96, Try.ntmps96
  go_wp2_with fail
  refine (draw11 g _ (HS.out.alloc _)).mono ?_
  rintro e w2 ⟨x, q, n, c, l, rfl, ho, hn60, wfx, hs, ht⟩
  have hq := (ho.lt (k := q) rfl).1
  have hql := (ho.lt (k := q) rfl).2
  simp at hq
  have hb1 : w.heap.size < w2.heap.size := by omega
  have HGD0 : Hid (GD g w.heap.size w2.heap.size w (w2.alloc (.cells #[.int .i64 x, .slice (some ⟨q, 0, none⟩) n c] 41)) x q n c l) := by
    have hb2 := b_alloc w2 (.cells #[.int .i64 x, .slice (some ⟨q, 0, none⟩) n c] 41)
    have hr := (resG_new w 41).thr ht hg
    have ht1 := ((Thr.refl g w).alloc (Nat.le_of_lt hg) _).trans ht
    exact ⟨hr.below hb2, by simp [go_sem], by simp [go_sem], by simp [go_sem], by simp [go_sem], (ho.below hb2).mono (by simp), by omega, by omega, by omega, Nat.le_refl _, by omega, by omega, hg, hs.below (hb2.mono (by omega)), ht1.trans (Thr.of_below hb2 (by omega))⟩
  obtain ⟨gb, hgb⟩ : ∃ b, b = w2.heap.size := ⟨_, rfl⟩
  obtain ⟨w3, hw3⟩ : ∃ z, z = w2.alloc (.cells #[.int .i64 x, .slice (some ⟨q, 0, none⟩) n c] 41) := ⟨_, rfl⟩
  rw [← hw3, ← hgb] at HGD0
  have HW3 := Lib.hid hw3.symm
  have HGb := Lib.hid hgb.symm
  clear ho hs ht hw3 hgb hq hql hb1
  go_upto_region 2 with fail
  rw [HW3.out, HGb.out]
  clear HW3 HGb
  have hev := HGD0.out.ev
  have hpl := HGD0.out.pl
  have wfn : (Lit.int .i64 (n : Int)).wf = true := wf_small _ (by omega) (by omega)
  go_wp2_with fail
  refine (next _ _ _ (by decide) HGD0.out.src).mono ?_
  rintro e ws ⟨y0, rfl, hy1, hy2, hs, ht⟩
  have HG := Lib.hid (HGD0.out.step hs ht)
  clear hs ht HGD0 hy1 hy2 hev hpl
  have hev := HG.out.ev
  have hpl := HG.out.pl
  obtain ⟨r0, r1, r2, r3⟩ := HG.out.res
  have hrl : w.heap.size < ws.heap.size := cell_lt r0
  have hgl : gb < ws.heap.size := cell_lt hev
  have hgr := HG.out.gr
  have hgs : g < w.heap.size := HG.out.ls
  have HL := Lib.hid (HG.out.late _ (Below.refl _ _).drew)
  have HE : Hid (∀ w', Src w' g → Thr g ws.drew w' → GD g w.heap.size gb w w' x q n c l) := fun w' hs ht => HG.out.step hs (((Thr.refl g ws).drew).trans ht)
  have HA : Hid (Src ws.drew g) := HG.out.src.drew
  have HB : Hid (Src ((ws.setCell ⟨w.heap.size, 0, none⟩ (.int .i64 x)).setCell ⟨w.heap.size, 1, none⟩ (.slice (some ⟨q, 0, none⟩) n c)).drew g) := HG.out.fin.2.1.drew
  have hlit : [(-1 : Int), x].all (fun x => (Lit.int .i64 x).wf) = true := by show ((Lit.int .i64 (-1)).wf && ((Lit.int .i64 x).wf && true)) = true; rw [wfx]; rfl
  have hgz : g < ws.heap.size := HG.out.src.lt
  by_cases hy0 : y0 = 0
  · subst hy0
    have wsz : ((ws.setCell ⟨w.heap.size, 0, none⟩ (.int .i64 x)).setCell ⟨w.heap.size, 1, none⟩ (.slice (some ⟨q, 0, none⟩) n c)).heap.size = ws.heap.size := by simp [go_sem]
    have HAp : Hid (Src (ws.alloc (.cells #[.int .i64 (-1), .int .i64 x] 2)).drew g) := (HG.out.src.alloc _).drew
    have HBp : Hid (Src (((ws.setCell ⟨w.heap.size, 0, none⟩ (.int .i64 x)).setCell ⟨w.heap.size, 1, none⟩ (.slice (some ⟨q, 0, none⟩) n c)).alloc (.cells #[.int .i64 (-1), .int .i64 x] 2)).drew g) := (HG.out.fin.2.1.alloc _).drew
    have HCA : Hid (∀ i, i < 2 → ∃ y : Int, (Lit.int .i64 y).wf = true ∧ (ws.alloc (.cells #[.int .i64 (-1), .int .i64 x] 2)).drew.cell? ⟨ws.heap.size, 0 + i, none⟩ = some (.int .i64 y)) := fun i hi => (by have h := litCells ws [-1, x] #[.int .i64 (-1), .int .i64 x] 2 rfl hlit i hi; exact h)
    have HCB : Hid (∀ i, i < 2 → ∃ y : Int, (Lit.int .i64 y).wf = true ∧ (((ws.setCell ⟨w.heap.size, 0, none⟩ (.int .i64 x)).setCell ⟨w.heap.size, 1, none⟩ (.slice (some ⟨q, 0, none⟩) n c)).alloc (.cells #[.int .i64 (-1), .int .i64 x] 2)).drew.cell? ⟨ws.heap.size, 0 + i, none⟩ = some (.int .i64 y)) := fun i hi => (by have h := litCells ((ws.setCell ⟨w.heap.size, 0, none⟩ (.int .i64 x)).setCell ⟨w.heap.size, 1, none⟩ (.slice (some ⟨q, 0, none⟩) n c)) [-1, x] #[.int .i64 (-1), .int .i64 x] 2 rfl hlit i hi; rw [wsz] at h; exact h)
    have HEp : Hid (∀ w', Src w' g → Thr g (ws.alloc (.cells #[.int .i64 (-1), .int .i64 x] 2)).drew w' → GD g w.heap.size gb w w' x q n c l) := fun w' hs ht => HG.out.step hs ((((Thr.refl g ws).alloc (by omega) _).drew).trans ht)
    have HLp := Lib.hid (HG.out.late _ (show Below ws.heap.size _ (((ws.setCell ⟨w.heap.size, 0, none⟩ (.int .i64 x)).setCell ⟨w.heap.size, 1, none⟩ (.slice (some ⟨q, 0, none⟩) n c)).alloc (.cells #[.int .i64 (-1), .int .i64 x] 2)).drew by have h := (b_alloc ((ws.setCell ⟨w.heap.size, 0, none⟩ (.int .i64 x)).setCell ⟨w.heap.size, 1, none⟩ (.slice (some ⟨q, 0, none⟩) n c)) (.cells #[.int .i64 (-1), .int .i64 x] 2)).drew; rw [wsz] at h; exact h))
    clear hlit wsz
    go_upto_region 3 with fail
    go_region_with ((go_at_call 97; refine (pick g _ 0 2 2 _ ?hs (by omega) (by omega) ?hb ?hc).mono ?_; (case hs => with_reducible first | exact HAp.out | exact HBp.out); (case hb => exact hgz); (case hc => with_reducible first | exact HCA.out | exact HCB.out); rintro e wn ⟨y, rfl, -, hs, ht⟩; first | ((with_reducible have hG := HEp.out _ hs ht); have HGn := Lib.hid hG; have hev' := HGn.out.ev; have hpl' := HGn.out.pl; obtain ⟨z0, z1, z2, z3⟩ := HGn.out.res; have HF := Lib.hid HGn.out.fin; have hzl : w.heap.size < wn.heap.size := cell_lt z0; clear hG hs ht) | ((with_reducible have hG := HLp.out _ hs ht); have HS9 := Lib.hid hs; have HF9 := Lib.hid hG; obtain ⟨-, -, z0, z1⟩ := hG; have hzl : w.heap.size < wn.heap.size := cell_lt z0; clear hs ht)))
    all_goals go_wp2
    all_goals first
      | exact bodyPost_ret (v := .tuple #[.agg #[.int .i64 x, .slice (some ⟨q, 0, none⟩) n c], .int .i64 y]) (by simp [results, Try.results96, go_sem, z0, z1, hzl]) rfl ⟨_, _, _, _, _, _, rfl, HF.out.1, hn60, wfx, HF.out.2.1, HF.out.2.2⟩
      | exact bodyPost_ret (v := .tuple #[.agg #[.int .i64 x, .slice (some ⟨q, 0, none⟩) n c], .int .i64 y]) (by simp [results, Try.results96, go_sem, z0, z1, hzl]) rfl ⟨_, _, _, _, _, _, rfl, HF9.out.1, hn60, wfx, HS9.out, HF9.out.2.1⟩
  · have hyb : (y0 == 0) = false := by simpa using hy0
    go_upto_region 4 with fail
    go_region_with ((go_at_call 98; refine (next _ _ _ wfx ?hs).mono ?_; (case hs => with_reducible first | exact HA.out | exact HB.out); rintro e wn ⟨y, rfl, hy1, hy2, hs, ht⟩; clear hy1 hy2; first | ((with_reducible have hG := HE.out _ hs ht); have HGn := Lib.hid hG; have hev' := HGn.out.ev; have hpl' := HGn.out.pl; obtain ⟨z0, z1, z2, z3⟩ := HGn.out.res; have HF := Lib.hid HGn.out.fin; have hzl : w.heap.size < wn.heap.size := cell_lt z0; clear hG hs ht) | ((with_reducible have hG := HL.out _ hs ht); have HS9 := Lib.hid hs; have HF9 := Lib.hid hG; obtain ⟨-, -, z0, z1⟩ := hG; have hzl : w.heap.size < wn.heap.size := cell_lt z0; clear hs ht)))
    all_goals go_wp2
    all_goals first
      | exact bodyPost_ret (v := .tuple #[.agg #[.int .i64 x, .slice (some ⟨q, 0, none⟩) n c], .int .i64 y]) (by simp [results, Try.results96, go_sem, z0, z1, hzl]) rfl ⟨_, _, _, _, _, _, rfl, HF.out.1, hn60, wfx, HF.out.2.1, HF.out.2.2⟩
      | exact bodyPost_ret (v := .tuple #[.agg #[.int .i64 x, .slice (some ⟨q, 0, none⟩) n c], .int .i64 y]) (by simp [results, Try.results96, go_sem, z0, z1, hzl]) rfl ⟨_, _, _, _, _, _, rfl, HF9.out.1, hn60, wfx, HS9.out, HF9.out.2.1⟩
end V
end Go.Proofs.Ytjbffpmelglegaa
