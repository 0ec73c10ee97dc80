/- Texts laid together: Fds. -/
import Derived.Test.YtjbffpmelglegaaQa92
import Derived.Deep.RegionHeld3
import Derived.Deep.DeepCutAuto
set_option linter.unusedSimpArgs false
set_option linter.unusedVariables false
set_option linter.unusedSectionVars false
namespace Go.Proofs.Ytjbffpmelglegaa
namespace V
set_option maxRecDepth 100000
open Go.RowKit
/-- A drawn graph and a drawn number, with a bound of the events. -/
def DrawGIB (g : Nat) (w : World) (e : Ending) (w' : World) : Prop :=
  ∃ (x : Int) (q n c : Nat) (l : List M.Pc) (y : Int), e = .returned (.tuple #[.agg #[.int .i64 x, .slice (some ⟨q, 0, none⟩) n c], .int .i64 y]) ∧ OwnPl w' w.heap.size (.slice (some ⟨q, 0, none⟩) n c) l ∧ n ≤ 60 ∧ (0 ≤ x ∧ x ≤ 11) ∧ Src w' g ∧ Thr g w w'
/-- Another graph is written into the box. -/
theorem GD.swap {g rb gb : Nat} {w wr : World} {x x' : Int} {q n c q' n' c' B : Nat} {l l' : List M.Pc} (h : GD g rb gb w wr x q n c l) (ho : OwnPl wr B (.slice (some ⟨q', 0, none⟩) n' c') l') (h1 : gb < B) (h2 : rb < B) : GD g rb gb w ((wr.setCell ⟨gb, 0, none⟩ (.int .i64 x')).setCell ⟨gb, 1, none⟩ (.slice (some ⟨q', 0, none⟩) n' c')) x' q' n' c' l' := by
  have hls := h.ls
  have hlr := h.lr
  have hlg := h.lg
  have hgr := h.gr
  have hqB := (ho.lt (k := q') rfl).1
  have hlt : gb < wr.heap.size := cell_lt h.ev
  have hk : ∀ k, k ≠ gb → ((wr.setCell ⟨gb, 0, none⟩ (.int .i64 x')).setCell ⟨gb, 1, none⟩ (.slice (some ⟨q', 0, none⟩) n' c')).heap[k]? = wr.heap[k]? := fun k hk => (Below.heap_setCell _ _ _ _ (by show k ≠ gb; omega)).trans (Below.heap_setCell _ _ _ _ (by show k ≠ gb; omega))
  obtain ⟨r0, r1, r2, r3⟩ := h.res
  have hrb := hk rb (by omega)
  exact ⟨⟨(World.cell?_of_block (a := ⟨rb, 0, none⟩) hrb).trans r0, (World.cell?_of_block (a := ⟨rb, 1, none⟩) hrb).trans r1, (World.frozen?_of_block (a := ⟨rb, 0, none⟩) hrb).trans r2, (World.frozen?_of_block (a := ⟨rb, 1, none⟩) hrb).trans r3⟩,
    by simp [go_sem, h.ev, h.pl, hlt], by simp [go_sem, h.ev, h.pl, hlt], by simp [go_sem, h.f0], by simp [go_sem, h.f1], (ho.mono (by omega)).keepB fun k hq => hk k (by simp [Value.ownBlock] at hq; omega), by omega, by omega, h.gr, h.lr, h.lg, by omega, h.ls,
    h.src.below (((Below.refl _ _).setCell (p := ⟨gb, 0, none⟩) (by show g + 1 ≤ gb; omega) _).setCell (p := ⟨gb, 1, none⟩) (by show g + 1 ≤ gb; omega) _), ⟨(h.thr.below.setCell (p := ⟨gb, 0, none⟩) (by show g ≤ gb; omega) _).setCell (p := ⟨gb, 1, none⟩) (by show g ≤ gb; omega) _, fun k h1 h2 => (hk k (by omega)).trans (h.thr.other k h1 h2)⟩⟩
set_option maxRecDepth 100000 in
set_option maxHeartbeats 8000000 in
theorem draw13 (g : Nat) (w : World) (h : Src w g) :
    Calls Try.prog 90 #[.pointer (some ⟨g, 0, none⟩)] w (DrawGIB g w) := by
  have HS := Lib.hid h
  have hg := h.lt
  clear h
  go_enter Try.func90, Try.ntmps90
  go_wp2_with fail
  refine (draw11B g _ (HS.out.alloc _)).mono ?_
  rintro e w2 ⟨x, q, n, c, l, rfl, ho, hn60, wfx, hs, ht⟩
  have hq := (ho.lt (k := q) rfl).1
  have hql := (ho.lt (k := q) rfl).2
  simp at hq
  have hb1 : w.heap.size < w2.heap.size := by omega
  have HGD0 : Hid (GD g w.heap.size w2.heap.size w (w2.alloc (.cells #[.int .i64 x, .slice (some ⟨q, 0, none⟩) n c] 41)) x q n c l) := by
    have hb2 := b_alloc w2 (.cells #[.int .i64 x, .slice (some ⟨q, 0, none⟩) n c] 41)
    have hr := (resG_new w 41).thr ht hg
    have ht1 := ((Thr.refl g w).alloc (Nat.le_of_lt hg) _).trans ht
    exact ⟨hr.below hb2, by simp [go_sem], by simp [go_sem], by simp [go_sem], by simp [go_sem], (ho.below hb2).mono (by simp), by omega, by omega, by omega, Nat.le_refl _, by omega, by omega, hg, hs.below (hb2.mono (by omega)), ht1.trans (Thr.of_below hb2 (by omega))⟩
  obtain ⟨gb, hgb⟩ : ∃ b, b = w2.heap.size := ⟨_, rfl⟩
  obtain ⟨w3, hw3⟩ : ∃ z, z = w2.alloc (.cells #[.int .i64 x, .slice (some ⟨q, 0, none⟩) n c] 41) := ⟨_, rfl⟩
  rw [← hw3, ← hgb] at HGD0
  have HW3 := Lib.hid hw3.symm
  have HGb := Lib.hid hgb.symm
  obtain ⟨-, hx0, hx11⟩ := wfx
  clear ho hs ht hw3 hgb hq hql hb1
  go_upto_region 2 with fail
  rw [HW3.out, HGb.out]
  clear HW3 HGb
  go_wp2_with fail
  refine (next _ _ _ (by decide) HGD0.out.src).mono ?_
  rintro z w4 ⟨y1, rfl, -, -, hs, ht⟩
  have HGD4 := Lib.hid (HGD0.out.step hs ht)
  clear hs ht HGD0
  go_upto_if 9 with fail
  go_cut [4] (fun bv wx => bv = .pointer (some ⟨gb, 0, none⟩) ∧ ∃ (x : Int) (q n c : Nat) (l : List M.Pc), GD g w.heap.size gb w wx x q n c l ∧ n ≤ 60 ∧ 0 ≤ x ∧ x ≤ 11)
  case first =>
    by_cases hy1 : y1 = 0
    · subst hy1
      go_wp2_with fail
      refine (draw12B g _ HGD4.out.src).mono ?_
      rintro e w5 ⟨x5, q5, n5, c5, l5, rfl, ho5, hn5, ⟨-, hx50, hx511⟩, hs, ht⟩
      have HGD5 := Lib.hid (HGD4.out.step hs ht)
      have hgl : gb < w4.heap.size := cell_lt HGD4.out.ev
      have hrl : w.heap.size < w4.heap.size := cell_lt HGD4.out.res.1
      have HGD6 := Lib.hid (HGD5.out.swap (x' := x5) ho5 hgl hrl)
      have hev := HGD5.out.ev
      have hpl := HGD5.out.pl
      have hf0 := HGD5.out.f0
      have hf1 := HGD5.out.f1
      clear hs ht ho5 HGD4 HGD5
      go_wp2
      go_meet
      exact ⟨rfl, _, _, _, _, _, HGD6.out, hn5, hx50, hx511⟩
    · have hyb : (y1 == 0) = false := by simpa using hy1
      go_wp2
      go_meet
      exact ⟨rfl, _, _, _, _, _, HGD4.out, hn60, hx0, hx11⟩
  case rest =>
    obtain ⟨w6, hw6⟩ : ∃ z, z = wc := ⟨_, rfl⟩
    subst hw6
    clear hx0 hx11 hn60 HGD4
    obtain ⟨rfl, x, q, n, c, l, hGD, hn60, hx0, hx11⟩ := hcut
    have HGD6 := Lib.hid hGD
    clear hGD
    go_wp2_with fail
    refine (next _ _ _ (by decide) HGD6.out.src).mono ?_
    rintro z w7 ⟨y2, rfl, -, -, hs, ht⟩
    have HGD7 := Lib.hid (HGD6.out.step hs ht)
    have hgg : g < w.heap.size := HGD7.out.ls
    have hgl : gb < w7.heap.size := cell_lt HGD7.out.ev
    have hrl : w.heap.size < w7.heap.size := cell_lt HGD7.out.res.1
    have hgr := HGD7.out.gr
    have hlg := HGD7.out.lg
    have HS0 : Hid (∀ w', GD g w.heap.size gb w w' x q n c l → w'.cell? ⟨gb, 0, none⟩ = some (.int .i64 x) ∧ w'.cell? ⟨gb, 1, none⟩ = some (.slice (some ⟨q, 0, none⟩) n c) ∧ True) := fun w' h => ⟨h.ev, h.pl, trivial⟩
    have HSf : Hid (∀ w', GD g w.heap.size gb w w' x q n c l → ((w'.setCell ⟨w.heap.size, 0, none⟩ (.int .i64 x)).setCell ⟨w.heap.size, 1, none⟩ (.slice (some ⟨q, 0, none⟩) n c)).cell? ⟨gb, 0, none⟩ = some (.int .i64 x) ∧ ((w'.setCell ⟨w.heap.size, 0, none⟩ (.int .i64 x)).setCell ⟨w.heap.size, 1, none⟩ (.slice (some ⟨q, 0, none⟩) n c)).cell? ⟨gb, 1, none⟩ = some (.slice (some ⟨q, 0, none⟩) n c) ∧ True) := fun w' h => by
      have hk := (Below.heap_setCell (w'.setCell ⟨w.heap.size, 0, none⟩ (.int .i64 x)) ⟨w.heap.size, 1, none⟩ (.slice (some ⟨q, 0, none⟩) n c) gb (by show gb ≠ w.heap.size; omega)).trans (Below.heap_setCell w' ⟨w.heap.size, 0, none⟩ (.int .i64 x) gb (by show gb ≠ w.heap.size; omega))
      exact ⟨(World.cell?_of_block (a := ⟨gb, 0, none⟩) hk).trans h.ev, (World.cell?_of_block (a := ⟨gb, 1, none⟩) hk).trans h.pl, trivial⟩
    have HGDd := Lib.hid (HGD7.out.below (b_draws w7 1))
    clear hs ht HGD6
    by_cases hy2 : y2 = 0
    · subst hy2
      have HGDa := Lib.hid (HGDd.out.below (b_alloc w7.drew (.cells #[.int .i64 (-1), .int .i64 0, .int .i64 50, .int .i64 51] 2)))
      go_wp2
      refine wp_region_held_drew (S := fun w' => w'.cell? ⟨gb, 0, none⟩ = some (.int .i64 x) ∧ w'.cell? ⟨gb, 1, none⟩ = some (.slice (some ⟨q, 0, none⟩) n c) ∧ True) (by kernel_rfl) ?_ (fun hHeld => ?_)
      · exact HS0.out _ HGDd.out
      refine wpAnyH_take (i := 0) (v := ?vp0) rfl (by kernel_rfl) (by kernel_rfl) (by kernel_rfl) (fun _ _ _ h => h) (Or.inl ⟨by rfl, ?hyp0⟩) (by assumption) ?restp0
      case hyp0 => (intro wy hSw; (try dsimp only at hSw); obtain ⟨s0, s1, s2⟩ := hSw; go_simp; try with_reducible rfl)
      (try simp only [Act.put, List.getElem_toArray, List.getElem_cons_zero, List.getElem_cons_succ, List.setIfInBounds_toArray, List.set_cons_zero, List.set_cons_succ])
      refine wpAnyH_take (i := 1) (v := ?vp1) rfl (by kernel_rfl) (by kernel_rfl) (by kernel_rfl) (fun _ _ _ h => h) (Or.inl ⟨by rfl, ?hyp1⟩) (by assumption) ?restp1
      case hyp1 => (intro wy hSw; (try dsimp only at hSw); obtain ⟨s0, s1, s2⟩ := hSw; go_simp; try with_reducible rfl)
      (try simp only [Act.put, List.getElem_toArray, List.getElem_cons_zero, List.getElem_cons_succ, List.setIfInBounds_toArray, List.set_cons_zero, List.set_cons_succ])
      refine wpAnyH_ready (rs := [2]) (by kernel_rfl) (by simp) (AllReadyH.cons rfl (fun K hK => ?_) AllReadyH.nil)
      go_simp
      refine hK.out _ _ (HS0.out _ HGDa.out) (fun hHeld => ?_)
      clear hK K
      (try simp only [Act.put, List.getElem_toArray, List.getElem_cons_zero, List.getElem_cons_succ, List.setIfInBounds_toArray, List.set_cons_zero, List.set_cons_succ])
      refine wpAnyH_ready (rs := [3]) (by kernel_rfl) (by simp) (AllReadyH.cons rfl (fun K hK => ?_) AllReadyH.nil)
      go_simp
      refine (pick g w7.heap.size 0 4 4 _ HGDa.out.src (by omega) (by omega) (by omega) (litCells w7.drew [-1, 0, 50, 51] _ _ rfl (by decide))).mono ?_
      rintro e w9 ⟨y, rfl, -, hs, ht⟩
      have HGD9 := Lib.hid (HGDa.out.step hs ht)
      clear hs ht
      refine hK.out _ _ (HS0.out _ HGD9.out) (fun hHeld => ?_)
      clear hK K
      (try simp only [Act.put, List.getElem_toArray, List.getElem_cons_zero, List.getElem_cons_succ, List.setIfInBounds_toArray, List.set_cons_zero, List.set_cons_succ])
      obtain ⟨r0, r1, r2, r3⟩ := HGD9.out.res
      have hrl9 : w.heap.size < w9.heap.size := cell_lt r0
      refine wpAnyH_ready (rs := [4]) (by kernel_rfl) (by simp) (AllReadyH.cons rfl (fun K hK => ?_) AllReadyH.nil)
      go_simp
      refine hK.out _ _ (HSf.out _ HGD9.out) (fun hHeld => ?_)
      clear hK K
      (try simp only [Act.put, List.getElem_toArray, List.getElem_cons_zero, List.getElem_cons_succ, List.setIfInBounds_toArray, List.set_cons_zero, List.set_cons_succ])
      clear r0 r1 r2 r3 hrl9
      refine wpAnyH_ready (rs := [5]) (by kernel_rfl) (by simp) (AllReadyH.cons rfl (fun K hK => ?_) AllReadyH.nil)
      go_simp
      refine hK.out _ _ (HSf.out _ HGD9.out) (fun hHeld => ?_)
      clear hK K
      (try simp only [Act.put, List.getElem_toArray, List.getElem_cons_zero, List.getElem_cons_succ, List.setIfInBounds_toArray, List.set_cons_zero, List.set_cons_succ])
      refine wpAnyH_done (by kernel_rfl) ?_ _
      obtain ⟨r0, r1, r2, r3⟩ := HGD9.out.res
      have HF := Lib.hid (HGD9.out.fin)
      have hrl9 : w.heap.size < w9.heap.size := cell_lt r0
      go_wp2
      exact bodyPost_ret (v := .tuple #[.agg #[.int .i64 x, .slice (some ⟨q, 0, none⟩) n c], .int .i64 y]) (by simp [results, Try.results90, go_sem, r0, r1, hrl9]) rfl ⟨_, _, _, _, _, _, rfl, HF.out.1, hn60, ⟨hx0, hx11⟩, HF.out.2.1, HF.out.2.2⟩
    · have hyb : (y2 == 0) = false := by simpa using hy2
      clear hy2
      go_wp2
      refine wp_region_held_drew (S := fun w' => w'.cell? ⟨gb, 0, none⟩ = some (.int .i64 x) ∧ w'.cell? ⟨gb, 1, none⟩ = some (.slice (some ⟨q, 0, none⟩) n c) ∧ True) (by kernel_rfl) ?_ (fun hHeld => ?_)
      · exact HS0.out _ HGDd.out
      refine wpAnyH_take (i := 0) (v := ?vn0) rfl (by kernel_rfl) (by kernel_rfl) (by kernel_rfl) (fun _ _ _ h => h) (Or.inl ⟨by rfl, ?hyn0⟩) (by assumption) ?restn0
      case hyn0 => (intro wy hSw; (try dsimp only at hSw); obtain ⟨s0, s1, s2⟩ := hSw; go_simp; try with_reducible rfl)
      (try simp only [Act.put, List.getElem_toArray, List.getElem_cons_zero, List.getElem_cons_succ, List.setIfInBounds_toArray, List.set_cons_zero, List.set_cons_succ])
      refine wpAnyH_take (i := 1) (v := ?vn1) rfl (by kernel_rfl) (by kernel_rfl) (by kernel_rfl) (fun _ _ _ h => h) (Or.inl ⟨by rfl, ?hyn1⟩) (by assumption) ?restn1
      case hyn1 => (intro wy hSw; (try dsimp only at hSw); obtain ⟨s0, s1, s2⟩ := hSw; go_simp; try with_reducible rfl)
      (try simp only [Act.put, List.getElem_toArray, List.getElem_cons_zero, List.getElem_cons_succ, List.setIfInBounds_toArray, List.set_cons_zero, List.set_cons_succ])
      refine wpAnyH_ready (rs := [2]) (by kernel_rfl) (by simp) (AllReadyH.cons rfl (fun K hK => ?_) AllReadyH.nil)
      go_simp
      refine (next _ _ _ (by decide) HGDd.out.src).mono ?_
      rintro e w9 ⟨y, rfl, -, -, hs, ht⟩
      have HGD9 := Lib.hid (HGDd.out.step hs ht)
      clear hs ht
      refine hK.out _ _ (HS0.out _ HGD9.out) (fun hHeld => ?_)
      clear hK K
      (try simp only [Act.put, List.getElem_toArray, List.getElem_cons_zero, List.getElem_cons_succ, List.setIfInBounds_toArray, List.set_cons_zero, List.set_cons_succ])
      obtain ⟨r0, r1, r2, r3⟩ := HGD9.out.res
      have hrl9 : w.heap.size < w9.heap.size := cell_lt r0
      refine wpAnyH_ready (rs := [3]) (by kernel_rfl) (by simp) (AllReadyH.cons rfl (fun K hK => ?_) AllReadyH.nil)
      go_simp
      refine hK.out _ _ (HSf.out _ HGD9.out) (fun hHeld => ?_)
      clear hK K
      (try simp only [Act.put, List.getElem_toArray, List.getElem_cons_zero, List.getElem_cons_succ, List.setIfInBounds_toArray, List.set_cons_zero, List.set_cons_succ])
      clear r0 r1 r2 r3 hrl9
      refine wpAnyH_ready (rs := [4]) (by kernel_rfl) (by simp) (AllReadyH.cons rfl (fun K hK => ?_) AllReadyH.nil)
      go_simp
      refine hK.out _ _ (HSf.out _ HGD9.out) (fun hHeld => ?_)
      clear hK K
      (try simp only [Act.put, List.getElem_toArray, List.getElem_cons_zero, List.getElem_cons_succ, List.setIfInBounds_toArray, List.set_cons_zero, List.set_cons_succ])
      refine wpAnyH_done (by kernel_rfl) ?_ _
      obtain ⟨r0, r1, r2, r3⟩ := HGD9.out.res
      have HF := Lib.hid (HGD9.out.fin)
      have hrl9 : w.heap.size < w9.heap.size := cell_lt r0
      go_wp2
      exact bodyPost_ret (v := .tuple #[.agg #[.int .i64 x, .slice (some ⟨q, 0, none⟩) n c], .int .i64 y]) (by simp [results, Try.results90, go_sem, r0, r1, hrl9]) rfl ⟨_, _, _, _, _, _, rfl, HF.out.1, hn60, ⟨hx0, hx11⟩, HF.out.2.1, HF.out.2.2⟩
end V
end Go.Proofs.Ytjbffpmelglegaa
