/- Texts laid together: Dge, Fga, Fgb, Fgc. -/
import Derived.Test.YtjbffpmelglegaaQa35
import Derived.Test.YtjbffpmelglegaaQa93
import Derived.Test.YtjbffpmelglegaaQa94
import Derived.Test.YtjbffpmelglegaaQa49
import Derived.Test.YtjbffpmelglegaaQa54
import Derived.Test.YtjbffpmelglegaaQa21
import Derived.Deep.RegionLaw
set_option linter.unusedSimpArgs false
set_option linter.unusedVariables false
set_option linter.unusedSectionVars false
namespace Go.Proofs.Ytjbffpmelglegaa
namespace V
set_option maxRecDepth 100000
open Go.RowKit
/-- A drawn graph and a drawn number, for a law. -/
def DrawnGI (w : World) (e : Ending) (w' : World) : Prop :=
  ∃ (x : Int) (q n c : Nat) (l : List M.Pc) (y : Int), e = .returned (.tuple #[.agg #[.int .i64 x, .slice (some ⟨q, 0, none⟩) n c], .int .i64 y]) ∧ OwnPl w' w.heap.size (.slice (some ⟨q, 0, none⟩) n c) l ∧ n ≤ 60 ∧ Below w.heap.size w w'
end V
end Go.Proofs.Ytjbffpmelglegaa

namespace Go.Proofs.Ytjbffpmelglegaa
namespace V
set_option maxRecDepth 100000
open Go.RowKit
set_option maxRecDepth 100000 in
set_option maxHeartbeats 2000000 in
theorem drawFiringTimes (a : Option Addr) (m cap : Nat) (w : World) (h : Bytes w a m) :
    Calls Try.prog 44 #[.slice a m cap] w (DrawnGI w) := by
  have hb0 := b_alloc w (.cells #[.int .i64 0, .slice none 0 0] 41)
  have HB := Lib.hid (h.below hb0)
  have HB0 := Lib.hid hb0
  clear h hb0
  go_enter Try.func44, Try.ntmps44
  go_wp2_with fail
  refine (from_ _ _ _ _ HB.out).mono ?_
  rintro e w1 ⟨rfl, hs1, hb1⟩
  have HR1 := Lib.hid ((resG_new w 41).below hb1)
  have HB1 := Lib.hid (HB0.out.trans (hb1.mono HB0.out.size))
  have HS1 := Lib.hid hs1
  have hgz : w.heap.size < (w.alloc (.cells #[.int .i64 0, .slice none 0 0] 41)).heap.size := by simp
  obtain ⟨g, hgd⟩ : ∃ g, g = (w.alloc (.cells #[.int .i64 0, .slice none 0 0] 41)).heap.size := ⟨_, rfl⟩
  rw [← hgd] at HS1 hgz
  have HGd := Lib.hid hgd
  clear hs1 hb1 hgd
  go_wp2_with fail
  refine (draw13 _ _ (by first | exact HS1.out | (have := HS1.out; rw [HGd.out] at this; simpa using this))).mono ?_
  rintro e w2 ⟨x, q, n, c, l, y, rfl, ho, hn60, wfx, hs, ht⟩
  have hg1 := HS1.out.lt
  have hR2 : ResG w2 w.heap.size := by
    obtain ⟨r0, r1, r2, r3⟩ := HR1.out
    have hl : w.heap.size < w.heap.size + 1 := Nat.lt_succ_self _
    exact ⟨(ht.below.cell (p := ⟨w.heap.size, 0, none⟩) hl).trans r0, (ht.below.cell (p := ⟨w.heap.size, 1, none⟩) hl).trans r1, (ht.below.frozen (p := ⟨w.heap.size, 0, none⟩) hl).trans r2, (ht.below.frozen (p := ⟨w.heap.size, 1, none⟩) hl).trans r3⟩
  have hB2 := Lib.hid (HB1.out.trans (ht.below.mono (by omega)))
  have HO2 := Lib.hid ho
  have HQ : Hid (w.heap.size < q) := by have h1 := (ho.lt (k := q) rfl).1; have h2 := hg1; show _ < _; omega
  have HSz : Hid (w.heap.size ≤ w1.heap.size) := HB1.out.size
  have hrl : w.heap.size < w2.heap.size := cell_lt hR2.1
  obtain ⟨r0, r1, r2, r3⟩ := hR2
  clear ho hs ht wfx hg1 hgz
  go_wp2
  refine bodyPost_ret (v := .tuple #[.agg #[.int .i64 x, .slice (some ⟨q, 0, none⟩) n c], .int .i64 y]) (by simp [results, Try.results44, go_sem, r0, r1, hrl]) rfl ⟨x, q, n, c, l, y, rfl, ?_, hn60, ?_⟩
  · refine (HO2.out.mono HSz.out).keepB fun k hk => ?_
    have hkq : k = q := by simp [Value.ownBlock] at hk; exact hk.symm
    subst hkq
    have := HQ.out
    exact (Below.heap_setCell _ _ _ _ (by show k ≠ w.heap.size; omega)).trans (Below.heap_setCell _ _ _ _ (by show k ≠ w.heap.size; omega))
  · exact (hB2.out.setCell (p := ⟨w.heap.size, 0, none⟩) (Nat.le_refl _) _).setCell (p := ⟨w.heap.size, 1, none⟩) (Nat.le_refl _) _
end V
end Go.Proofs.Ytjbffpmelglegaa

namespace Go.Proofs.Ytjbffpmelglegaa
namespace V
set_option maxRecDepth 100000
open Go.RowKit
/-- Cells that hold integers. -/
def LitIs (w : World) (b n : Nat) : Prop := ∀ i, i < n → ∃ x : Int, True ∧ w.cell? ⟨b, 0 + i, none⟩ = some (.int .i64 x)
theorem LitIs.thr {w w' : World} {b n g : Nat} (h : LitIs w b n) (ht : Thr g w w') (hb : g < b) : LitIs w' b n := fun i hi => by
  obtain ⟨x, -, hx⟩ := h i hi
  exact ⟨x, trivial, (ht.cell (cell_lt hx) (by show b ≠ g; omega)).trans hx⟩
theorem LitIs.below {w w' : World} {b n : Nat} (h : LitIs w b n) (hb : Below w.heap.size w w') : LitIs w' b n := fun i hi => by
  obtain ⟨x, -, hx⟩ := h i hi
  exact ⟨x, trivial, (hb.cell (cell_lt hx)).trans hx⟩
theorem lit3 (w : World) (a b c : Int) : LitIs (w.alloc (.cells #[.int .i64 a, .int .i64 b, .int .i64 c] 2)) w.heap.size 3 := fun i hi => by
  have : i = 0 ∨ i = 1 ∨ i = 2 := by omega
  rcases this with rfl | rfl | rfl
  · exact ⟨a, trivial, by simp [go_sem]⟩
  · exact ⟨b, trivial, by simp [go_sem]⟩
  · exact ⟨c, trivial, by simp [go_sem]⟩
theorem lit4 (w : World) (a b c d : Int) : LitIs (w.alloc (.cells #[.int .i64 a, .int .i64 b, .int .i64 c, .int .i64 d] 2)) w.heap.size 4 := fun i hi => by
  have : i = 0 ∨ i = 1 ∨ i = 2 ∨ i = 3 := by omega
  rcases this with rfl | rfl | rfl | rfl
  · exact ⟨a, trivial, by simp [go_sem]⟩
  · exact ⟨b, trivial, by simp [go_sem]⟩
  · exact ⟨c, trivial, by simp [go_sem]⟩
  · exact ⟨d, trivial, by simp [go_sem]⟩
theorem DS.gbl {g R gb B : Nat} {w wr : World} {x : Int} {q n c : Nat} {l : List M.Pc} (h : DS g R gb B w wr x q n c l) : gb < wr.heap.size := cell_lt h.ev
theorem DS.gl {g R gb B : Nat} {w wr : World} {x : Int} {q n c : Nat} {l : List M.Pc} (h : DS g R gb B w wr x q n c l) : g < wr.heap.size := by
  have h1 := h.gbl
  have h2 := h.gB
  have h3 := h.Bq
  have h4 := (h.own.lt (k := q) rfl).1
  omega
/-- A drawn graph, a drawn event and a drawn number, for a law. -/
def DrawnGII (w : World) (e : Ending) (w' : World) : Prop :=
  ∃ (x : Int) (q n c : Nat) (l : List M.Pc) (y k : Int), e = .returned (.tuple #[.agg #[.int .i64 x, .slice (some ⟨q, 0, none⟩) n c], .int .i64 y, .int .i64 k]) ∧ Pls w' (some ⟨q, 0, none⟩) n l ∧ n ≤ 60 ∧ Below w.heap.size w w'
set_option maxRecDepth 100000 in
set_option maxHeartbeats 8000000 in
theorem drawFiringTime (a : Option Addr) (mm cap : Nat) (w : World) (h : Bytes w a mm) :
    Calls Try.prog 47 #[.slice a mm cap] w (DrawnGII w) := by
  have hb0 := b_alloc w (.cells #[.int .i64 0, .slice none 0 0] 41)
  have HB := Lib.hid (h.below hb0)
  have HB0 := Lib.hid hb0
  clear h hb0
  go_enter Try.func47, Try.ntmps47
  go_wp2_with fail
  refine (from_ _ _ _ _ HB.out).mono ?_
  rintro e w1 ⟨rfl, hs1, hb1⟩
  have HR1 := Lib.hid ((resG_new w 41).below hb1)
  have HB1 := Lib.hid (HB0.out.trans (hb1.mono HB0.out.size))
  have HS1 := Lib.hid hs1
  have hgz : (w.alloc (.cells #[.int .i64 0, .slice none 0 0] 41)).heap.size = w.heap.size + 1 := by simp
  rw [hgz] at HS1
  clear hs1 hb1
  go_wp2_with fail
  refine (drawEvent11 (w.heap.size + 1) _ (by first | exact HS1.out | (have := HS1.out; simpa using this))).mono ?_
  rintro e w2 ⟨x, q, n, c, l, y, rfl, ho, hn60, -, hs, ht⟩
  have hg1 := HS1.out.lt
  have hq1 := (ho.lt (k := q) rfl).1
  have hq2 := (ho.lt (k := q) rfl).2
  have HDS : Hid (DS (w.heap.size + 1) w.heap.size w2.heap.size w1.heap.size w (w2.alloc (.cells #[.int .i64 x, .slice (some ⟨q, 0, none⟩) n c] 41)) x q n c l) := by
    have hb2 := b_alloc w2 (.cells #[.int .i64 x, .slice (some ⟨q, 0, none⟩) n c] 41)
    obtain ⟨r0, r1, r2, r3⟩ := HR1.out
    have hl : w.heap.size < w.heap.size + 1 := Nat.lt_succ_self _
    have hr2 : ResG w2 w.heap.size := ⟨(ht.below.cell (p := ⟨w.heap.size, 0, none⟩) hl).trans r0, (ht.below.cell (p := ⟨w.heap.size, 1, none⟩) hl).trans r1, (ht.below.frozen (p := ⟨w.heap.size, 0, none⟩) hl).trans r2, (ht.below.frozen (p := ⟨w.heap.size, 1, none⟩) hl).trans r3⟩
    exact ⟨hr2.below hb2, by simp [go_sem], by simp [go_sem], ho.below hb2, by omega, by omega, hq2, Nat.le_refl _, hs.below (hb2.mono (by omega)), (HB1.out.trans (ht.below.mono (by omega))).trans (hb2.mono (by omega))⟩
  obtain ⟨gb, hgb⟩ : ∃ b, b = w2.heap.size := ⟨_, rfl⟩
  obtain ⟨w3, hw3⟩ : ∃ z, z = w2.alloc (.cells #[.int .i64 x, .slice (some ⟨q, 0, none⟩) n c] 41) := ⟨_, rfl⟩
  rw [← hw3, ← hgb] at HDS
  have HW3 := Lib.hid hw3.symm
  have HGb := Lib.hid hgb.symm
  clear ho hs ht hw3 hgb hq1 hq2 hgz HR1
  go_upto_region 3 with fail
  rw [HW3.out, HGb.out]
  clear HW3 HGb
  have HS0 : Hid (∀ w', DS (w.heap.size + 1) w.heap.size gb w1.heap.size w w' x q n c l → w'.cell? ⟨gb, 0, none⟩ = some (.int .i64 x) ∧ w'.cell? ⟨gb, 1, none⟩ = some (.slice (some ⟨q, 0, none⟩) n c) ∧ True) := fun w' h => ⟨h.ev, h.pl, trivial⟩
  have HSf : Hid (∀ w', DS (w.heap.size + 1) w.heap.size gb w1.heap.size w w' x q n c l → ((w'.setCell ⟨w.heap.size, 0, none⟩ (.int .i64 x)).setCell ⟨w.heap.size, 1, none⟩ (.slice (some ⟨q, 0, none⟩) n c)).cell? ⟨gb, 0, none⟩ = some (.int .i64 x) ∧ ((w'.setCell ⟨w.heap.size, 0, none⟩ (.int .i64 x)).setCell ⟨w.heap.size, 1, none⟩ (.slice (some ⟨q, 0, none⟩) n c)).cell? ⟨gb, 1, none⟩ = some (.slice (some ⟨q, 0, none⟩) n c) ∧ True) := fun w' h => by
    have hq1 := h.Bq
    have hq2 := (h.own.lt (k := q) rfl).1
    have hq3 := h.gB
    have hk := (Below.heap_setCell (w'.setCell ⟨w.heap.size, 0, none⟩ (.int .i64 x)) ⟨w.heap.size, 1, none⟩ (.slice (some ⟨q, 0, none⟩) n c) gb (by show gb ≠ w.heap.size; omega)).trans (Below.heap_setCell w' ⟨w.heap.size, 0, none⟩ (.int .i64 x) gb (by show gb ≠ w.heap.size; omega))
    exact ⟨(World.cell?_of_block (a := ⟨gb, 0, none⟩) hk).trans h.ev, (World.cell?_of_block (a := ⟨gb, 1, none⟩) hk).trans h.pl, trivial⟩
  have HD0 := Lib.hid (HDS.out.base HDS.out.gbl (b_draws w3 1))
  clear HDS
  go_wp2
  refine wp_region_held_drew (S := fun w' => w'.cell? ⟨gb, 0, none⟩ = some (.int .i64 x) ∧ w'.cell? ⟨gb, 1, none⟩ = some (.slice (some ⟨q, 0, none⟩) n c) ∧ True) (by kernel_rfl) ?_ (fun hHeld => ?_)
  · exact HS0.out _ HD0.out
  refine wpAnyH_take (i := 0) (v := ?vp10) rfl (by kernel_rfl) (by kernel_rfl) (by kernel_rfl) (fun _ _ _ h => h) (Or.inl ⟨by rfl, ?hyp10⟩) (by assumption) ?restp10
  case hyp10 => (intro wy hSw; (try dsimp only at hSw); obtain ⟨s0, s1, s2⟩ := hSw; go_simp; try with_reducible rfl)
  (try simp only [Act.put, List.getElem_toArray, List.getElem_cons_zero, List.getElem_cons_succ, List.setIfInBounds_toArray, List.set_cons_zero, List.set_cons_succ])
  refine wpAnyH_take (i := 1) (v := ?vp11) rfl (by kernel_rfl) (by kernel_rfl) (by kernel_rfl) (fun _ _ _ h => h) (Or.inl ⟨by rfl, ?hyp11⟩) (by assumption) ?restp11
  case hyp11 => (intro wy hSw; (try dsimp only at hSw); obtain ⟨s0, s1, s2⟩ := hSw; go_simp; try with_reducible rfl)
  (try simp only [Act.put, List.getElem_toArray, List.getElem_cons_zero, List.getElem_cons_succ, List.setIfInBounds_toArray, List.set_cons_zero, List.set_cons_succ])
  refine wpAnyH_take (i := 2) (v := ?vp12) rfl (by kernel_rfl) (by kernel_rfl) (by kernel_rfl) (fun _ _ _ h => h) (Or.inl ⟨by rfl, ?hyp12⟩) (by assumption) ?restp12
  case hyp12 => (intro wy hSw; (try dsimp only at hSw); obtain ⟨s0, s1, s2⟩ := hSw; go_simp; try with_reducible rfl)
  (try simp only [Act.put, List.getElem_toArray, List.getElem_cons_zero, List.getElem_cons_succ, List.setIfInBounds_toArray, List.set_cons_zero, List.set_cons_succ])
  refine wpAnyH_take (i := 3) (v := ?vp13) rfl (by kernel_rfl) (by kernel_rfl) (by kernel_rfl) (fun _ _ _ h => h) (Or.inl ⟨by rfl, ?hyp13⟩) (by assumption) ?restp13
  case hyp13 => (intro wy hSw; (try dsimp only at hSw); obtain ⟨s0, s1, s2⟩ := hSw; go_simp; try with_reducible rfl)
  (try simp only [Act.put, List.getElem_toArray, List.getElem_cons_zero, List.getElem_cons_succ, List.setIfInBounds_toArray, List.set_cons_zero, List.set_cons_succ])
  refine wpAnyH_take (i := 6) (v := ?vp16) rfl (by kernel_rfl) (by kernel_rfl) (by kernel_rfl) (fun _ _ _ h => h) (Or.inl ⟨by rfl, ?hyp16⟩) (by assumption) ?restp16
  case hyp16 => (intro wy hSw; (try dsimp only at hSw); obtain ⟨s0, s1, s2⟩ := hSw; go_simp; try with_reducible rfl)
  (try simp only [Act.put, List.getElem_toArray, List.getElem_cons_zero, List.getElem_cons_succ, List.setIfInBounds_toArray, List.set_cons_zero, List.set_cons_succ])
  refine wpAnyH_take (i := 9) (v := ?vp19) rfl (by kernel_rfl) (by kernel_rfl) (by kernel_rfl) (fun _ _ _ h => h) (Or.inl ⟨by rfl, ?hyp19⟩) (by assumption) ?restp19
  case hyp19 => (intro wy hSw; (try dsimp only at hSw); obtain ⟨s0, s1, s2⟩ := hSw; go_simp; try with_reducible rfl)
  (try simp only [Act.put, List.getElem_toArray, List.getElem_cons_zero, List.getElem_cons_succ, List.setIfInBounds_toArray, List.set_cons_zero, List.set_cons_succ])
  refine wpAnyH_take (i := 12) (v := ?vp112) rfl (by kernel_rfl) (by kernel_rfl) (by kernel_rfl) (fun _ _ _ h => h) (Or.inl ⟨by rfl, ?hyp112⟩) (by assumption) ?restp112
  case hyp112 => (intro wy hSw; (try dsimp only at hSw); obtain ⟨s0, s1, s2⟩ := hSw; go_simp; try with_reducible rfl)
  (try simp only [Act.put, List.getElem_toArray, List.getElem_cons_zero, List.getElem_cons_succ, List.setIfInBounds_toArray, List.set_cons_zero, List.set_cons_succ])
  refine wpAnyH_ready (rs := [4, 13]) (by kernel_rfl) (by simp) (AllReadyH.cons rfl (fun K hK => ?_) (AllReadyH.cons rfl (fun K hK => ?_) AllReadyH.nil))
  · go_simp
    refine (next _ _ _ (by decide) HD0.out.src).mono ?_
    rintro e wc1 ⟨y1, rfl, h1, h2, hs, ht⟩
    have HD1 := Lib.hid (HD0.out.step hs ht)
    have hw0 : IntKind.i64.wrap (1 + y1) = 1 + y1 := IntWalk.i64_in _ (by omega)
    clear hs ht h1 h2 HD0
    refine hK.out _ _ (HS0.out _ HD1.out) (fun hHeld => ?_)
    clear hK K
    (try simp only [Act.put, List.getElem_toArray, List.getElem_cons_zero, List.getElem_cons_succ, List.setIfInBounds_toArray, List.set_cons_zero, List.set_cons_succ])
    refine wpAnyH_take (i := 5) (v := ?vp25) rfl (by kernel_rfl) (by kernel_rfl) (by kernel_rfl) (fun _ _ _ h => h) (Or.inl ⟨by rfl, ?hyp25⟩) (by assumption) ?restp25
    case hyp25 => (intro wy hSw; (try dsimp only at hSw); obtain ⟨s0, s1, s2⟩ := hSw; go_simp; try with_reducible rfl)
    (try simp only [Act.put, List.getElem_toArray, List.getElem_cons_zero, List.getElem_cons_succ, List.setIfInBounds_toArray, List.set_cons_zero, List.set_cons_succ])
    clear hw0
    refine wpAnyH_ready (rs := [7, 13]) (by kernel_rfl) (by simp) (AllReadyH.cons rfl (fun K hK => ?_) (AllReadyH.cons rfl (fun K hK => ?_) AllReadyH.nil))
    · go_simp
      refine (next _ _ _ (by decide) HD1.out.src).mono ?_
      rintro e wc2 ⟨y2, rfl, h1, h2, hs, ht⟩
      have HD2 := Lib.hid (HD1.out.step hs ht)
      have hw1 : IntKind.i64.wrap (1 + y2) = 1 + y2 := IntWalk.i64_in _ (by omega)
      clear hs ht h1 h2 HD1
      refine hK.out _ _ (HS0.out _ HD2.out) (fun hHeld => ?_)
      clear hK K
      (try simp only [Act.put, List.getElem_toArray, List.getElem_cons_zero, List.getElem_cons_succ, List.setIfInBounds_toArray, List.set_cons_zero, List.set_cons_succ])
      refine wpAnyH_take (i := 8) (v := ?vp38) rfl (by kernel_rfl) (by kernel_rfl) (by kernel_rfl) (fun _ _ _ h => h) (Or.inl ⟨by rfl, ?hyp38⟩) (by assumption) ?restp38
      case hyp38 => (intro wy hSw; (try dsimp only at hSw); obtain ⟨s0, s1, s2⟩ := hSw; go_simp; try with_reducible rfl)
      (try simp only [Act.put, List.getElem_toArray, List.getElem_cons_zero, List.getElem_cons_succ, List.setIfInBounds_toArray, List.set_cons_zero, List.set_cons_succ])
      clear hw1
      refine wpAnyH_ready (rs := [10, 13]) (by kernel_rfl) (by simp) (AllReadyH.cons rfl (fun K hK => ?_) (AllReadyH.cons rfl (fun K hK => ?_) AllReadyH.nil))
      · go_simp
        refine (next _ _ _ (by decide) HD2.out.src).mono ?_
        rintro e wc3 ⟨y3, rfl, h1, h2, hs, ht⟩
        have HD3 := Lib.hid (HD2.out.step hs ht)
        have hw2 : IntKind.i64.wrap (1 + y3) = 1 + y3 := IntWalk.i64_in _ (by omega)
        clear hs ht h1 h2 HD2
        refine hK.out _ _ (HS0.out _ HD3.out) (fun hHeld => ?_)
        clear hK K
        (try simp only [Act.put, List.getElem_toArray, List.getElem_cons_zero, List.getElem_cons_succ, List.setIfInBounds_toArray, List.set_cons_zero, List.set_cons_succ])
        refine wpAnyH_take (i := 11) (v := ?vp411) rfl (by kernel_rfl) (by kernel_rfl) (by kernel_rfl) (fun _ _ _ h => h) (Or.inl ⟨by rfl, ?hyp411⟩) (by assumption) ?restp411
        case hyp411 => (intro wy hSw; (try dsimp only at hSw); obtain ⟨s0, s1, s2⟩ := hSw; go_simp; try with_reducible rfl)
        (try simp only [Act.put, List.getElem_toArray, List.getElem_cons_zero, List.getElem_cons_succ, List.setIfInBounds_toArray, List.set_cons_zero, List.set_cons_succ])
        clear hw2
        refine wpAnyH_ready (rs := [13]) (by kernel_rfl) (by simp) (AllReadyH.cons rfl (fun K hK => ?_) AllReadyH.nil)
        go_simp
        have HD4 := Lib.hid (HD3.out.base HD3.out.gbl (b_alloc _ (.cells #[.int .i64 0, .int .i64 50, .int .i64 51] 2)))
        have hbl := HD3.out.gl
        have HL4 := Lib.hid (lit3 wc3 0 50 51)
        clear HD3
        refine hK.out _ _ (HS0.out _ HD4.out) (fun hHeld => ?_)
        clear hK K
        (try simp only [Act.put, List.getElem_toArray, List.getElem_cons_zero, List.getElem_cons_succ, List.setIfInBounds_toArray, List.set_cons_zero, List.set_cons_succ])
        refine wpAnyH_ready (rs := [14]) (by kernel_rfl) (by simp) (AllReadyH.cons rfl (fun K hK => ?_) AllReadyH.nil)
        go_simp
        refine (pickB (fun _ => True) (w.heap.size + 1) _ 0 3 3 _ HD4.out.src (by omega) (by omega) hbl HL4.out).mono ?_
        rintro e wz1 ⟨y4, rfl, -, hs, ht⟩
        have HD5 := Lib.hid (HD4.out.step hs ht)
        clear hs ht HD4 HL4
        refine hK.out _ _ (HS0.out _ HD5.out) (fun hHeld => ?_)
        clear hK K
        (try simp only [Act.put, List.getElem_toArray, List.getElem_cons_zero, List.getElem_cons_succ, List.setIfInBounds_toArray, List.set_cons_zero, List.set_cons_succ])
        refine wpAnyH_ready (rs := [15]) (by kernel_rfl) (by simp) (AllReadyH.cons rfl (fun K hK => ?_) AllReadyH.nil)
        go_simp
        have HD6 := Lib.hid (HD5.out.base HD5.out.gbl (b_alloc _ (.cells #[.int .i64 (1 + y1), .int .i64 (1 + y2), .int .i64 (1 + y3), .int .i64 y4] 2)))
        have HL4 := Lib.hid (lit4 wz1 (1 + y1) (1 + y2) (1 + y3) y4)
        have hbl4 := HD5.out.gl
        refine hK.out _ _ (HS0.out _ HD6.out) (fun hHeld => ?_)
        clear hK K
        (try simp only [Act.put, List.getElem_toArray, List.getElem_cons_zero, List.getElem_cons_succ, List.setIfInBounds_toArray, List.set_cons_zero, List.set_cons_succ])
        refine wpAnyH_ready (rs := [16]) (by kernel_rfl) (by simp) (AllReadyH.cons rfl (fun K hK => ?_) AllReadyH.nil)
        go_simp
        refine (pickB (fun _ => True) (w.heap.size + 1) _ 0 4 4 _ HD6.out.src (by omega) (by omega) hbl4 HL4.out).mono ?_
        rintro e wz2 ⟨y5, rfl, -, hs, ht⟩
        have HD7 := Lib.hid (HD6.out.step hs ht)
        clear hs ht HD6 HD5 HL4
        refine hK.out _ _ (HS0.out _ HD7.out) (fun hHeld => ?_)
        clear hK K
        (try simp only [Act.put, List.getElem_toArray, List.getElem_cons_zero, List.getElem_cons_succ, List.setIfInBounds_toArray, List.set_cons_zero, List.set_cons_succ])
        obtain ⟨r0, r1, r2, r3⟩ := HD7.out.res
        have hrl9 : w.heap.size < wz2.heap.size := cell_lt r0
        refine wpAnyH_ready (rs := [17]) (by kernel_rfl) (by simp) (AllReadyH.cons rfl (fun K hK => ?_) AllReadyH.nil)
        go_simp
        refine hK.out _ _ (HSf.out _ HD7.out) (fun hHeld => ?_)
        clear hK K
        (try simp only [Act.put, List.getElem_toArray, List.getElem_cons_zero, List.getElem_cons_succ, List.setIfInBounds_toArray, List.set_cons_zero, List.set_cons_succ])
        clear r0 r1 r2 r3 hrl9
        refine wpAnyH_ready (rs := [18]) (by kernel_rfl) (by simp) (AllReadyH.cons rfl (fun K hK => ?_) AllReadyH.nil)
        go_simp
        refine hK.out _ _ (HSf.out _ HD7.out) (fun hHeld => ?_)
        clear hK K
        (try simp only [Act.put, List.getElem_toArray, List.getElem_cons_zero, List.getElem_cons_succ, List.setIfInBounds_toArray, List.set_cons_zero, List.set_cons_succ])
        refine wpAnyH_ready (rs := [19]) (by kernel_rfl) (by simp) (AllReadyH.cons rfl (fun K hK => ?_) AllReadyH.nil)
        go_simp
        refine hK.out _ _ (HSf.out _ HD7.out) (fun hHeld => ?_)
        clear hK K
        (try simp only [Act.put, List.getElem_toArray, List.getElem_cons_zero, List.getElem_cons_succ, List.setIfInBounds_toArray, List.set_cons_zero, List.set_cons_succ])
        refine wpAnyH_done (by kernel_rfl) ?_ _
        obtain ⟨r0, r1, r2, r3⟩ := HD7.out.res
        have hrl9 : w.heap.size < wz2.heap.size := cell_lt r0
        have hqB := (HD7.out.own.lt (k := q) rfl).1
        have hkp : ∀ z, z ≠ w.heap.size → ((wz2.setCell ⟨w.heap.size, 0, none⟩ (.int .i64 x)).setCell ⟨w.heap.size, 1, none⟩ (.slice (some ⟨q, 0, none⟩) n c)).heap[z]? = wz2.heap[z]? := fun z hz => (Below.heap_setCell _ _ _ _ (by show z ≠ w.heap.size; omega)).trans (Below.heap_setCell _ _ _ _ (by show z ≠ w.heap.size; omega))
        have HFp : Hid (Pls ((wz2.setCell ⟨w.heap.size, 0, none⟩ (.int .i64 x)).setCell ⟨w.heap.size, 1, none⟩ (.slice (some ⟨q, 0, none⟩) n c)) (some ⟨q, 0, none⟩) n l) := (HD7.out.own.keepB fun z hq => hkp z (by simp [Value.ownBlock] at hq; have := HD7.out.gB; omega)).pls
        have HFb := Lib.hid ((HD7.out.bel.setCell (p := ⟨w.heap.size, 0, none⟩) (Nat.le_refl _) (.int .i64 x)).setCell (p := ⟨w.heap.size, 1, none⟩) (Nat.le_refl _) (.slice (some ⟨q, 0, none⟩) n c))
        clear hkp
        go_wp2
        exact bodyPost_ret (v := .tuple #[.agg #[.int .i64 x, .slice (some ⟨q, 0, none⟩) n c], .int .i64 y, .int .i64 y5]) (by simp [results, Try.results47, go_sem, r0, r1, hrl9]) rfl ⟨_, _, _, _, _, _, _, rfl, HFp.out, hn60, HFb.out⟩
      · go_simp
        have HD3 := Lib.hid (HD2.out.base HD2.out.gbl (b_alloc _ (.cells #[.int .i64 0, .int .i64 50, .int .i64 51] 2)))
        have hbl := HD2.out.gl
        have HL3 := Lib.hid (lit3 wc2 0 50 51)
        clear HD2
        refine hK.out _ _ (HS0.out _ HD3.out) (fun hHeld => ?_)
        clear hK K
        (try simp only [Act.put, List.getElem_toArray, List.getElem_cons_zero, List.getElem_cons_succ, List.setIfInBounds_toArray, List.set_cons_zero, List.set_cons_succ])
        refine wpAnyH_ready (rs := [10]) (by kernel_rfl) (by simp) (AllReadyH.cons rfl (fun K hK => ?_) AllReadyH.nil)
        go_simp
        refine (next _ _ _ (by decide) HD3.out.src).mono ?_
        rintro e wc4 ⟨y3, rfl, h1, h2, hs, ht⟩
        have HD4 := Lib.hid (HD3.out.step hs ht)
        have hw2 : IntKind.i64.wrap (1 + y3) = 1 + y3 := IntWalk.i64_in _ (by omega)
        have HL4 := Lib.hid (HL3.out.thr ht hbl)
        clear HL3
        clear hs ht h1 h2 HD3
        refine hK.out _ _ (HS0.out _ HD4.out) (fun hHeld => ?_)
        clear hK K
        (try simp only [Act.put, List.getElem_toArray, List.getElem_cons_zero, List.getElem_cons_succ, List.setIfInBounds_toArray, List.set_cons_zero, List.set_cons_succ])
        refine wpAnyH_take (i := 11) (v := ?vp511) rfl (by kernel_rfl) (by kernel_rfl) (by kernel_rfl) (fun _ _ _ h => h) (Or.inl ⟨by rfl, ?hyp511⟩) (by assumption) ?restp511
        case hyp511 => (intro wy hSw; (try dsimp only at hSw); obtain ⟨s0, s1, s2⟩ := hSw; go_simp; try with_reducible rfl)
        (try simp only [Act.put, List.getElem_toArray, List.getElem_cons_zero, List.getElem_cons_succ, List.setIfInBounds_toArray, List.set_cons_zero, List.set_cons_succ])
        clear hw2
        refine wpAnyH_ready (rs := [14]) (by kernel_rfl) (by simp) (AllReadyH.cons rfl (fun K hK => ?_) AllReadyH.nil)
        go_simp
        refine (pickB (fun _ => True) (w.heap.size + 1) _ 0 3 3 _ HD4.out.src (by omega) (by omega) hbl HL4.out).mono ?_
        rintro e wz1 ⟨y4, rfl, -, hs, ht⟩
        have HD5 := Lib.hid (HD4.out.step hs ht)
        clear hs ht HD4 HL4
        refine hK.out _ _ (HS0.out _ HD5.out) (fun hHeld => ?_)
        clear hK K
        (try simp only [Act.put, List.getElem_toArray, List.getElem_cons_zero, List.getElem_cons_succ, List.setIfInBounds_toArray, List.set_cons_zero, List.set_cons_succ])
        refine wpAnyH_ready (rs := [15]) (by kernel_rfl) (by simp) (AllReadyH.cons rfl (fun K hK => ?_) AllReadyH.nil)
        go_simp
        have HD6 := Lib.hid (HD5.out.base HD5.out.gbl (b_alloc _ (.cells #[.int .i64 (1 + y1), .int .i64 (1 + y2), .int .i64 (1 + y3), .int .i64 y4] 2)))
        have HL4 := Lib.hid (lit4 wz1 (1 + y1) (1 + y2) (1 + y3) y4)
        have hbl4 := HD5.out.gl
        refine hK.out _ _ (HS0.out _ HD6.out) (fun hHeld => ?_)
        clear hK K
        (try simp only [Act.put, List.getElem_toArray, List.getElem_cons_zero, List.getElem_cons_succ, List.setIfInBounds_toArray, List.set_cons_zero, List.set_cons_succ])
        refine wpAnyH_ready (rs := [16]) (by kernel_rfl) (by simp) (AllReadyH.cons rfl (fun K hK => ?_) AllReadyH.nil)
        go_simp
        refine (pickB (fun _ => True) (w.heap.size + 1) _ 0 4 4 _ HD6.out.src (by omega) (by omega) hbl4 HL4.out).mono ?_
        rintro e wz2 ⟨y5, rfl, -, hs, ht⟩
        have HD7 := Lib.hid (HD6.out.step hs ht)
        clear hs ht HD6 HD5 HL4
        refine hK.out _ _ (HS0.out _ HD7.out) (fun hHeld => ?_)
        clear hK K
        (try simp only [Act.put, List.getElem_toArray, List.getElem_cons_zero, List.getElem_cons_succ, List.setIfInBounds_toArray, List.set_cons_zero, List.set_cons_succ])
        obtain ⟨r0, r1, r2, r3⟩ := HD7.out.res
        have hrl9 : w.heap.size < wz2.heap.size := cell_lt r0
        refine wpAnyH_ready (rs := [17]) (by kernel_rfl) (by simp) (AllReadyH.cons rfl (fun K hK => ?_) AllReadyH.nil)
        go_simp
        refine hK.out _ _ (HSf.out _ HD7.out) (fun hHeld => ?_)
        clear hK K
        (try simp only [Act.put, List.getElem_toArray, List.getElem_cons_zero, List.getElem_cons_succ, List.setIfInBounds_toArray, List.set_cons_zero, List.set_cons_succ])
        clear r0 r1 r2 r3 hrl9
        refine wpAnyH_ready (rs := [18]) (by kernel_rfl) (by simp) (AllReadyH.cons rfl (fun K hK => ?_) AllReadyH.nil)
        go_simp
        refine hK.out _ _ (HSf.out _ HD7.out) (fun hHeld => ?_)
        clear hK K
        (try simp only [Act.put, List.getElem_toArray, List.getElem_cons_zero, List.getElem_cons_succ, List.setIfInBounds_toArray, List.set_cons_zero, List.set_cons_succ])
        refine wpAnyH_ready (rs := [19]) (by kernel_rfl) (by simp) (AllReadyH.cons rfl (fun K hK => ?_) AllReadyH.nil)
        go_simp
        refine hK.out _ _ (HSf.out _ HD7.out) (fun hHeld => ?_)
        clear hK K
        (try simp only [Act.put, List.getElem_toArray, List.getElem_cons_zero, List.getElem_cons_succ, List.setIfInBounds_toArray, List.set_cons_zero, List.set_cons_succ])
        refine wpAnyH_done (by kernel_rfl) ?_ _
        obtain ⟨r0, r1, r2, r3⟩ := HD7.out.res
        have hrl9 : w.heap.size < wz2.heap.size := cell_lt r0
        have hqB := (HD7.out.own.lt (k := q) rfl).1
        have hkp : ∀ z, z ≠ w.heap.size → ((wz2.setCell ⟨w.heap.size, 0, none⟩ (.int .i64 x)).setCell ⟨w.heap.size, 1, none⟩ (.slice (some ⟨q, 0, none⟩) n c)).heap[z]? = wz2.heap[z]? := fun z hz => (Below.heap_setCell _ _ _ _ (by show z ≠ w.heap.size; omega)).trans (Below.heap_setCell _ _ _ _ (by show z ≠ w.heap.size; omega))
        have HFp : Hid (Pls ((wz2.setCell ⟨w.heap.size, 0, none⟩ (.int .i64 x)).setCell ⟨w.heap.size, 1, none⟩ (.slice (some ⟨q, 0, none⟩) n c)) (some ⟨q, 0, none⟩) n l) := (HD7.out.own.keepB fun z hq => hkp z (by simp [Value.ownBlock] at hq; have := HD7.out.gB; omega)).pls
        have HFb := Lib.hid ((HD7.out.bel.setCell (p := ⟨w.heap.size, 0, none⟩) (Nat.le_refl _) (.int .i64 x)).setCell (p := ⟨w.heap.size, 1, none⟩) (Nat.le_refl _) (.slice (some ⟨q, 0, none⟩) n c))
        clear hkp
        go_wp2
        exact bodyPost_ret (v := .tuple #[.agg #[.int .i64 x, .slice (some ⟨q, 0, none⟩) n c], .int .i64 y, .int .i64 y5]) (by simp [results, Try.results47, go_sem, r0, r1, hrl9]) rfl ⟨_, _, _, _, _, _, _, rfl, HFp.out, hn60, HFb.out⟩
    · go_simp
      have HD2 := Lib.hid (HD1.out.base HD1.out.gbl (b_alloc _ (.cells #[.int .i64 0, .int .i64 50, .int .i64 51] 2)))
      have hbl := HD1.out.gl
      have HL2 := Lib.hid (lit3 wc1 0 50 51)
      clear HD1
      refine hK.out _ _ (HS0.out _ HD2.out) (fun hHeld => ?_)
      clear hK K
      (try simp only [Act.put, List.getElem_toArray, List.getElem_cons_zero, List.getElem_cons_succ, List.setIfInBounds_toArray, List.set_cons_zero, List.set_cons_succ])
      refine wpAnyH_ready (rs := [7]) (by kernel_rfl) (by simp) (AllReadyH.cons rfl (fun K hK => ?_) AllReadyH.nil)
      go_simp
      refine (next _ _ _ (by decide) HD2.out.src).mono ?_
      rintro e wc3 ⟨y2, rfl, h1, h2, hs, ht⟩
      have HD3 := Lib.hid (HD2.out.step hs ht)
      have hw1 : IntKind.i64.wrap (1 + y2) = 1 + y2 := IntWalk.i64_in _ (by omega)
      have HL3 := Lib.hid (HL2.out.thr ht hbl)
      clear HL2
      clear hs ht h1 h2 HD2
      refine hK.out _ _ (HS0.out _ HD3.out) (fun hHeld => ?_)
      clear hK K
      (try simp only [Act.put, List.getElem_toArray, List.getElem_cons_zero, List.getElem_cons_succ, List.setIfInBounds_toArray, List.set_cons_zero, List.set_cons_succ])
      refine wpAnyH_take (i := 8) (v := ?vp68) rfl (by kernel_rfl) (by kernel_rfl) (by kernel_rfl) (fun _ _ _ h => h) (Or.inl ⟨by rfl, ?hyp68⟩) (by assumption) ?restp68
      case hyp68 => (intro wy hSw; (try dsimp only at hSw); obtain ⟨s0, s1, s2⟩ := hSw; go_simp; try with_reducible rfl)
      (try simp only [Act.put, List.getElem_toArray, List.getElem_cons_zero, List.getElem_cons_succ, List.setIfInBounds_toArray, List.set_cons_zero, List.set_cons_succ])
      clear hw1
      refine wpAnyH_ready (rs := [10]) (by kernel_rfl) (by simp) (AllReadyH.cons rfl (fun K hK => ?_) AllReadyH.nil)
      go_simp
      refine (next _ _ _ (by decide) HD3.out.src).mono ?_
      rintro e wc4 ⟨y3, rfl, h1, h2, hs, ht⟩
      have HD4 := Lib.hid (HD3.out.step hs ht)
      have hw2 : IntKind.i64.wrap (1 + y3) = 1 + y3 := IntWalk.i64_in _ (by omega)
      have HL4 := Lib.hid (HL3.out.thr ht hbl)
      clear HL3
      clear hs ht h1 h2 HD3
      refine hK.out _ _ (HS0.out _ HD4.out) (fun hHeld => ?_)
      clear hK K
      (try simp only [Act.put, List.getElem_toArray, List.getElem_cons_zero, List.getElem_cons_succ, List.setIfInBounds_toArray, List.set_cons_zero, List.set_cons_succ])
      refine wpAnyH_take (i := 11) (v := ?vp711) rfl (by kernel_rfl) (by kernel_rfl) (by kernel_rfl) (fun _ _ _ h => h) (Or.inl ⟨by rfl, ?hyp711⟩) (by assumption) ?restp711
      case hyp711 => (intro wy hSw; (try dsimp only at hSw); obtain ⟨s0, s1, s2⟩ := hSw; go_simp; try with_reducible rfl)
      (try simp only [Act.put, List.getElem_toArray, List.getElem_cons_zero, List.getElem_cons_succ, List.setIfInBounds_toArray, List.set_cons_zero, List.set_cons_succ])
      clear hw2
      refine wpAnyH_ready (rs := [14]) (by kernel_rfl) (by simp) (AllReadyH.cons rfl (fun K hK => ?_) AllReadyH.nil)
      go_simp
      refine (pickB (fun _ => True) (w.heap.size + 1) _ 0 3 3 _ HD4.out.src (by omega) (by omega) hbl HL4.out).mono ?_
      rintro e wz1 ⟨y4, rfl, -, hs, ht⟩
      have HD5 := Lib.hid (HD4.out.step hs ht)
      clear hs ht HD4 HL4
      refine hK.out _ _ (HS0.out _ HD5.out) (fun hHeld => ?_)
      clear hK K
      (try simp only [Act.put, List.getElem_toArray, List.getElem_cons_zero, List.getElem_cons_succ, List.setIfInBounds_toArray, List.set_cons_zero, List.set_cons_succ])
      refine wpAnyH_ready (rs := [15]) (by kernel_rfl) (by simp) (AllReadyH.cons rfl (fun K hK => ?_) AllReadyH.nil)
      go_simp
      have HD6 := Lib.hid (HD5.out.base HD5.out.gbl (b_alloc _ (.cells #[.int .i64 (1 + y1), .int .i64 (1 + y2), .int .i64 (1 + y3), .int .i64 y4] 2)))
      have HL4 := Lib.hid (lit4 wz1 (1 + y1) (1 + y2) (1 + y3) y4)
      have hbl4 := HD5.out.gl
      refine hK.out _ _ (HS0.out _ HD6.out) (fun hHeld => ?_)
      clear hK K
      (try simp only [Act.put, List.getElem_toArray, List.getElem_cons_zero, List.getElem_cons_succ, List.setIfInBounds_toArray, List.set_cons_zero, List.set_cons_succ])
      refine wpAnyH_ready (rs := [16]) (by kernel_rfl) (by simp) (AllReadyH.cons rfl (fun K hK => ?_) AllReadyH.nil)
      go_simp
      refine (pickB (fun _ => True) (w.heap.size + 1) _ 0 4 4 _ HD6.out.src (by omega) (by omega) hbl4 HL4.out).mono ?_
      rintro e wz2 ⟨y5, rfl, -, hs, ht⟩
      have HD7 := Lib.hid (HD6.out.step hs ht)
      clear hs ht HD6 HD5 HL4
      refine hK.out _ _ (HS0.out _ HD7.out) (fun hHeld => ?_)
      clear hK K
      (try simp only [Act.put, List.getElem_toArray, List.getElem_cons_zero, List.getElem_cons_succ, List.setIfInBounds_toArray, List.set_cons_zero, List.set_cons_succ])
      obtain ⟨r0, r1, r2, r3⟩ := HD7.out.res
      have hrl9 : w.heap.size < wz2.heap.size := cell_lt r0
      refine wpAnyH_ready (rs := [17]) (by kernel_rfl) (by simp) (AllReadyH.cons rfl (fun K hK => ?_) AllReadyH.nil)
      go_simp
      refine hK.out _ _ (HSf.out _ HD7.out) (fun hHeld => ?_)
      clear hK K
      (try simp only [Act.put, List.getElem_toArray, List.getElem_cons_zero, List.getElem_cons_succ, List.setIfInBounds_toArray, List.set_cons_zero, List.set_cons_succ])
      clear r0 r1 r2 r3 hrl9
      refine wpAnyH_ready (rs := [18]) (by kernel_rfl) (by simp) (AllReadyH.cons rfl (fun K hK => ?_) AllReadyH.nil)
      go_simp
      refine hK.out _ _ (HSf.out _ HD7.out) (fun hHeld => ?_)
      clear hK K
      (try simp only [Act.put, List.getElem_toArray, List.getElem_cons_zero, List.getElem_cons_succ, List.setIfInBounds_toArray, List.set_cons_zero, List.set_cons_succ])
      refine wpAnyH_ready (rs := [19]) (by kernel_rfl) (by simp) (AllReadyH.cons rfl (fun K hK => ?_) AllReadyH.nil)
      go_simp
      refine hK.out _ _ (HSf.out _ HD7.out) (fun hHeld => ?_)
      clear hK K
      (try simp only [Act.put, List.getElem_toArray, List.getElem_cons_zero, List.getElem_cons_succ, List.setIfInBounds_toArray, List.set_cons_zero, List.set_cons_succ])
      refine wpAnyH_done (by kernel_rfl) ?_ _
      obtain ⟨r0, r1, r2, r3⟩ := HD7.out.res
      have hrl9 : w.heap.size < wz2.heap.size := cell_lt r0
      have hqB := (HD7.out.own.lt (k := q) rfl).1
      have hkp : ∀ z, z ≠ w.heap.size → ((wz2.setCell ⟨w.heap.size, 0, none⟩ (.int .i64 x)).setCell ⟨w.heap.size, 1, none⟩ (.slice (some ⟨q, 0, none⟩) n c)).heap[z]? = wz2.heap[z]? := fun z hz => (Below.heap_setCell _ _ _ _ (by show z ≠ w.heap.size; omega)).trans (Below.heap_setCell _ _ _ _ (by show z ≠ w.heap.size; omega))
      have HFp : Hid (Pls ((wz2.setCell ⟨w.heap.size, 0, none⟩ (.int .i64 x)).setCell ⟨w.heap.size, 1, none⟩ (.slice (some ⟨q, 0, none⟩) n c)) (some ⟨q, 0, none⟩) n l) := (HD7.out.own.keepB fun z hq => hkp z (by simp [Value.ownBlock] at hq; have := HD7.out.gB; omega)).pls
      have HFb := Lib.hid ((HD7.out.bel.setCell (p := ⟨w.heap.size, 0, none⟩) (Nat.le_refl _) (.int .i64 x)).setCell (p := ⟨w.heap.size, 1, none⟩) (Nat.le_refl _) (.slice (some ⟨q, 0, none⟩) n c))
      clear hkp
      go_wp2
      exact bodyPost_ret (v := .tuple #[.agg #[.int .i64 x, .slice (some ⟨q, 0, none⟩) n c], .int .i64 y, .int .i64 y5]) (by simp [results, Try.results47, go_sem, r0, r1, hrl9]) rfl ⟨_, _, _, _, _, _, _, rfl, HFp.out, hn60, HFb.out⟩
  · go_simp
    have HD1 := Lib.hid (HD0.out.base HD0.out.gbl (b_alloc _ (.cells #[.int .i64 0, .int .i64 50, .int .i64 51] 2)))
    have hbl := HD0.out.gl
    have HL1 := Lib.hid (lit3 w3.drew 0 50 51)
    clear HD0
    refine hK.out _ _ (HS0.out _ HD1.out) (fun hHeld => ?_)
    clear hK K
    (try simp only [Act.put, List.getElem_toArray, List.getElem_cons_zero, List.getElem_cons_succ, List.setIfInBounds_toArray, List.set_cons_zero, List.set_cons_succ])
    refine wpAnyH_ready (rs := [4]) (by kernel_rfl) (by simp) (AllReadyH.cons rfl (fun K hK => ?_) AllReadyH.nil)
    go_simp
    refine (next _ _ _ (by decide) HD1.out.src).mono ?_
    rintro e wc2 ⟨y1, rfl, h1, h2, hs, ht⟩
    have HD2 := Lib.hid (HD1.out.step hs ht)
    have hw0 : IntKind.i64.wrap (1 + y1) = 1 + y1 := IntWalk.i64_in _ (by omega)
    have HL2 := Lib.hid (HL1.out.thr ht hbl)
    clear HL1
    clear hs ht h1 h2 HD1
    refine hK.out _ _ (HS0.out _ HD2.out) (fun hHeld => ?_)
    clear hK K
    (try simp only [Act.put, List.getElem_toArray, List.getElem_cons_zero, List.getElem_cons_succ, List.setIfInBounds_toArray, List.set_cons_zero, List.set_cons_succ])
    refine wpAnyH_take (i := 5) (v := ?vp85) rfl (by kernel_rfl) (by kernel_rfl) (by kernel_rfl) (fun _ _ _ h => h) (Or.inl ⟨by rfl, ?hyp85⟩) (by assumption) ?restp85
    case hyp85 => (intro wy hSw; (try dsimp only at hSw); obtain ⟨s0, s1, s2⟩ := hSw; go_simp; try with_reducible rfl)
    (try simp only [Act.put, List.getElem_toArray, List.getElem_cons_zero, List.getElem_cons_succ, List.setIfInBounds_toArray, List.set_cons_zero, List.set_cons_succ])
    clear hw0
    refine wpAnyH_ready (rs := [7]) (by kernel_rfl) (by simp) (AllReadyH.cons rfl (fun K hK => ?_) AllReadyH.nil)
    go_simp
    refine (next _ _ _ (by decide) HD2.out.src).mono ?_
    rintro e wc3 ⟨y2, rfl, h1, h2, hs, ht⟩
    have HD3 := Lib.hid (HD2.out.step hs ht)
    have hw1 : IntKind.i64.wrap (1 + y2) = 1 + y2 := IntWalk.i64_in _ (by omega)
    have HL3 := Lib.hid (HL2.out.thr ht hbl)
    clear HL2
    clear hs ht h1 h2 HD2
    refine hK.out _ _ (HS0.out _ HD3.out) (fun hHeld => ?_)
    clear hK K
    (try simp only [Act.put, List.getElem_toArray, List.getElem_cons_zero, List.getElem_cons_succ, List.setIfInBounds_toArray, List.set_cons_zero, List.set_cons_succ])
    refine wpAnyH_take (i := 8) (v := ?vp98) rfl (by kernel_rfl) (by kernel_rfl) (by kernel_rfl) (fun _ _ _ h => h) (Or.inl ⟨by rfl, ?hyp98⟩) (by assumption) ?restp98
    case hyp98 => (intro wy hSw; (try dsimp only at hSw); obtain ⟨s0, s1, s2⟩ := hSw; go_simp; try with_reducible rfl)
    (try simp only [Act.put, List.getElem_toArray, List.getElem_cons_zero, List.getElem_cons_succ, List.setIfInBounds_toArray, List.set_cons_zero, List.set_cons_succ])
    clear hw1
    refine wpAnyH_ready (rs := [10]) (by kernel_rfl) (by simp) (AllReadyH.cons rfl (fun K hK => ?_) AllReadyH.nil)
    go_simp
    refine (next _ _ _ (by decide) HD3.out.src).mono ?_
    rintro e wc4 ⟨y3, rfl, h1, h2, hs, ht⟩
    have HD4 := Lib.hid (HD3.out.step hs ht)
    have hw2 : IntKind.i64.wrap (1 + y3) = 1 + y3 := IntWalk.i64_in _ (by omega)
    have HL4 := Lib.hid (HL3.out.thr ht hbl)
    clear HL3
    clear hs ht h1 h2 HD3
    refine hK.out _ _ (HS0.out _ HD4.out) (fun hHeld => ?_)
    clear hK K
    (try simp only [Act.put, List.getElem_toArray, List.getElem_cons_zero, List.getElem_cons_succ, List.setIfInBounds_toArray, List.set_cons_zero, List.set_cons_succ])
    refine wpAnyH_take (i := 11) (v := ?vp1011) rfl (by kernel_rfl) (by kernel_rfl) (by kernel_rfl) (fun _ _ _ h => h) (Or.inl ⟨by rfl, ?hyp1011⟩) (by assumption) ?restp1011
    case hyp1011 => (intro wy hSw; (try dsimp only at hSw); obtain ⟨s0, s1, s2⟩ := hSw; go_simp; try with_reducible rfl)
    (try simp only [Act.put, List.getElem_toArray, List.getElem_cons_zero, List.getElem_cons_succ, List.setIfInBounds_toArray, List.set_cons_zero, List.set_cons_succ])
    clear hw2
    refine wpAnyH_ready (rs := [14]) (by kernel_rfl) (by simp) (AllReadyH.cons rfl (fun K hK => ?_) AllReadyH.nil)
    go_simp
    refine (pickB (fun _ => True) (w.heap.size + 1) _ 0 3 3 _ HD4.out.src (by omega) (by omega) hbl HL4.out).mono ?_
    rintro e wz1 ⟨y4, rfl, -, hs, ht⟩
    have HD5 := Lib.hid (HD4.out.step hs ht)
    clear hs ht HD4 HL4
    refine hK.out _ _ (HS0.out _ HD5.out) (fun hHeld => ?_)
    clear hK K
    (try simp only [Act.put, List.getElem_toArray, List.getElem_cons_zero, List.getElem_cons_succ, List.setIfInBounds_toArray, List.set_cons_zero, List.set_cons_succ])
    refine wpAnyH_ready (rs := [15]) (by kernel_rfl) (by simp) (AllReadyH.cons rfl (fun K hK => ?_) AllReadyH.nil)
    go_simp
    have HD6 := Lib.hid (HD5.out.base HD5.out.gbl (b_alloc _ (.cells #[.int .i64 (1 + y1), .int .i64 (1 + y2), .int .i64 (1 + y3), .int .i64 y4] 2)))
    have HL4 := Lib.hid (lit4 wz1 (1 + y1) (1 + y2) (1 + y3) y4)
    have hbl4 := HD5.out.gl
    refine hK.out _ _ (HS0.out _ HD6.out) (fun hHeld => ?_)
    clear hK K
    (try simp only [Act.put, List.getElem_toArray, List.getElem_cons_zero, List.getElem_cons_succ, List.setIfInBounds_toArray, List.set_cons_zero, List.set_cons_succ])
    refine wpAnyH_ready (rs := [16]) (by kernel_rfl) (by simp) (AllReadyH.cons rfl (fun K hK => ?_) AllReadyH.nil)
    go_simp
    refine (pickB (fun _ => True) (w.heap.size + 1) _ 0 4 4 _ HD6.out.src (by omega) (by omega) hbl4 HL4.out).mono ?_
    rintro e wz2 ⟨y5, rfl, -, hs, ht⟩
    have HD7 := Lib.hid (HD6.out.step hs ht)
    clear hs ht HD6 HD5 HL4
    refine hK.out _ _ (HS0.out _ HD7.out) (fun hHeld => ?_)
    clear hK K
    (try simp only [Act.put, List.getElem_toArray, List.getElem_cons_zero, List.getElem_cons_succ, List.setIfInBounds_toArray, List.set_cons_zero, List.set_cons_succ])
    obtain ⟨r0, r1, r2, r3⟩ := HD7.out.res
    have hrl9 : w.heap.size < wz2.heap.size := cell_lt r0
    refine wpAnyH_ready (rs := [17]) (by kernel_rfl) (by simp) (AllReadyH.cons rfl (fun K hK => ?_) AllReadyH.nil)
    go_simp
    refine hK.out _ _ (HSf.out _ HD7.out) (fun hHeld => ?_)
    clear hK K
    (try simp only [Act.put, List.getElem_toArray, List.getElem_cons_zero, List.getElem_cons_succ, List.setIfInBounds_toArray, List.set_cons_zero, List.set_cons_succ])
    clear r0 r1 r2 r3 hrl9
    refine wpAnyH_ready (rs := [18]) (by kernel_rfl) (by simp) (AllReadyH.cons rfl (fun K hK => ?_) AllReadyH.nil)
    go_simp
    refine hK.out _ _ (HSf.out _ HD7.out) (fun hHeld => ?_)
    clear hK K
    (try simp only [Act.put, List.getElem_toArray, List.getElem_cons_zero, List.getElem_cons_succ, List.setIfInBounds_toArray, List.set_cons_zero, List.set_cons_succ])
    refine wpAnyH_ready (rs := [19]) (by kernel_rfl) (by simp) (AllReadyH.cons rfl (fun K hK => ?_) AllReadyH.nil)
    go_simp
    refine hK.out _ _ (HSf.out _ HD7.out) (fun hHeld => ?_)
    clear hK K
    (try simp only [Act.put, List.getElem_toArray, List.getElem_cons_zero, List.getElem_cons_succ, List.setIfInBounds_toArray, List.set_cons_zero, List.set_cons_succ])
    refine wpAnyH_done (by kernel_rfl) ?_ _
    obtain ⟨r0, r1, r2, r3⟩ := HD7.out.res
    have hrl9 : w.heap.size < wz2.heap.size := cell_lt r0
    have hqB := (HD7.out.own.lt (k := q) rfl).1
    have hkp : ∀ z, z ≠ w.heap.size → ((wz2.setCell ⟨w.heap.size, 0, none⟩ (.int .i64 x)).setCell ⟨w.heap.size, 1, none⟩ (.slice (some ⟨q, 0, none⟩) n c)).heap[z]? = wz2.heap[z]? := fun z hz => (Below.heap_setCell _ _ _ _ (by show z ≠ w.heap.size; omega)).trans (Below.heap_setCell _ _ _ _ (by show z ≠ w.heap.size; omega))
    have HFp : Hid (Pls ((wz2.setCell ⟨w.heap.size, 0, none⟩ (.int .i64 x)).setCell ⟨w.heap.size, 1, none⟩ (.slice (some ⟨q, 0, none⟩) n c)) (some ⟨q, 0, none⟩) n l) := (HD7.out.own.keepB fun z hq => hkp z (by simp [Value.ownBlock] at hq; have := HD7.out.gB; omega)).pls
    have HFb := Lib.hid ((HD7.out.bel.setCell (p := ⟨w.heap.size, 0, none⟩) (Nat.le_refl _) (.int .i64 x)).setCell (p := ⟨w.heap.size, 1, none⟩) (Nat.le_refl _) (.slice (some ⟨q, 0, none⟩) n c))
    clear hkp
    go_wp2
    exact bodyPost_ret (v := .tuple #[.agg #[.int .i64 x, .slice (some ⟨q, 0, none⟩) n c], .int .i64 y, .int .i64 y5]) (by simp [results, Try.results47, go_sem, r0, r1, hrl9]) rfl ⟨_, _, _, _, _, _, _, rfl, HFp.out, hn60, HFb.out⟩
end V
end Go.Proofs.Ytjbffpmelglegaa

namespace Go.Proofs.Ytjbffpmelglegaa
namespace V
set_option maxRecDepth 100000
open Go.RowKit
/-- A drawn graph and a drawn table, for a law. -/
def DrawnGT (w : World) (e : Ending) (w' : World) : Prop :=
  ∃ (x : Int) (q n c : Nat) (l : List M.Pc) (ta : Option Addr) (tn tc : Nat) (T : List (List Int)), e = .returned (.tuple #[.agg #[.int .i64 x, .slice (some ⟨q, 0, none⟩) n c], .slice ta tn tc]) ∧ Pls w' (some ⟨q, 0, none⟩) n l ∧ Mat w' ta tn T ∧ n ≤ 60 ∧ Below w.heap.size w w'
theorem matLit (w : World) (v : Int) : Mat ((w.alloc (.cells #[.int .i64 v] 2)).alloc (.cells #[.slice (some ⟨w.heap.size, 0, none⟩) 1 1] 24)) (some ⟨w.heap.size + 1, 0, none⟩) 1 [[v]] := by
  refine ⟨rfl, by decide, .inr ⟨_, _, rfl, by simp, fun i hi => ?_⟩⟩
  obtain rfl : i = 0 := by omega
  refine ⟨some ⟨w.heap.size, 0, none⟩, 1, by simp [go_sem], ?_⟩
  refine ⟨rfl, (by show (1 : Nat) ≤ maxLen; decide), .inr ⟨_, _, rfl, (by simp only [World.size_alloc]; omega), fun j hj => ?_⟩⟩
  obtain rfl : j = 0 := by simp at hj; omega
  simp [go_sem]
/-- The result's box is written at the end. -/
theorem DS.fin {g R gb B : Nat} {w wr : World} {x : Int} {q n c : Nat} {l : List M.Pc} (h : DS g R gb B w wr x q n c l) (u v : Value) : (∀ z, z ≠ R → ((wr.setCell ⟨R, 0, none⟩ u).setCell ⟨R, 1, none⟩ v).heap[z]? = wr.heap[z]?) ∧ Pls ((wr.setCell ⟨R, 0, none⟩ u).setCell ⟨R, 1, none⟩ v) (some ⟨q, 0, none⟩) n l ∧ Below w.heap.size w ((wr.setCell ⟨R, 0, none⟩ u).setCell ⟨R, 1, none⟩ v) ∧ R < wr.heap.size := by
  have hqB := (h.own.lt (k := q) rfl).1
  have hgB := h.gB
  have hrg := h.rg
  have hk : ∀ z, z ≠ R → ((wr.setCell ⟨R, 0, none⟩ u).setCell ⟨R, 1, none⟩ v).heap[z]? = wr.heap[z]? := fun z hz => (Below.heap_setCell _ _ _ _ (by show z ≠ R; omega)).trans (Below.heap_setCell _ _ _ _ (by show z ≠ R; omega))
  exact ⟨hk, (h.own.keepB fun z hq => hk z (by simp [Value.ownBlock] at hq; omega)).pls, (h.bel.setCell (p := ⟨R, 0, none⟩) h.wR u).setCell (p := ⟨R, 1, none⟩) h.wR v, cell_lt h.res.1⟩
set_option maxRecDepth 100000 in
set_option maxHeartbeats 8000000 in
theorem drawIsFiringTable (a : Option Addr) (mm cap : Nat) (w : World) (h : Bytes w a mm) :
    Calls Try.prog 50 #[.slice a mm cap] w (DrawnGT w) := by
  have hb0 := b_alloc w (.cells #[.int .i64 0, .slice none 0 0] 41)
  have HB := Lib.hid (h.below hb0)
  have HB0 := Lib.hid hb0
  clear h hb0
  go_enter Try.func50, Try.ntmps50
  go_wp2_with fail
  refine (from_ _ _ _ _ HB.out).mono ?_
  rintro e w1 ⟨rfl, hs1, hb1⟩
  have HR1 := Lib.hid ((resG_new w 41).below hb1)
  have HB1 := Lib.hid (HB0.out.trans (hb1.mono HB0.out.size))
  have HS1 := Lib.hid hs1
  have hgz : (w.alloc (.cells #[.int .i64 0, .slice none 0 0] 41)).heap.size = w.heap.size + 1 := by simp
  rw [hgz] at HS1
  clear hs1 hb1
  go_wp2_with fail
  refine (draw13 (w.heap.size + 1) _ (by first | exact HS1.out | (have := HS1.out; simpa using this))).mono ?_
  rintro e w2 ⟨x, q, n, c, l, y, rfl, ho, hn60, ⟨hx0, hx11⟩, hs, ht⟩
  have hg1 := HS1.out.lt
  have hq1 := (ho.lt (k := q) rfl).1
  have hq2 := (ho.lt (k := q) rfl).2
  have HDS : Hid (DS (w.heap.size + 1) w.heap.size w2.heap.size w1.heap.size w (w2.alloc (.cells #[.int .i64 x, .slice (some ⟨q, 0, none⟩) n c] 41)) x q n c l) := by
    have hb2 := b_alloc w2 (.cells #[.int .i64 x, .slice (some ⟨q, 0, none⟩) n c] 41)
    obtain ⟨r0, r1, r2, r3⟩ := HR1.out
    have hl : w.heap.size < w.heap.size + 1 := Nat.lt_succ_self _
    have hr2 : ResG w2 w.heap.size := ⟨(ht.below.cell (p := ⟨w.heap.size, 0, none⟩) hl).trans r0, (ht.below.cell (p := ⟨w.heap.size, 1, none⟩) hl).trans r1, (ht.below.frozen (p := ⟨w.heap.size, 0, none⟩) hl).trans r2, (ht.below.frozen (p := ⟨w.heap.size, 1, none⟩) hl).trans r3⟩
    exact ⟨hr2.below hb2, by simp [go_sem], by simp [go_sem], ho.below hb2, by omega, by omega, hq2, Nat.le_refl _, hs.below (hb2.mono (by omega)), (HB1.out.trans (ht.below.mono (by omega))).trans (hb2.mono (by omega))⟩
  obtain ⟨gb, hgb⟩ : ∃ b, b = w2.heap.size := ⟨_, rfl⟩
  obtain ⟨w3, hw3⟩ : ∃ z, z = w2.alloc (.cells #[.int .i64 x, .slice (some ⟨q, 0, none⟩) n c] 41) := ⟨_, rfl⟩
  rw [← hw3, ← hgb] at HDS
  have HW3 := Lib.hid hw3.symm
  have HGb := Lib.hid hgb.symm
  clear ho hs ht hw3 hgb hq1 hq2 hgz HR1
  have hev := HDS.out.ev
  have hpl := HDS.out.pl
  have hgl := HDS.out.gbl
  have hgB : w.heap.size + 1 < w3.heap.size := by have := HDS.out.gB; have := HDS.out.Bq; have := (HDS.out.own.lt (k := q) rfl).1; omega
  go_upto_region 3 with fail
  rw [HW3.out, HGb.out]
  clear HW3 HGb
  go_wp2_with fail
  refine (sFiringTimes x _ n c l y w3 HDS.out.own.pls).mono ?_
  rintro e w4 ⟨ta, tn, tc, rfl, ho, hb⟩
  have HD4 := Lib.hid (HDS.out.base hgl hb)
  have HO4 := Lib.hid ho
  have hev := HD4.out.ev
  have hpl := HD4.out.pl
  obtain ⟨FR, hFR⟩ : ∃ r, r = M.ftRes x l y := ⟨_, rfl⟩
  rw [← hFR] at HO4 ⊢
  have h34 : w3.heap.size ≤ w4.heap.size := hb.size
  have HFR := Lib.hid hFR
  clear ho hb HDS hFR
  by_cases hbad : FR.2 = 0
  · have hb0 : (FR.2 != 0) = false := by rw [hbad]; rfl
    have hFT : ∃ N nn : Nat, 1 ≤ N ∧ N ≤ 10 ∧ nn ≤ 50 ∧ x = (N : Int) ∧ Rect FR.1 nn N := by
      have e := HFR.out
      unfold M.ftRes at e
      by_cases hc : M.inCode (M.lvCode x l) (M.inB y 0 50) = 0
      · rw [if_pos hc] at e
        obtain ⟨hlv, hut⟩ := M.inCode_t hc
        obtain ⟨N, hxN, hgr, hlive, hnp, n1, n10⟩ := lv_live hlv
        obtain ⟨nn, hnI, hnn⟩ := inB_nat (m := 50) hut
        refine ⟨N, nn, n1, n10, hnn, hxN, ?_⟩
        rw [e, hxN, hnI]
        exact rect_mk nn N _
      · rw [if_neg hc] at e
        rw [e] at hbad
        exact absurd hbad hc
    obtain ⟨N, nn, n1, n10, hnn, hxN, hrect⟩ := hFT
    subst hxN
    obtain rfl : tn = nn := HO4.out.len.trans hrect.1
    have HRe := Lib.hid hrect
    clear hrect hbad
    by_cases ht0 : tn = 0
    · subst ht0
      obtain ⟨k1, k2, k3, k4⟩ := HD4.out.fin (.int .i64 (N : Int)) (.slice (some ⟨q, 0, none⟩) n c)
      have HMt : Hid (Mat ((w4.setCell ⟨w.heap.size, 0, none⟩ (.int .i64 (N : Int))).setCell ⟨w.heap.size, 1, none⟩ (.slice (some ⟨q, 0, none⟩) n c)) ta 0 FR.1) := (HO4.out.keep fun z h1 _ => k1 z (by omega)).mat
      have HP := Lib.hid k2
      have HBl := Lib.hid k3
      obtain ⟨r0, r1, r2, r3⟩ := HD4.out.res
      clear k1 k2 k3
      go_wp2
      exact bodyPost_ret (v := .tuple #[.agg #[.int .i64 (N : Int), .slice (some ⟨q, 0, none⟩) n c], .slice ta 0 tc]) (by simp [results, Try.results50, go_sem, r0, r1, k4]) rfl ⟨_, _, _, _, _, _, _, _, _, rfl, HP.out, HMt.out, hn60, HBl.out⟩
    · have htp : (0 : Int) < (tn : Int) := by omega
      have htd : decide ((0 : Int) < (tn : Int)) = true := by simpa using htp
      have htd' : decide (0 < tn) = true := by simp; omega
      go_wp2_with fail
      refine (next _ _ _ (by decide) HD4.out.src).mono ?_
      rintro e w5 ⟨u1, rfl, -, -, hs, ht⟩
      have HD5 := Lib.hid (HD4.out.step hs ht)
      have HO5 := Lib.hid (HO4.out.thr ht hgB)
      have h35 : w3.heap.size ≤ w5.heap.size := Nat.le_trans h34 ht.below.size
      clear hs ht HD4 HO4 hev hpl
      have hev := HD5.out.ev
      have hpl := HD5.out.pl
      by_cases hu : u1 = 0
      · subst hu
        go_wp2_with fail
        refine (next _ _ _ (wf_small _ (by omega) (by omega)) HD5.out.src).mono ?_
        rintro e w6 ⟨kI, rfl, hk0, hk1, hs, ht⟩
        have HD6 := Lib.hid (HD5.out.step hs ht)
        have HO6 := Lib.hid (HO5.out.thr ht hgB)
        have h36 : w3.heap.size ≤ w6.heap.size := Nat.le_trans h35 ht.below.size
        obtain ⟨k, rfl, hkt⟩ : ∃ k : Nat, kI = (k : Int) ∧ k < tn := ⟨kI.toNat, by omega, by omega⟩
        clear hs ht HD5 HO5 hev hpl hk0 hk1
        have hev := HD6.out.ev
        have hpl := HD6.out.pl
        go_wp2_with fail
        refine (next _ _ _ (wf_small _ (by omega) (by omega)) HD6.out.src).mono ?_
        rintro e w7 ⟨eI, rfl, hk0, hk1, hs, ht⟩
        have HD7 := Lib.hid (HD6.out.step hs ht)
        have HO7 := Lib.hid (HO6.out.thr ht hgB)
        have h37 : w3.heap.size ≤ w7.heap.size := Nat.le_trans h36 ht.below.size
        obtain ⟨j, rfl, hjN⟩ : ∃ j : Nat, eI = (j : Int) ∧ j < N := ⟨eI.toNat, by omega, by omega⟩
        clear hs ht HD6 HO6 hev hpl hk0 hk1
        obtain ⟨G, qr, L, cr, v, rfl, hBG, hBq, hL, -, c1, c2, c3, hput⟩ := HO7.out.at k j hkt (by rw [HRe.out.2 k hkt]; exact hjN)
        rw [HRe.out.2 k hkt] at hL
        subst hL
        have hGl : G < w7.heap.size := cell_lt c1
        have hql : qr < w7.heap.size := cell_lt c2
        have hkti : (k : Int) < (tn : Int) := by omega
        have hjNi : (j : Int) < (L : Int) := by omega
        have c1d : w7.drew.cell? ⟨G, k, none⟩ = some (.slice (some ⟨qr, 0, none⟩) L cr) := ((b_draws w7 1).cell hGl).trans c1
        have c2d : w7.drew.cell? ⟨qr, j, none⟩ = some (.int .i64 v) := ((b_draws w7 1).cell hql).trans c2
        have HDd := Lib.hid (HD7.out.base (B2 := w7.heap.size) HD7.out.gbl (b_draws w7 1))
        have HOd : Hid (OwnM w7.drew w3.heap.size (.slice (some ⟨G, 0, none⟩) tn tc) FR.1) := HO7.out.below (b_draws w7 1)
        clear hput
        go_wp2
        go_region_law (go_simp; go_at_call 98; refine (next _ _ _ (by decide) HDd.out.src).mono ?_; rintro e w8 ⟨u, rfl, -, -, hs, ht⟩; have HD8 := Lib.hid (HDd.out.step hs ht); have HO8 := Lib.hid (HOd.out.thr ht hgB); have d1 : w8.cell? ⟨G, k, none⟩ = some (.slice (some ⟨qr, 0, none⟩) L cr) := (ht.cell (p := ⟨G, k, none⟩) hGl (by show G ≠ w.heap.size + 1; omega)).trans c1d; have d2 : w8.cell? ⟨qr, j, none⟩ = some (.int .i64 v) := (ht.cell (p := ⟨qr, j, none⟩) hql (by show qr ≠ w.heap.size + 1; omega)).trans c2d; have d3 : w8.frozen? ⟨qr, j, none⟩ = false := (ht.frozen (p := ⟨qr, j, none⟩) hql (by show w.heap.size + 1 < qr; omega)).trans c3; clear hs ht)
        all_goals (
          obtain ⟨vv, hvv⟩ : ∃ vv, vv = IntKind.i64.wrap (IntKind.i64.wrap (v + u) - 1) := ⟨_, rfl⟩
          rw [← hvv]
          clear hvv
          have HO9 := Lib.hid (HO8.out.put hkt (t := j) (by rw [HRe.out.2 k hkt]; exact hjN) d1 vv)
          have HD9 := Lib.hid (HD8.out.base (B2 := w3.heap.size) hgl ((Below.refl w3.heap.size w8).setCell (p := ⟨qr, j, none⟩) hBq (.int .i64 vv)))
          obtain ⟨w9, hw9⟩ : ∃ z, z = w8.setCell ⟨qr, j, none⟩ (.int .i64 vv) := ⟨_, rfl⟩
          rw [← hw9] at HO9 HD9 ⊢
          clear hw9 d1 d2 d3 HO8 HD8 c1 c2 c3 c1d c2d HDd HOd hev hpl
          have hev := HD9.out.ev
          have hpl := HD9.out.pl
          obtain ⟨k1, k2, k3, k4⟩ := HD9.out.fin (.int .i64 (L : Int)) (.slice (some ⟨q, 0, none⟩) n c)
          have HMt : Hid (Mat ((w9.setCell ⟨w.heap.size, 0, none⟩ (.int .i64 (L : Int))).setCell ⟨w.heap.size, 1, none⟩ (.slice (some ⟨q, 0, none⟩) n c)) (some ⟨G, 0, none⟩) tn _) := (HO9.out.keep fun z h1 _ => k1 z (by omega)).mat
          have HP := Lib.hid k2
          have HBl := Lib.hid k3
          obtain ⟨r0, r1, r2, r3⟩ := HD9.out.res
          clear k1 k2 k3
          go_wp2
          exact bodyPost_ret (v := .tuple #[.agg #[.int .i64 (L : Int), .slice (some ⟨q, 0, none⟩) n c], .slice (some ⟨G, 0, none⟩) tn tc]) (by simp [results, Try.results50, go_sem, r0, r1, k4]) rfl ⟨_, _, _, _, _, _, _, _, _, rfl, HP.out, HMt.out, hn60, HBl.out⟩)
      · have hub : (u1 == 0) = false := by simpa using hu
        obtain ⟨k1, k2, k3, k4⟩ := HD5.out.fin (.int .i64 (N : Int)) (.slice (some ⟨q, 0, none⟩) n c)
        have HMt : Hid (Mat ((w5.setCell ⟨w.heap.size, 0, none⟩ (.int .i64 (N : Int))).setCell ⟨w.heap.size, 1, none⟩ (.slice (some ⟨q, 0, none⟩) n c)) ta tn FR.1) := (HO5.out.keep fun z h1 _ => k1 z (by omega)).mat
        have HP := Lib.hid k2
        have HBl := Lib.hid k3
        obtain ⟨r0, r1, r2, r3⟩ := HD5.out.res
        clear k1 k2 k3
        go_wp2
        exact bodyPost_ret (v := .tuple #[.agg #[.int .i64 (N : Int), .slice (some ⟨q, 0, none⟩) n c], .slice ta tn tc]) (by simp [results, Try.results50, go_sem, r0, r1, k4]) rfl ⟨_, _, _, _, _, _, _, _, _, rfl, HP.out, HMt.out, hn60, HBl.out⟩
  · have hb0 : (FR.2 != 0) = true := by simpa using hbad
    have HM1 := Lib.hid (matLit w4 0)
    have HDl := Lib.hid ((HD4.out.base HD4.out.gbl (b_alloc2 w4 (.cells #[.int .i64 0] 2) (.cells #[.slice (some ⟨w4.heap.size, 0, none⟩) 1 1] 24))))
    obtain ⟨k1, k2, k3, k4⟩ := HD4.out.fin (.int .i64 x) (.slice (some ⟨q, 0, none⟩) n c)
    have hrl : w.heap.size < w4.heap.size := k4
    have hz : ((w4.setCell ⟨w.heap.size, 0, none⟩ (.int .i64 x)).setCell ⟨w.heap.size, 1, none⟩ (.slice (some ⟨q, 0, none⟩) n c)).heap.size = w4.heap.size := by simp
    have hm := matLit ((w4.setCell ⟨w.heap.size, 0, none⟩ (.int .i64 x)).setCell ⟨w.heap.size, 1, none⟩ (.slice (some ⟨q, 0, none⟩) n c)) 0
    have hb2 := b_alloc2 ((w4.setCell ⟨w.heap.size, 0, none⟩ (.int .i64 x)).setCell ⟨w.heap.size, 1, none⟩ (.slice (some ⟨q, 0, none⟩) n c)) (.cells #[.int .i64 0] 2) (.cells #[.slice (some ⟨w4.heap.size, 0, none⟩) 1 1] 24)
    rw [hz] at hm
    have HMt := Lib.hid hm
    have HP := Lib.hid (k2.below hb2)
    have HBl := Lib.hid (k3.trans (hb2.mono (by rw [hz]; omega)))
    obtain ⟨r0, r1, r2, r3⟩ := HD4.out.res
    have hrl2 : w.heap.size < w4.heap.size + 1 + 1 := by omega
    clear HO4 k1 k2 k3 k4 HM1 HDl hm hb2 hz
    go_wp2
    exact bodyPost_ret (v := .tuple #[.agg #[.int .i64 x, .slice (some ⟨q, 0, none⟩) n c], .slice (some ⟨w4.heap.size + 1, 0, none⟩) 1 1]) (by simp [results, Try.results50, go_sem, r0, r1, hrl, hrl2]) rfl ⟨_, _, _, _, _, _, _, _, _, rfl, HP.out, HMt.out, hn60, HBl.out⟩
end V
end Go.Proofs.Ytjbffpmelglegaa
