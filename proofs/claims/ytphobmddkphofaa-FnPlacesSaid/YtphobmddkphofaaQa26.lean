/- Texts laid together: Dge. -/
import Derived.Test.YtphobmddkphofaaQa25
set_option linter.unusedSimpArgs false
set_option linter.unusedVariables false
set_option linter.unusedSectionVars false
namespace Go.Proofs.Ytphobmddkphofaa
namespace V
set_option maxRecDepth 100000
open Go.RowKit
/-- A drawn graph and a drawn number, for a law. -/
def DrawnGI (w : World) (e : Ending) (w' : World) : Prop :=
  ∃ (x : Int) (q n c : Nat) (l : List M.Pc) (y : Int), e = .returned (.tuple #[.agg #[.int .i64 x, .slice (some ⟨q, 0, none⟩) n c], .int .i64 y]) ∧ OwnPl w' w.heap.size (.slice (some ⟨q, 0, none⟩) n c) l ∧ n ≤ 60 ∧ Below w.heap.size w w'
set_option maxRecDepth 100000 in
set_option maxHeartbeats 2000000 in
theorem drawPlacesInto (a : Option Addr) (m cap : Nat) (w : World) (h : Bytes w a m) :
    Calls Try.prog 18 #[.slice a m cap] w (DrawnGI w) := by
  have hb0 := b_alloc w (.cells #[.int .i64 0, .slice none 0 0] 26)
  have HB := Lib.hid (h.below hb0)
  have HB0 := Lib.hid hb0
  clear h hb0
  go_enter Try.func18, Try.ntmps18
  go_wp2_with fail
  refine (from_ _ _ _ _ HB.out).mono ?_
  rintro e w1 ⟨rfl, hs1, hb1⟩
  have HR1 := Lib.hid ((resG_new w 26).below hb1)
  have HB1 := Lib.hid (HB0.out.trans (hb1.mono HB0.out.size))
  have HS1 := Lib.hid hs1
  have hgz : w.heap.size < (w.alloc (.cells #[.int .i64 0, .slice none 0 0] 26)).heap.size := by simp
  obtain ⟨g, hgd⟩ : ∃ g, g = (w.alloc (.cells #[.int .i64 0, .slice none 0 0] 26)).heap.size := ⟨_, rfl⟩
  rw [← hgd] at HS1 hgz
  have HGd := Lib.hid hgd
  clear hs1 hb1 hgd
  go_wp2_with fail
  refine (drawEvent11 _ _ (by first | exact HS1.out | (have := HS1.out; rw [HGd.out] at this; simpa using this))).mono ?_
  rintro e w2 ⟨x, q, n, c, l, y, rfl, ho, hn60, wfx, hs, ht⟩
  have hg1 := HS1.out.lt
  have hR2 : ResG w2 w.heap.size := by
    obtain ⟨r0, r1, r2, r3⟩ := HR1.out
    have hl : w.heap.size < w.heap.size + 1 := Nat.lt_succ_self _
    exact ⟨(ht.below.cell (p := ⟨w.heap.size, 0, none⟩) hl).trans r0, (ht.below.cell (p := ⟨w.heap.size, 1, none⟩) hl).trans r1, (ht.below.frozen (p := ⟨w.heap.size, 0, none⟩) hl).trans r2, (ht.below.frozen (p := ⟨w.heap.size, 1, none⟩) hl).trans r3⟩
  have hB2 := Lib.hid (HB1.out.trans (ht.below.mono (by omega)))
  have HO2 := Lib.hid ho
  have HQ : Hid (w.heap.size < q) := by have h1 := (ho.lt (k := q) rfl).1; have h2 := hg1; show _ < _; omega
  have HSz : Hid (w.heap.size ≤ w1.heap.size) := HB1.out.size
  have hrl : w.heap.size < w2.heap.size := cell_lt hR2.1
  obtain ⟨r0, r1, r2, r3⟩ := hR2
  clear ho hs ht wfx hg1 hgz
  go_wp2
  refine bodyPost_ret (v := .tuple #[.agg #[.int .i64 x, .slice (some ⟨q, 0, none⟩) n c], .int .i64 y]) (by simp [results, Try.results18, go_sem, r0, r1, hrl]) rfl ⟨x, q, n, c, l, y, rfl, ?_, hn60, ?_⟩
  · refine (HO2.out.mono HSz.out).keepB fun k hk => ?_
    have hkq : k = q := by simp [Value.ownBlock] at hk; exact hk.symm
    subst hkq
    have := HQ.out
    exact (Below.heap_setCell _ _ _ _ (by show k ≠ w.heap.size; omega)).trans (Below.heap_setCell _ _ _ _ (by show k ≠ w.heap.size; omega))
  · exact (hB2.out.setCell (p := ⟨w.heap.size, 0, none⟩) (Nat.le_refl _) _).setCell (p := ⟨w.heap.size, 1, none⟩) (Nat.le_refl _) _
set_option maxRecDepth 100000 in
set_option maxHeartbeats 2000000 in
theorem drawDropPlace (a : Option Addr) (m cap : Nat) (w : World) (h : Bytes w a m) :
    Calls Try.prog 26 #[.slice a m cap] w (DrawnGI w) := by
  have hb0 := b_alloc w (.cells #[.int .i64 0, .slice none 0 0] 26)
  have HB := Lib.hid (h.below hb0)
  have HB0 := Lib.hid hb0
  clear h hb0
  go_enter Try.func26, Try.ntmps26
  go_wp2_with fail
  refine (from_ _ _ _ _ HB.out).mono ?_
  rintro e w1 ⟨rfl, hs1, hb1⟩
  have HR1 := Lib.hid ((resG_new w 26).below hb1)
  have HB1 := Lib.hid (HB0.out.trans (hb1.mono HB0.out.size))
  have HS1 := Lib.hid hs1
  have hgz : w.heap.size < (w.alloc (.cells #[.int .i64 0, .slice none 0 0] 26)).heap.size := by simp
  obtain ⟨g, hgd⟩ : ∃ g, g = (w.alloc (.cells #[.int .i64 0, .slice none 0 0] 26)).heap.size := ⟨_, rfl⟩
  rw [← hgd] at HS1 hgz
  have HGd := Lib.hid hgd
  clear hs1 hb1 hgd
  go_wp2_with fail
  refine (drawIndex11 _ _ (by first | exact HS1.out | (have := HS1.out; rw [HGd.out] at this; simpa using this))).mono ?_
  rintro e w2 ⟨x, q, n, c, l, y, rfl, ho, hn60, wfx, hs, ht⟩
  have hg1 := HS1.out.lt
  have hR2 : ResG w2 w.heap.size := by
    obtain ⟨r0, r1, r2, r3⟩ := HR1.out
    have hl : w.heap.size < w.heap.size + 1 := Nat.lt_succ_self _
    exact ⟨(ht.below.cell (p := ⟨w.heap.size, 0, none⟩) hl).trans r0, (ht.below.cell (p := ⟨w.heap.size, 1, none⟩) hl).trans r1, (ht.below.frozen (p := ⟨w.heap.size, 0, none⟩) hl).trans r2, (ht.below.frozen (p := ⟨w.heap.size, 1, none⟩) hl).trans r3⟩
  have hB2 := Lib.hid (HB1.out.trans (ht.below.mono (by omega)))
  have HO2 := Lib.hid ho
  have HQ : Hid (w.heap.size < q) := by have h1 := (ho.lt (k := q) rfl).1; have h2 := hg1; show _ < _; omega
  have HSz : Hid (w.heap.size ≤ w1.heap.size) := HB1.out.size
  have hrl : w.heap.size < w2.heap.size := cell_lt hR2.1
  obtain ⟨r0, r1, r2, r3⟩ := hR2
  clear ho hs ht wfx hg1 hgz
  go_wp2
  refine bodyPost_ret (v := .tuple #[.agg #[.int .i64 x, .slice (some ⟨q, 0, none⟩) n c], .int .i64 y]) (by simp [results, Try.results26, go_sem, r0, r1, hrl]) rfl ⟨x, q, n, c, l, y, rfl, ?_, hn60, ?_⟩
  · refine (HO2.out.mono HSz.out).keepB fun k hk => ?_
    have hkq : k = q := by simp [Value.ownBlock] at hk; exact hk.symm
    subst hkq
    have := HQ.out
    exact (Below.heap_setCell _ _ _ _ (by show k ≠ w.heap.size; omega)).trans (Below.heap_setCell _ _ _ _ (by show k ≠ w.heap.size; omega))
  · exact (hB2.out.setCell (p := ⟨w.heap.size, 0, none⟩) (Nat.le_refl _) _).setCell (p := ⟨w.heap.size, 1, none⟩) (Nat.le_refl _) _
end V
end Go.Proofs.Ytphobmddkphofaa
