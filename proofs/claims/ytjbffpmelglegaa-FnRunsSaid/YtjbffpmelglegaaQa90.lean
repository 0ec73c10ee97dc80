/- Texts laid together: Fry. -/
import Derived.Test.YtjbffpmelglegaaQa86
set_option linter.unusedSimpArgs false
set_option linter.unusedVariables false
set_option linter.unusedSectionVars false
namespace Go.Proofs.Ytjbffpmelglegaa
namespace V
set_option maxRecDepth 100000
open Go.RowKit
/-- A drawn graph and a drawn run, for a law. -/
def DrawnGF (w : World) (e : Ending) (w' : World) : Prop :=
  ∃ (x : Int) (pa : Option Addr) (n c : Nat) (l : List M.Pc) (fa : Option Addr) (m c2 : Nat) (R : List M.Fr), e = .returned (.tuple #[.agg #[.int .i64 x, .slice pa n c], .slice fa m c2]) ∧ Pls w' pa n l ∧ Frs w' fa m R ∧ m ≤ c2 ∧ c2 ≤ maxLen ∧ n ≤ 60 ∧ Below w.heap.size w w'
set_option maxRecDepth 100000 in
set_option maxHeartbeats 2000000 in
theorem drawLatenessOf (a : Option Addr) (m cap : Nat) (w : World) (h : Bytes w a m) :
    Calls Try.prog 36 #[.slice a m cap] w (DrawnGF w) := by
  have hb0 := b_alloc w (.cells #[.int .i64 0, .slice none 0 0] 41)
  have HB := Lib.hid (h.below hb0)
  have HB0 := Lib.hid hb0
  clear h hb0
  go_enter Try.func36, Try.ntmps36
  go_wp2_with fail
  refine (from_ _ _ _ _ HB.out).mono ?_
  rintro e w1 ⟨rfl, hs1, hb1⟩
  have HR1 := Lib.hid ((resG_new w 41).below hb1)
  have HB1 := Lib.hid (HB0.out.trans (hb1.mono HB0.out.size))
  have HS1 := Lib.hid hs1
  have hgz : w.heap.size < (w.alloc (.cells #[.int .i64 0, .slice none 0 0] 41)).heap.size := by simp
  obtain ⟨g, hgd⟩ : ∃ g, g = (w.alloc (.cells #[.int .i64 0, .slice none 0 0] 41)).heap.size := ⟨_, rfl⟩
  rw [← hgd] at HS1 hgz
  have HGd := Lib.hid hgd
  clear hs1 hb1 hgd
  go_wp2_with fail
  refine (draw14 _ _ (by first | exact HS1.out | (have := HS1.out; rw [HGd.out] at this; simpa using this))).mono ?_
  rintro e w2 ⟨x, pa, n, c, l, fa, mm, c2, R, rfl, hk, hmc, hcm, hn60, hs, ht⟩
  have hg1 := HS1.out.lt
  have hR2 : ResG w2 w.heap.size := by
    obtain ⟨r0, r1, r2, r3⟩ := HR1.out
    have hl : w.heap.size < w.heap.size + 1 := Nat.lt_succ_self _
    exact ⟨(ht.below.cell (p := ⟨w.heap.size, 0, none⟩) hl).trans r0, (ht.below.cell (p := ⟨w.heap.size, 1, none⟩) hl).trans r1, (ht.below.frozen (p := ⟨w.heap.size, 0, none⟩) hl).trans r2, (ht.below.frozen (p := ⟨w.heap.size, 1, none⟩) hl).trans r3⟩
  have hB2 := Lib.hid (HB1.out.trans (ht.below.mono (by omega)))
  have HK := Lib.hid hk
  have HMC := Lib.hid hmc
  have HCM := Lib.hid hcm
  have hrl : w.heap.size < w2.heap.size := cell_lt hR2.1
  have hrl1 : w.heap.size < w1.heap.size := by omega
  obtain ⟨r0, r1, r2, r3⟩ := hR2
  clear hk hs ht hg1 hgz hmc hcm
  go_wp2
  have hfin := HK.out ((w2.setCell ⟨w.heap.size, 0, none⟩ (.int .i64 x)).setCell ⟨w.heap.size, 1, none⟩ (.slice pa n c)) fun k k1 _ => (Below.heap_setCell _ _ _ _ (by show k ≠ w.heap.size; omega)).trans (Below.heap_setCell _ _ _ _ (by show k ≠ w.heap.size; omega))
  exact bodyPost_ret (v := .tuple #[.agg #[.int .i64 x, .slice pa n c], .slice fa mm c2]) (by simp [results, Try.results36, go_sem, r0, r1, hrl]) rfl ⟨x, pa, n, c, l, fa, mm, c2, R, rfl, hfin.1, hfin.2, HMC.out, HCM.out, hn60, (hB2.out.setCell (p := ⟨w.heap.size, 0, none⟩) (Nat.le_refl _) _).setCell (p := ⟨w.heap.size, 1, none⟩) (Nat.le_refl _) _⟩
end V
end Go.Proofs.Ytjbffpmelglegaa
