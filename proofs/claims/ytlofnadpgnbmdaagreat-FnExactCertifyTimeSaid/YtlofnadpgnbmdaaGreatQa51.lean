/- Texts laid together: Cwm. -/
import Derived.Test.YtlofnadpgnbmdaaGreatQa26
import Derived.Test.YtlofnadpgnbmdaaGreatQa49
import Derived.Test.YtlofnadpgnbmdaaGreatQa47
set_option linter.unusedSimpArgs false
set_option linter.unusedVariables false
set_option linter.unusedSectionVars false
namespace Go.Proofs.YtlofnadpgnbmdaaGreat
namespace V
set_option maxRecDepth 100000
open Go.RowKit
set_option maxRecDepth 100000 in
set_option maxHeartbeats 4000000 in
theorem sWeights (N : Nat) (r0 r1 : Int) (a : Option Addr) (n cap : Nat) (l : List M.Pc) (w : World) (h : Pls w a n l) (hg : M.isGr (N : Int) l = true) (hr : M.isRat r0 r1 = true) :
    Calls Tryz.prog 73 #[.agg #[.int .i64 N, .slice a n cap], .agg #[.int .i64 r0, .int .i64 r1]] w (MPost N (M.wtM (M.fExc r0 r1) N l) w) := by
  have HI := Lib.hid h
  have HL : Hid (l.length = n) := h.1
  have HG := Lib.hid hg
  obtain ⟨n1, n2, hl30⟩ := gr_N hg
  have hn30 : n ≤ 30 := by rw [h.1] at hl30; exact hl30
  have hb0 := b_alloc2 w (.cells #[.int .i64 N, .slice a n cap] 26) (.cells #[.int .i64 r0, .int .i64 r1] 37)
  have hGb := (gBox_new w N a n cap 26).below (b_alloc _ (.cells #[.int .i64 r0, .int .i64 r1] 37))
  have hRb := RQ.new (w.alloc (.cells #[.int .i64 N, .slice a n cap] 26)) r0 r1
  rw [World.size_alloc] at hRb
  obtain ⟨wb, hwb⟩ : ∃ z, z = (w.alloc (.cells #[.int .i64 N, .slice a n cap] 26)).alloc (.cells #[.int .i64 r0, .int .i64 r1] 37) := ⟨_, rfl⟩
  rw [← hwb] at hb0 hGb hRb
  have HRb := Lib.hid hRb
  have HRat := Lib.hid hr
  have hgb : w.heap.size + 1 < wb.heap.size := cell_lt hRb.1
  have HGb := Lib.hid hGb
  have HB0 := Lib.hid hb0
  obtain ⟨g0, g1⟩ := hGb
  have HFill : Hid (M.botM N N = M.wtM (M.fExc r0 r1) N (l.take 0)) := by show _ = _; rfl
  clear h hg hl30 hb0 hr hRb
  go_enter Tryz.func73, Tryz.ntmps73
  go_wp2_with fail
  rw [← hwb]
  clear hwb
  refine (sBottom N N wb (by omega) (by omega)).mono ?_
  rintro e w1 ⟨b, c, rfl, ho, hb⟩
  rw [HFill.out] at ho
  have HO1 : Hid (OwnM w1 (w.heap.size + 2) (.slice b N c) (M.wtM (M.fExc r0 r1) N (l.take 0))) := ho.mono hgb
  have HB1 := Lib.hid (HB0.out.trans (hb.mono HB0.out.size))
  have HG1 := Lib.hid (HGb.out.below hb)
  have HR1 := Lib.hid (HRb.out.eq (hb.block _ (cell_lt HRb.out.1)))
  clear ho hb g0 g1
  go_wp2
  go_loopw [6] (fun kv wr => ∃ k : Nat, k ≤ n ∧ kv = .int .i64 k ∧ Hid (OwnM wr (w.heap.size + 2) (.slice b N c) (M.wtM (M.fExc r0 r1) N (l.take k))) ∧ Hid (GBox wr w.heap.size N a n cap) ∧ Hid (RQ wr (w.heap.size + 1) (r0, r1)) ∧ Hid (Below w.heap.size w wr)) (fun kv _ => n - (intOf kv).toNat)
  case atStart => exact ⟨0, Nat.zero_le _, rfl, HO1, HG1, HR1, HB1⟩
  case round =>
    obtain ⟨k, hk, rfl, HO, HGk, HRk, HB⟩ := hrel
    obtain ⟨wo, rfl⟩ : ∃ x, x = wr := ⟨_, rfl⟩
    clear HO1 HB1 HG1 HR1
    obtain ⟨g0, g1⟩ := HGk.out
    by_cases hkl : k < n
    · have hki : (k : Int) < (n : Int) := by omega
      obtain ⟨pb, off, p0, p1, p2, p3, rfl, -, hp, c0, c1, c2, c3⟩ := (HI.out.below HB.out).at k hkl
      obtain ⟨i, j, hi, hj, rfl, rfl, t2, t2', t3, t3'⟩ := gr_at HG.out (by rw [HL.out]; exact hkl) hp
      have hij : (i : Int) < (N : Int) := by omega
      have hjj : (j : Int) < (N : Int) := by omega
      obtain ⟨b1, b2, b3, b4⟩ := M.exc_bd HRat.out t2 t2' t3 t3'
      have e1 : IntKind.i64.wrap (r1 * p2) = r1 * p2 := IntWalk.i64_in _ (by omega)
      have e2 : IntKind.i64.wrap (r0 * p3) = r0 * p3 := IntWalk.i64_in _ (by omega)
      have e3 : IntKind.i64.wrap (r1 * p2 - r0 * p3) = r1 * p2 - r0 * p3 := IntWalk.i64_in _ (by omega)
      have hrow : ((M.wtM (M.fExc r0 r1) N (l.take k)).getD i []).length = N := M.mk_rowlen _ _ _ _ hi
      obtain ⟨o, q, L, rc, y, rfl, ho1, hq1, hL, hy, m1, m2, m3, m4⟩ := HO.out.at i j hi (by rw [hrow]; exact hj)
      rw [hrow] at hL
      replace hL := hL.symm
      subst hL
      have hyv : y = M.wtF (M.fExc r0 r1) (l.take k) i j := by rw [hy]; exact M.ent_mk _ _ _ _ _ hi hj
      have hN := M.wtM_next (M.fExc r0 r1) N l (k := k) (by rw [HL.out]; exact hkl) hp hi rfl rfl
      rw [← hyv, show (M.fExc r0 r1) ((j : Int), (i : Int), p2, p3) = r1 * p2 - r0 * p3 from rfl] at hN
      obtain ⟨wp, hwp⟩ : ∃ z, z = wo.alloc (.cells #[.int .i64 j, .int .i64 i, .int .i64 p2, .int .i64 p3] 71) := ⟨_, rfl⟩
      have hbp : Below wo.heap.size wo wp := by rw [hwp]; exact b_alloc wo _
      have x0 : wp.cell? ⟨wo.heap.size, 0, none⟩ = some (.int .i64 j) := by rw [hwp]; simp [go_sem]
      have x1 : wp.cell? ⟨wo.heap.size, 1, none⟩ = some (.int .i64 i) := by rw [hwp]; simp [go_sem]
      have x2 : wp.cell? ⟨wo.heap.size, 2, none⟩ = some (.int .i64 p2) := by rw [hwp]; simp [go_sem]
      have x3 : wp.cell? ⟨wo.heap.size, 3, none⟩ = some (.int .i64 p3) := by rw [hwp]; simp [go_sem]
      have n1' : wp.cell? ⟨o, i, none⟩ = some (.slice (some ⟨q, 0, none⟩) N rc) := (hbp.cell (cell_lt m1)).trans m1
      have n2' : wp.cell? ⟨q, j, none⟩ = some (.int .i64 y) := (hbp.cell (cell_lt m2)).trans m2
      have n3' : wp.frozen? ⟨q, j, none⟩ = false := (hbp.frozen (cell_lt m2)).trans m3
      have HM := HO.out.below hbp
      obtain ⟨o', q', L', rc', y', ho', -, -, hL', hy', k1, k2, k3, k4⟩ := HM.at i j hi (by rw [hrow]; exact hj)
      injection ho' with ho'
      injection ho' with ho'
      subst ho'
      rw [n1'] at k1
      injection k1 with k1
      injection k1 with k1 k1' k1''
      injection k1 with k1
      injection k1 with k1
      subst k1
      have HN : Hid (∀ v, v = max y (r1 * p2 - r0 * p3) → OwnM (wp.setCell ⟨q, j, none⟩ (.int .i64 v)) (w.heap.size + 2) (.slice (some ⟨o, 0, none⟩) N c) (M.wtM (M.fExc r0 r1) N (l.take (k + 1)))) := fun v hv => by rw [← hN, ← hv]; exact k4 v
      have hBp := HB.out.trans (hbp.mono HB.out.size)
      have hq2 : w.heap.size ≤ q := by omega
      have HBn : Hid (∀ v, Below w.heap.size w (wp.drew.setCell ⟨q, j, none⟩ (.int .i64 v))) := fun v => hBp.drew.setCell (p := ⟨q, j, none⟩) hq2 _
      have HGn : Hid (∀ v, GBox (wp.drew.setCell ⟨q, j, none⟩ (.int .i64 v)) w.heap.size N (some ⟨pb, off, none⟩) n cap) := fun v => by
        have e : (wp.drew.setCell ⟨q, j, none⟩ (.int .i64 v)).heap[w.heap.size]? = wp.heap[w.heap.size]? := Below.heap_setCell _ _ _ _ (by show w.heap.size ≠ q; omega)
        obtain ⟨f0, f1⟩ := HGk.out.below hbp
        exact ⟨(World.cell?_of_block (a := ⟨w.heap.size, 0, none⟩) e).trans f0, (World.cell?_of_block (a := ⟨w.heap.size, 1, none⟩) e).trans f1⟩
      obtain ⟨y0, y1⟩ := HRk.out.eq (hbp.block _ (cell_lt HRk.out.1))
      have HRn : Hid (∀ v, RQ (wp.drew.setCell ⟨q, j, none⟩ (.int .i64 v)) (w.heap.size + 1) (r0, r1)) := fun v => (HRk.out.eq (hbp.block _ (cell_lt HRk.out.1))).eq (Below.heap_setCell _ _ _ _ (by show w.heap.size + 1 ≠ q; omega))
      have HWp := Lib.hid hwp.symm
      clear hp hN hy hyv hrow m4 k1' k1'' k2 k3 k4 hL' hy' HM hBp hwp hbp m1 m2 m3 b1 b2 b3 b4
      go_wp2
      rw [HWp.out]
      go_still_tail 29, (by kernel_rfl)
      change wpList _ _ _ _ _ wp.drew
      go_wp2
      go_roundw
      case rel => exact ⟨k + 1, by omega, by go_num, (HN.out _ (by split <;> omega)).keep (fun _ _ _ => rfl), HGn.out _, HRn.out _, HBn.out _⟩
      case measure => simp [intOf]; omega
    · obtain rfl : k = n := by omega
      have HE : Hid (l.take k = l) := List.take_of_length_le (by rw [HL.out]; exact Nat.le_refl _)
      rw [HE.out] at HO
      go_wp2
      go_ret
      exact ⟨_, _, rfl, HO.out.mono (by omega), HB.out⟩
end V
end Go.Proofs.YtlofnadpgnbmdaaGreat
