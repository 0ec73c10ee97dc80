/- Texts laid together: Lvd. -/
import Derived.Test.YtlofnadpgnbmdaaGreatQa25
import Derived.StillTailTactics
set_option linter.unusedSimpArgs false
set_option linter.unusedVariables false
set_option linter.unusedSectionVars false
namespace Go.Proofs.YtlofnadpgnbmdaaGreat
namespace M
theorem wtF_low (f : Int × Int × Int × Int → Int) (l : List (Int × Int × Int × Int)) (i j : Nat) : -1000000000000000 ≤ wtF f l i j := by
  unfold wtF
  suffices H : ∀ m, (-1000000000000000 : Int) ≤ m → -1000000000000000 ≤ l.foldl (wtS f i j) m from H _ (Int.le_refl _)
  induction l with
  | nil => intro m hm; exact hm
  | cons p l ih =>
    intro m hm
    refine ih _ ?_
    unfold wtS
    split <;> omega
theorem wtM_skip (f : Int × Int × Int × Int → Int) (n : Nat) (l : List (Int × Int × Int × Int)) {k : Nat} (hk : k < l.length) (hp : f (l.getD k (0, 0, 0, 0)) = -1000000000000000) : wtM f n (l.take k) = wtM f n (l.take (k + 1)) := by
  unfold wtM
  refine mk_congr fun s _ t _ => ?_
  rw [wtF_next f l hk]
  unfold wtS
  have := wtF_low f (l.take k) s t
  split
  · rw [hp]; omega
  · rfl
theorem wtF_nil (l : List (Int × Int × Int × Int)) (i j : Nat) : max (wtF fNil l i j) 0 = 0 := by
  have := wtF_of (P := fun x => x ≤ 0) (f := fNil) (l := l) (fun p _ => by unfold fNil; split <;> omega) (by omega) i j
  have this : wtF fNil l i j ≤ 0 := this
  omega
end M
namespace V
set_option maxRecDepth 100000
open Go.RowKit
set_option maxRecDepth 100000 in
set_option maxHeartbeats 4000000 in
theorem sFree (N : Nat) (a : Option Addr) (n cap : Nat) (l : List M.Pc) (w : World) (h : Pls w a n l) (hg : M.isGr (N : Int) l = true) :
    Calls Tryz.prog 146 #[.agg #[.int .i64 N, .slice a n cap]] w (MPost N (M.wtM M.fNil N l) w) := by
  have HI := Lib.hid h
  have HL : Hid (l.length = n) := h.1
  have HG := Lib.hid hg
  obtain ⟨n1, n2, hl30⟩ := gr_N hg
  have hn30 : n ≤ 30 := by rw [h.1] at hl30; exact hl30
  have hb0 := b_alloc w (.cells #[.int .i64 N, .slice a n cap] 26)
  have hGb := gBox_new w N a n cap 26
  obtain ⟨wb, hwb⟩ : ∃ z, z = w.alloc (.cells #[.int .i64 N, .slice a n cap] 26) := ⟨_, rfl⟩
  rw [← hwb] at hb0 hGb
  have hgb : w.heap.size < wb.heap.size := cell_lt hGb.1
  have HGb := Lib.hid hGb
  have HB0 := Lib.hid hb0
  obtain ⟨g0, g1⟩ := hGb
  have HFill : Hid (M.botM N N = M.wtM M.fNil N (l.take 0)) := by show _ = _; rfl
  clear h hg hl30 hb0
  go_enter Tryz.func146, Tryz.ntmps146
  go_wp2_with fail
  rw [← hwb]
  clear hwb
  refine (sBottom N N wb (by omega) (by omega)).mono ?_
  rintro e w1 ⟨b, c, rfl, ho, hb⟩
  rw [HFill.out] at ho
  have HO1 : Hid (OwnM w1 (w.heap.size + 1) (.slice b N c) (M.wtM M.fNil N (l.take 0))) := ho.mono hgb
  have HB1 := Lib.hid (HB0.out.trans (hb.mono HB0.out.size))
  have HG1 := Lib.hid (HGb.out.below hb)
  clear ho hb g0 g1
  go_wp2
  go_loopw [4] (fun kv wr => ∃ k : Nat, k ≤ n ∧ kv = .int .i64 k ∧ Hid (OwnM wr (w.heap.size + 1) (.slice b N c) (M.wtM M.fNil N (l.take k))) ∧ Hid (GBox wr w.heap.size N a n cap) ∧ Hid (Below w.heap.size w wr)) (fun kv _ => n - (intOf kv).toNat)
  case atStart => exact ⟨0, Nat.zero_le _, rfl, HO1, HG1, HB1⟩
  case round =>
    obtain ⟨k, hk, rfl, HO, HGk, HB⟩ := hrel
    obtain ⟨wo, rfl⟩ : ∃ x, x = wr := ⟨_, rfl⟩
    clear HO1 HB1 HG1
    obtain ⟨g0, g1⟩ := HGk.out
    by_cases hkl : k < n
    · have hki : (k : Int) < (n : Int) := by omega
      obtain ⟨pb, off, p0, p1, p2, p3, rfl, -, hp, c0, c1, c2, c3⟩ := (HI.out.below HB.out).at k hkl
      obtain ⟨i, j, hi, hj, rfl, rfl, t2, t2', t3, t3'⟩ := gr_at HG.out (by rw [HL.out]; exact hkl) hp
      have hij : (i : Int) < (N : Int) := by omega
      have hjj : (j : Int) < (N : Int) := by omega
      by_cases hz : p3 = 0
      · subst hz
        have hrow : ((M.wtM M.fNil N (l.take k)).getD i []).length = N := M.mk_rowlen _ _ _ _ hi
        obtain ⟨o, q, L, rc, y, rfl, ho1, hq1, hL, hy, m1, m2, m3, m4⟩ := HO.out.at i j hi (by rw [hrow]; exact hj)
        rw [hrow] at hL
        replace hL := hL.symm
        subst hL
        have hN := M.wtM_next M.fNil N l (k := k) (by rw [HL.out]; exact hkl) hp hi rfl rfl
        rw [show M.fNil ((j : Int), (i : Int), p2, 0) = 0 from rfl, M.wtF_nil] at hN
        have HN : Hid (OwnM (wo.setCell ⟨q, j, none⟩ (.int .i64 0)) (w.heap.size + 1) (.slice (some ⟨o, 0, none⟩) N c) (M.wtM M.fNil N (l.take (k + 1)))) := by rw [← hN]; exact m4 0
        have HBn := Lib.hid (HB.out.drew.setCell (p := ⟨q, j, none⟩) (by show w.heap.size ≤ q; omega) (.int .i64 0))
        have HGn : Hid (GBox (wo.drew.setCell ⟨q, j, none⟩ (.int .i64 0)) w.heap.size N (some ⟨pb, off, none⟩) n cap) := by
          have e : (wo.drew.setCell ⟨q, j, none⟩ (.int .i64 0)).heap[w.heap.size]? = wo.heap[w.heap.size]? := Below.heap_setCell _ _ _ _ (by show w.heap.size ≠ q; omega)
          exact ⟨(World.cell?_of_block (a := ⟨w.heap.size, 0, none⟩) e).trans g0, (World.cell?_of_block (a := ⟨w.heap.size, 1, none⟩) e).trans g1⟩
        clear hp hN hy hrow m4
        go_wp2
        go_still_tail 16, (by kernel_rfl)
        change wpList _ _ _ _ _ wo.drew
        go_wp2
        go_roundw
        case rel => exact ⟨k + 1, by omega, by go_num, HN.out.keep (fun _ _ _ => rfl), HGn, HBn⟩
        case measure => simp [intOf]; omega
      · have hz' : (p3 == 0) = false := by simpa using hz
        have hN := M.wtM_skip M.fNil N l (k := k) (by rw [HL.out]; exact hkl) (by rw [show l.getD k (0, 0, 0, 0) = _ from hp]; exact if_pos (show p3 > 0 by omega))
        rw [hN] at HO
        clear hp hN
        go_wp2
        go_roundw
        case rel => exact ⟨k + 1, by omega, by go_num, HO, HGk, HB⟩
        case measure => simp [intOf]; omega
    · obtain rfl : k = n := by omega
      have HE : Hid (l.take k = l) := List.take_of_length_le (by rw [HL.out]; exact Nat.le_refl _)
      rw [HE.out] at HO
      go_wp2
      go_ret
      exact ⟨_, _, rfl, HO.out.mono (by omega), HB.out⟩
end V
end Go.Proofs.YtlofnadpgnbmdaaGreat
