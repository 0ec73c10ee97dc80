/- Texts laid together: DgC. -/
import Derived.Test.YtjbffpmelglegaaQa91
import Derived.Test.YtjbffpmelglegaaQa34
set_option linter.unusedSimpArgs false
set_option linter.unusedVariables false
set_option linter.unusedSectionVars false
namespace Go.Proofs.Ytjbffpmelglegaa
namespace V
set_option maxRecDepth 100000
open Go.RowKit
set_option maxRecDepth 100000 in
set_option maxHeartbeats 4000000 in
theorem draw12B (g : Nat) (w : World) (h : Src w g) :
    Calls Try.prog 136 #[.pointer (some ⟨g, 0, none⟩)] w (DrawGB g w) := by
  have HS := Lib.hid h
  have hg := h.lt
  clear h
  go_enter Try.func136, Try.ntmps136
  go_wp2_with fail
  refine (draw11B g _ (HS.out.alloc _)).mono ?_
  rintro e w2 ⟨x, q, n, c, l, rfl, ho, hn60, wfx, hs, ht⟩
  have hq := (ho.lt (k := q) rfl).1
  have hql := (ho.lt (k := q) rfl).2
  simp at hq
  have hb1 : w.heap.size < w2.heap.size := by omega
  have HGD0 : Hid (GD g w.heap.size w2.heap.size w (w2.alloc (.cells #[.int .i64 x, .slice (some ⟨q, 0, none⟩) n c] 41)) x q n c l) := by
    have hb2 := b_alloc w2 (.cells #[.int .i64 x, .slice (some ⟨q, 0, none⟩) n c] 41)
    have hr := (resG_new w 41).thr ht hg
    have ht1 := ((Thr.refl g w).alloc (Nat.le_of_lt hg) _).trans ht
    exact ⟨hr.below hb2, by simp [go_sem], by simp [go_sem], by simp [go_sem], by simp [go_sem], (ho.below hb2).mono (by simp), by omega, by omega, by omega, Nat.le_refl _, by omega, by omega, hg, hs.below (hb2.mono (by omega)), ht1.trans (Thr.of_below hb2 (by omega))⟩
  obtain ⟨gb, hgb⟩ : ∃ b, b = w2.heap.size := ⟨_, rfl⟩
  obtain ⟨w3, hw3⟩ : ∃ z, z = w2.alloc (.cells #[.int .i64 x, .slice (some ⟨q, 0, none⟩) n c] 41) := ⟨_, rfl⟩
  rw [← hw3, ← hgb] at HGD0
  have HW3 := Lib.hid hw3.symm
  have HGb := Lib.hid hgb.symm
  clear ho hs ht hw3 hgb hq hql hb1
  go_upto_region 2 with fail
  rw [HW3.out, HGb.out]
  clear HW3 HGb
  go_wp2
  go_loopw [4] (fun iv wr => ∃ (i : Nat) (l : List M.Pc), iv = .int .i64 i ∧ i ≤ n ∧ Hid (GD g w.heap.size gb w wr x q n c l)) (fun iv _ => n - (intOf iv).toNat)
  case atStart => exact ⟨0, l, rfl, Nat.zero_le _, HGD0⟩
  case round =>
    clear HGD0
    obtain ⟨i, l, rfl, hin, HG⟩ := hrel
    obtain ⟨wo, rfl⟩ : ∃ x, x = wr := ⟨_, rfl⟩
    have hev := HG.out.ev
    have hpl := HG.out.pl
    by_cases hi : i < n ∧ i < 9
    · obtain ⟨hi1, hi2⟩ := hi
      have hi1' : (i : Int) < (n : Int) := by omega
      have hi2' : (i : Int) < 9 := by omega
      go_wp2_with fail
      refine (next _ _ _ (by decide) HG.out.src).mono ?_
      rintro e wn ⟨y, rfl, -, -, hs, ht⟩
      have HGn := Lib.hid (HG.out.step hs ht)
      clear hs ht hev hpl
      have hpl := HGn.out.pl
      by_cases hy : y = 0
      · subst hy
        have HGs := Lib.hid (HGn.out.setT hi1 0)
        obtain ⟨b', o', p0, p1, p2, p3, hbb, -, hp, c0, c1, c2, c3⟩ := HGn.out.own.pls.at i hi1
        injection hbb with hbb
        injection hbb with e1 e2
        subst e1 e2
        have hf := HGn.out.own.frozenAt (i * 4 + 3)
        rw [Nat.zero_add] at c3
        clear c0 c1 c2 hp
        go_wp2
        go_roundw
        case rel => exact ⟨i + 1, _, by go_num, by omega, HGs⟩
        case measure => simp [intOf]; omega
      · have hyb : (y == 0) = false := by simpa using hy
        go_wp2
        go_roundw
        case rel => exact ⟨i + 1, _, by go_num, by omega, HGn⟩
        case measure => simp [intOf]; omega
    · obtain ⟨r0, r1, r2, r3⟩ := HG.out.res
      have hgf := HG.out.fin
      have HF := Lib.hid hgf
      have hrl' : w.heap.size < wo.heap.size := cell_lt r0
      clear hgf
      by_cases hi1 : i < n
      · have hi1' : (i : Int) < (n : Int) := by omega
        have hi2' : ¬ (i : Int) < 9 := by omega
        go_wp2
        exact bodyPost_ret (v := .agg #[.int .i64 x, .slice (some ⟨q, 0, none⟩) n c]) (by simp [results, Try.results136, go_sem, r0, r1, hrl']) rfl ⟨_, _, _, _, _, rfl, HF.out.1, by omega, wfx, HF.out.2.1, HF.out.2.2⟩
      · have hi1' : ¬ (i : Int) < (n : Int) := by omega
        go_wp2
        exact bodyPost_ret (v := .agg #[.int .i64 x, .slice (some ⟨q, 0, none⟩) n c]) (by simp [results, Try.results136, go_sem, r0, r1, hrl']) rfl ⟨_, _, _, _, _, rfl, HF.out.1, by omega, wfx, HF.out.2.1, HF.out.2.2⟩
end V
end Go.Proofs.Ytjbffpmelglegaa
