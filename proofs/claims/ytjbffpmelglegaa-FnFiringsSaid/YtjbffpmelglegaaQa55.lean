/- Texts laid together: Rcq. -/
import Derived.Test.YtjbffpmelglegaaQa54
set_option linter.unusedSimpArgs false
set_option linter.unusedVariables false
set_option linter.unusedSectionVars false
namespace Go.Proofs.Ytjbffpmelglegaa
namespace V
set_option maxRecDepth 100000
open Go.RowKit
set_option maxRecDepth 100000 in
set_option maxHeartbeats 4000000 in
theorem sHoldingOf (x : Int) (a : Option Addr) (n cap : Nat) (l : List M.Pc) (nI : Int) (w : World) (h : Pls w a n l) :
    Calls Try.prog 52 #[.agg #[.int .i64 x, .slice a n cap], .int .i64 nI] w (VRes (M.hldRes x l nI) w) := by
  have HI := Lib.hid h
  have HLn : Hid (l.length = n) := h.1
  have hb0 := b_alloc w (.cells #[.int .i64 x, .slice a n cap] 41)
  have hG := gBox_new w x a n cap 41
  obtain ⟨wb, hwb⟩ : ∃ z, z = w.alloc (.cells #[.int .i64 x, .slice a n cap] 41) := ⟨_, rfl⟩
  rw [← hwb] at hb0 hG
  have HWb := Lib.hid hwb.symm
  have HG := Lib.hid hG
  have HB0 := Lib.hid hb0
  obtain ⟨cd, hcd⟩ : ∃ c, c = M.inCode (M.lvCode x l) (M.inB nI 0 50) := ⟨_, rfl⟩
  obtain ⟨TM, hTM⟩ : ∃ t, t = M.timM l (M.ordL (M.wtF M.fOne l) x.toNat x.toNat) M.zst x.toNat nI.toNat := ⟨_, rfl⟩
  have HC : Hid (Calls Try.prog 46 #[.agg #[.int .i64 x, .slice a n cap], .int .i64 nI] wb (MRes (if cd = 0 then (TM, 0) else ([], cd)) wb)) := by
    have := sFiringTimes x a n cap l nI wb (h.below hb0)
    unfold M.ftRes at this
    rw [← hcd, ← hTM] at this
    exact this
  have HCd := Lib.hid hcd
  have HTM := Lib.hid hTM
  obtain ⟨g0, g1⟩ := hG
  rw [hwb] at g0 g1
  clear h hb0 hwb hcd hTM
  by_cases h0 : cd = 0
  · subst h0
    rw [if_pos rfl] at HC
    obtain ⟨hlv, hut⟩ := M.inCode_t HCd.out.symm
    obtain ⟨N, hxN, hgr, hlive, hnp, n1, n10⟩ := lv_live hlv
    subst hxN
    obtain ⟨nn, hnI, hnn⟩ := inB_nat (m := 50) hut
    subst hnI
    have HGr := Lib.hid hgr
    have HNp := Lib.hid hnp
    have hn30 : n ≤ 30 := by rw [← HLn.out]; exact (gr_N hgr).2.2
    have HFb := Lib.hid (tab_bd50 hgr hnp hnn)
    obtain ⟨F, hF⟩ : ∃ F, F = M.tabT l (M.ordL (M.wtF M.fOne l) N N) M.zst nn := ⟨_, rfl⟩
    have HR : Hid (M.hldRes (N : Int) l nn = (M.hldL F l nn l.length, 0)) := by show _ = _; unfold M.hldRes; rw [← HCd.out, hF]; rfl
    have HTe : Hid (TM = M.mk nn N fun r e => F (r + 1) e) := by show _ = _; rw [HTM.out, hF]; rfl
    rw [← hF] at HFb
    clear hlv hut hgr hlive hnp hF
    go_enter Try.func52, Try.ntmps52
    go_wp2_with fail
    rw [HWb.out]
    refine HC.out.mono ?_
    rintro e w2 ⟨b2, m2, c2, rfl, ho, hb⟩
    rw [HTe.out] at ho
    have hm2 : nn = m2 := (ho.len.trans (M.mk_length _ _ _)).symm
    subst hm2
    have HMt := Lib.hid ho.mat
    have HBw := Lib.hid (HB0.out.trans (hb.mono HB0.out.size))
    clear g0 g1
    obtain ⟨g0, g1⟩ := HG.out.below hb
    have HG2 := Lib.hid (HG.out.below hb)
    have HO0 : Hid (Own (w2.alloc (.cells #[] 2)) w2.heap.size (.slice (some ⟨w2.heap.size, 0, none⟩) 0 0) (M.hldL F l nn 0)) := own_lit0 _ _ (Nat.le_refl _)
    have HBl : Hid (Below w2.heap.size w2 (w2.alloc (.cells #[] 2))) := b_alloc _ _
    clear ho hb
    go_wp2
    clear g0 g1
    go_loopw [8, 9] (fun hv kv wr => ∃ (k : Nat) (hb : Option Addr) (hc : Nat), k ≤ n ∧ kv = .int .i64 k ∧ hv = .slice hb k hc ∧ Hid (Own wr w2.heap.size hv (M.hldL F l nn k)) ∧ Hid (Below w2.heap.size w2 wr)) (fun _ kv _ => n - (intOf kv).toNat)
    case atStart => exact ⟨0, _, _, Nat.zero_le _, rfl, rfl, HO0, HBl⟩
    case round =>
      clear HO0 HBl
      obtain ⟨k, hb, hc, hk, rfl, rfl, HO, HB⟩ := hrel
      obtain ⟨wo, rfl⟩ : ∃ x, x = wr := ⟨_, rfl⟩
      obtain ⟨g0, g1⟩ := HG2.out.below HB.out
      by_cases hkl : k < n
      · have hki : (k : Int) < (n : Int) := by omega
        obtain ⟨pb, off, p0, p1, p2, p3, rfl, -, hp, c0, c1, c2', c3⟩ := (HI.out.below (HBw.out.trans (HB.out.mono HBw.out.size))).at k hkl
        obtain ⟨i, j0, hi, hj, rfl, rfl, t2, t2', t3, t3'⟩ := gr_at HGr.out (by rw [HLn.out]; exact hkl) hp
        obtain ⟨tk, rfl, htk⟩ : ∃ t : Nat, p3 = (t : Int) ∧ t ≤ 5 := ⟨p3.toNat, by omega, by omega⟩
        have HNx : Hid (M.hldL F l nn (k + 1) = M.hldL F l nn k ++ [M.hldK F ((j0 : Int), (i : Int), p2, (tk : Int)) (nn - tk)]) := by
          have := M.hldL_next F l nn k
          rw [hp] at this
          exact this
        obtain ⟨J, hJ⟩ : ∃ J, J = nn - tk := ⟨_, rfl⟩
        rw [← hJ] at HNx
        have HJ := Lib.hid hJ
        clear hJ
        obtain ⟨q, hq⟩ : ∃ q : M.Pc, q = ((j0 : Int), (i : Int), p2, (tk : Int)) := ⟨_, rfl⟩
        have HKb : Hid (∀ j, -1 ≤ M.hldK F q j ∧ M.hldK F q j ≤ 2000000) := fun j => M.hldK_bd HFb.out (by rw [hq]; exact ⟨t2, t2'⟩) j
        have HKn : Hid (∀ j, M.hldK F q (j + 1) = max (M.hldK F q j) (F (tk + j + 1) i - F (j + 1) j0 - p2)) := fun j => by rw [hq]; rfl
        rw [← hq] at HNx
        have hk0 : M.hldK F q 0 = -1 := rfl
        obtain ⟨wp, hwp⟩ : ∃ z, z = wo.alloc (.cells #[.int .i64 j0, .int .i64 i, .int .i64 p2, .int .i64 tk] 52) := ⟨_, rfl⟩
        have hbp : Below wo.heap.size wo wp := by rw [hwp]; exact b_alloc wo _
        have HX : Hid (wp.cell? ⟨wo.heap.size, 0, none⟩ = some (.int .i64 j0) ∧ wp.cell? ⟨wo.heap.size, 1, none⟩ = some (.int .i64 i) ∧ wp.cell? ⟨wo.heap.size, 2, none⟩ = some (.int .i64 p2) ∧ wp.cell? ⟨wo.heap.size, 3, none⟩ = some (.int .i64 tk)) := by
          rw [hwp]; exact ⟨by simp [go_sem], by simp [go_sem], by simp [go_sem], by simp [go_sem]⟩
        have HWp := Lib.hid hwp.symm
        have HBp := Lib.hid (HB.out.trans (hbp.mono HB.out.size))
        have HOp := Lib.hid (HO.out.below hbp)
        obtain ⟨x0, x1, x2, x3⟩ := HX.out
        rw [hwp] at x0 x1 x2 x3
        have hw0 : wrap64 ((tk : Int) + 1) = (tk : Int) + 1 := IntWalk.wrap64_in _ ⟨by omega, by omega⟩
        clear hp hq hwp hbp
        go_wp2
        rw [HWp.out]
        clear x0 x1 x2 x3 g0 g1
        go_loopw [11, 12] (fun mv kv wr => ∃ j : Nat, j ≤ J ∧ kv = .int .i64 ((tk : Int) + 1 + (j : Int)) ∧ mv = .int .i64 (M.hldK F q j) ∧ Hid (Below wp.heap.size wp wr)) (fun _ kv _ => nn + 1 - (intOf kv).toNat)
        case atStart => exact ⟨0, Nat.zero_le _, by simp, by rw [hk0], Below.refl _ _⟩
        case round =>
          obtain ⟨j, hjn, rfl, rfl, HBj⟩ := hrel
          obtain ⟨wi, rfl⟩ : ∃ x, x = wr := ⟨_, rfl⟩
          obtain ⟨κ, hκ⟩ : ∃ κ, κ = (tk : Int) + 1 + (j : Int) := ⟨_, rfl⟩
          rw [← hκ]
          have HK := Lib.hid hκ
          by_cases hjl : j < J
          · have hJ' := HJ.out
            have hji : κ ≤ (nn : Int) := by omega
            have hjn2 : tk + j < nn := by omega
            clear hJ'
            obtain ⟨x0, x1, x2, x3⟩ := HX.out
            have z0 := (HBj.out.cell (cell_lt x0)).trans x0
            have z1 := (HBj.out.cell (cell_lt x1)).trans x1
            have z2 := (HBj.out.cell (cell_lt x2)).trans x2
            have z3 := (HBj.out.cell (cell_lt x3)).trans x3
            obtain ⟨u, hu⟩ : ∃ u, u = F (tk + j + 1) i := ⟨_, rfl⟩
            obtain ⟨v, hv⟩ : ∃ v, v = F (j + 1) j0 := ⟨_, rfl⟩
            obtain ⟨m, hm⟩ : ∃ m, m = M.hldK F q j := ⟨_, rfl⟩
            have hub : 0 ≤ u ∧ u ≤ 2000000 := by rw [hu]; exact HFb.out _ _
            have hvb : 0 ≤ v ∧ v ≤ 2000000 := by rw [hv]; exact HFb.out _ _
            have HN := Lib.hid (HKn.out j)
            rw [← hu, ← hv, ← hm] at HN
            rw [← hm]
            have hrow : ∀ r, r < nn → ((M.mk nn N fun r e => F (r + 1) e).getD r []).length = N := fun r hr => M.mk_rowlen _ _ _ _ hr
            have HMi := HMt.out.below (HBp.out.trans (HBj.out.mono HBp.out.size))
            obtain ⟨μ, hμ⟩ : ∃ μ, μ = (j : Int) + 1 := ⟨_, rfl⟩
            obtain ⟨r1, hr1e⟩ : ∃ r, r = tk + j := ⟨_, rfl⟩
            obtain ⟨tb, tof, q1, qo1, L1, rc1, u', hb2, hL1, hu', d1, d2⟩ := HMi.ent r1 i (by omega) (by rw [hrow _ (by omega)]; exact hi)
            obtain ⟨tb2, tof2, q2, qo2, L2, rc2, v', hb2', hL2, hv', d3, d4⟩ := HMi.ent j j0 (by omega) (by rw [hrow _ (by omega)]; exact hj)
            rw [M.mk_ent _ _ _ _ _ (by omega) hi, hr1e, ← hu] at hu'
            rw [M.mk_ent _ _ _ _ _ (by omega) hj, ← hv] at hv'
            rw [hrow _ (by omega)] at hL1 hL2
            subst hb2
            injection hb2' with hb2'
            injection hb2' with e1 e2
            subst e1 e2
            replace hL1 := hL1.symm
            replace hL2 := hL2.symm
            subst hL1
            obtain rfl := hL2
            replace hu' := hu'.symm
            replace hv' := hv'.symm
            subst hu' hv'
            have hx1 : wrap64 (κ - 1) = (r1 : Int) := by rw [IntWalk.wrap64_in _ ⟨by omega, by omega⟩]; omega
            have hx1' : IntKind.i64.wrap (κ - 1) = (r1 : Int) := by rw [IntWalk.i64_in _ (by omega)]; omega
            have hx2 : wrap64 (μ - 1) = (j : Int) := by rw [IntWalk.wrap64_in _ ⟨by omega, by omega⟩]; omega
            have hx2' : IntKind.i64.wrap (μ - 1) = (j : Int) := by rw [IntWalk.i64_in _ (by omega)]; omega
            have hr1 : (r1 : Int) < (nn : Int) := by omega
            have hr2 : (j : Int) < (nn : Int) := by omega
            have hc1 : (i : Int) < (N : Int) := by omega
            have hc2 : (j0 : Int) < (N : Int) := by omega
            clear hr1e
            have hw1 : wrap64 (κ - (tk : Int)) = μ := by rw [IntWalk.wrap64_in _ ⟨by omega, by omega⟩]; omega
            have hw1' : IntKind.i64.wrap (κ - (tk : Int)) = μ := by rw [IntWalk.i64_in _ (by omega)]; omega
            have hw2 : wrap64 (u - v) = u - v := IntWalk.wrap64_in _ ⟨by omega, by omega⟩
            have hw2' : IntKind.i64.wrap (u - v) = u - v := IntWalk.i64_in _ (by omega)
            have hw3 : wrap64 (u - v - p2) = u - v - p2 := IntWalk.wrap64_in _ ⟨by omega, by omega⟩
            have hw3' : IntKind.i64.wrap (u - v - p2) = u - v - p2 := IntWalk.i64_in _ (by omega)
            have hw4 : wrap64 (κ + 1) = κ + 1 := IntWalk.wrap64_in _ ⟨by omega, by omega⟩
            clear hμ
            clear hu hv hm hub hvb hrow x0 x1 x2 x3 hκ
            go_wp2
            go_still_tail 27, (by kernel_rfl)
            change wpList _ _ _ _ _ wi.drew
            go_wp2
            go_roundw
            case rel =>
              refine ⟨j + 1, by omega, congrArg (Value.int .i64) (by have q := HK.out; omega), ?_, HBj.out.drew⟩
              rw [HN.out]
              congr 1
              split <;> omega
            case measure => (have q := HK.out; simp [intOf]; omega)
          · obtain rfl : j = J := by omega
            have hji : ¬ κ ≤ (nn : Int) := by have q := HJ.out; omega
            clear hκ
            have hHl : Hid ((M.hldL F l nn k).length = k) := M.hldL_len _ _ _ _
            have HBw2 := Lib.hid (HBp.out.trans (HBj.out.mono HBp.out.size))
            have HOj := Lib.hid (HOp.out.below HBj.out)
            have hsz := HBw2.out.size
            go_wp2_with (at_builtin; refine append1 wi rfl (.tmp 70) (.tmp 72) rfl w2.heap.size _ _ _ k hHl.out rfl HOj.out rfl (by rw [hHl.out]; omega) hsz ?_)
            intro b4 c4 w4 hO4 hb4 _
            rw [← HNx.out] at hO4
            have HO4 := Lib.hid hO4
            have HB4 := Lib.hid (HBw2.out.trans hb4)
            clear hO4 hb4
            go_wp2
            go_roundw
            case rel => exact ⟨k + 1, _, _, by omega, by go_num, rfl, HO4, HB4⟩
            case measure => simp [intOf]; omega
      · obtain rfl : k = n := by omega
        go_wp2
        go_ret2
        rw [HR.out, HLn.out]
        exact ⟨_, _, _, rfl, HO.out.mono HBw.out.size, HBw.out.trans (HB.out.mono HBw.out.size)⟩
  · rw [if_neg h0] at HC
    have h0' : (cd != 0) = true := by simpa using h0
    have HR : Hid (M.hldRes x l nI = ([], cd)) := by show _ = _; unfold M.hldRes; rw [← HCd.out, if_neg h0]
    clear h0
    go_enter Try.func52, Try.ntmps52
    go_wp2_with fail
    rw [HWb.out]
    refine HC.out.mono ?_
    rintro e w2 ⟨b2, m2, c2, rfl, ho, hb⟩
    have HBw := Lib.hid (HB0.out.trans (hb.mono HB0.out.size))
    clear g0 g1 ho hb
    go_wp2
    go_ret2
    exact VRes.nil HR.out HBw.out
end V
end Go.Proofs.Ytjbffpmelglegaa
