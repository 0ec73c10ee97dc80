/- Texts laid together: Rcc. -/
import Derived.Test.YtlofnadpgnbmdaaGreatQa27
import Derived.Test.YtlofnadpgnbmdaaGreatQa28
import Derived.Test.YtlofnadpgnbmdaaGreatQa30
import Derived.Test.YtlofnadpgnbmdaaGreatQa21
import Derived.StillTailTactics
set_option linter.unusedSimpArgs false
set_option linter.unusedVariables false
set_option linter.unusedSectionVars false
namespace Go.Proofs.YtlofnadpgnbmdaaGreat
namespace M
def delRes (x : Int) (l : List Pc) (m : Int) : List (List Int) × Int := if isGr x l then (if inB m 0 5 then (wtM (fDel m) x.toNat l, 0) else ([], 2)) else ([], 1)
end M
namespace V
set_option maxRecDepth 100000
open Go.RowKit
set_option maxRecDepth 100000 in
set_option maxHeartbeats 400000 in
theorem fDelC (E : Nat) (m p0 p1 p2 p3 : Int) (w : World) (hE : w.cell? ⟨E, 0, none⟩ = some (.int .i64 m)) : Calls Tryz.prog 102 #[.agg #[.int .i64 p0, .int .i64 p1, .int .i64 p2, .int .i64 p3], .pointer (some ⟨E, 0, none⟩)] w fun e w' => e = .returned (.int .i64 (M.fDel m (p0, p1, p2, p3))) ∧ Below w.heap.size w w' := by
  have hE2 : (w.alloc (.cells #[.int .i64 p0, .int .i64 p1, .int .i64 p2, .int .i64 p3] 71)).cell? ⟨E, 0, none⟩ = some (.int .i64 m) := ((b_alloc w _).cell (cell_lt hE)).trans hE
  clear hE
  by_cases h : p3 = m
  · have HE : Hid (M.fDel m (p0, p1, p2, p3) = p2) := if_neg (fun q => q h)
    have h' : (p3 != m) = false := by simp [h]
    clear h
    go_enter Tryz.func102, Tryz.ntmps102
    go_wp2
    go_ret
    exact ⟨by rw [HE.out]; rfl, b_alloc _ _⟩
  · have HE : Hid (M.fDel m (p0, p1, p2, p3) = -1000000000000000) := if_pos h
    have h' : (p3 != m) = true := by simpa using h
    clear h
    go_enter Tryz.func102, Tryz.ntmps102
    go_wp2
    go_ret
    exact ⟨by rw [HE.out]; rfl, b_alloc _ _⟩
set_option maxRecDepth 100000 in
set_option maxHeartbeats 4000000 in
theorem weightedDel (N : Nat) (a : Option Addr) (n cap : Nat) (l : List M.Pc) (E : Nat) (m : Int) (w : World) (hE : w.cell? ⟨E, 0, none⟩ = some (.int .i64 m)) (h : Pls w a n l) (hg : M.isGr (N : Int) l = true) :
    Calls Tryz.prog 69 #[.agg #[.int .i64 N, .slice a n cap], .func (.func 102) #[] #[.pointer (some ⟨E, 0, none⟩)]] w (MPost N (M.wtM (M.fDel m) N l) w) := by
  have HI := Lib.hid h
  have HEc := Lib.hid hE
  clear hE
  have HL : Hid (l.length = n) := h.1
  have HG := Lib.hid hg
  obtain ⟨n1, n2, hl30⟩ := gr_N hg
  have hn30 : n ≤ 30 := by rw [h.1] at hl30; exact hl30
  have hb0 := b_alloc w (.cells #[.int .i64 N, .slice a n cap] 26)
  have hGb := gBox_new w N a n cap 26
  obtain ⟨wb, hwb⟩ : ∃ z, z = w.alloc (.cells #[.int .i64 N, .slice a n cap] 26) := ⟨_, rfl⟩
  rw [← hwb] at hb0 hGb
  have HGb := Lib.hid hGb
  have HB0 := Lib.hid hb0
  obtain ⟨g0, g1⟩ := hGb
  have HFill : Hid (M.mk N N (fun _ _ => -1000000000000000) = M.wtM (M.fDel m) N (l.take 0)) := by show _ = _; rfl
  clear h hg hl30 hb0
  go_enter Tryz.func69, Tryz.ntmps69
  go_wp2_with fail
  rw [← hwb]
  clear hwb
  refine (filled N N _ wb n1 n2 n1 n2).mono ?_
  rintro e w1 ⟨b, c, rfl, ho, hb⟩
  rw [HFill.out] at ho
  have HO1 := Lib.hid (ho.mono HB0.out.size)
  have HB1 := Lib.hid (HB0.out.trans (hb.mono HB0.out.size))
  clear g0 g1
  obtain ⟨g0, g1⟩ := HGb.out.below hb
  clear ho hb
  go_wp2
  clear g0 g1
  go_loopw [16] (fun kv wr => ∃ k : Nat, k ≤ n ∧ kv = .int .i64 k ∧ Hid (OwnM wr w.heap.size (.slice b N c) (M.wtM (M.fDel m) N (l.take k))) ∧ Hid (Below w.heap.size w wr)) (fun kv _ => n - (intOf kv).toNat)
  case atStart => exact ⟨0, Nat.zero_le _, rfl, HO1, HB1⟩
  case round =>
    obtain ⟨k, hk, rfl, HO, HB⟩ := hrel
    obtain ⟨wo, rfl⟩ : ∃ x, x = wr := ⟨_, rfl⟩
    clear HO1 HB1
    by_cases hkl : k < n
    · have hki : (k : Int) < (n : Int) := by omega
      obtain ⟨pb, off, p0, p1, p2, p3, rfl, -, hp, c0, c1, c2, c3⟩ := (HI.out.below HB.out).at k hkl
      obtain ⟨i, j, hi, hj, rfl, rfl, t2, t2', t3, t3'⟩ := gr_at HG.out (by rw [HL.out]; exact hkl) hp
      have hij : (i : Int) < (N : Int) := by omega
      have hjj : (j : Int) < (N : Int) := by omega
      have hrow : ((M.wtM (M.fDel m) N (l.take k)).getD i []).length = N := M.mk_rowlen _ _ _ _ hi
      obtain ⟨o, q, L, rc, y, rfl, ho1, hq1, hL, hy, m1, m2, m3, m4⟩ := HO.out.at i j hi (by rw [hrow]; exact hj)
      rw [hrow] at hL
      replace hL := hL.symm
      subst hL
      have hne := HO.out.rowNe hi m1
      have hyv : y = M.wtF (M.fDel m) (l.take k) i j := by rw [hy]; exact M.ent_mk _ _ _ _ _ hi hj
      have hN := M.wtM_next (M.fDel m) N l (k := k) (by rw [HL.out]; exact hkl) hp hi rfl rfl
      obtain ⟨v, hv⟩ : ∃ v, v = (M.fDel m) ((j : Int), (i : Int), p2, p3) := ⟨_, rfl⟩
      rw [← hyv, ← hv] at hN
      have HNx := Lib.hid hN
      have HC : Hid (∀ w', Below w.heap.size w w' → Calls Tryz.prog 102 #[.agg #[.int .i64 j, .int .i64 i, .int .i64 p2, .int .i64 p3], .pointer (some ⟨E, 0, none⟩)] w' fun e w'' => e = .returned (.int .i64 v) ∧ Below w'.heap.size w' w'') := fun w' hb' => by rw [hv]; exact fDelC E m _ _ _ _ w' ((hb'.cell (cell_lt HEc.out)).trans HEc.out)
      have hol := cell_lt m1
      have hql := cell_lt m2
      have HSz := Lib.hid HB.out.size
      obtain ⟨wp, hwp⟩ : ∃ z, z = wo.alloc (.cells #[.int .i64 j, .int .i64 i, .int .i64 p2, .int .i64 p3] 71) := ⟨_, rfl⟩
      have hbp : Below wo.heap.size wo wp := by rw [hwp]; exact b_alloc wo _
      have HWS : Hid (WS w wo.heap.size o i q N rc (j : Int) (i : Int) p2 p3 wp) := ⟨by rw [hwp]; simp [go_sem], by rw [hwp]; simp [go_sem], by rw [hwp]; simp [go_sem], by rw [hwp]; simp [go_sem], (hbp.cell hol).trans m1, HB.out.trans (hbp.mono HSz.out)⟩
      have HWp := Lib.hid hwp.symm
      have HBp := Lib.hid hbp
      have HM1 := Lib.hid m1
      have HRw := Lib.hid hrow
      have e1 : wp.cell? ⟨q, j, none⟩ = some (.int .i64 y) := (hbp.cell hql).trans m2
      have e2 : wp.frozen? ⟨q, j, none⟩ = false := (hbp.frozen hql).trans m3
      clear hp hv hN hy hyv hrow m4 hwp hbp
      have HFin : Hid (∀ wx, Below wp.heap.size wp wx → Hid (OwnM (wx.setCell ⟨q, j, none⟩ (.int .i64 (if y < v then v else y))) w.heap.size (.slice (some ⟨o, 0, none⟩) N c) (M.wtM (M.fDel m) N (l.take (k + 1))))) := fun wx hbx => by
        show OwnM _ _ _ _
        have hbx' : Below wo.heap.size wo wx := HBp.out.trans (hbx.mono HBp.out.size)
        rw [← HNx.out, show max y v = if y < v then v else y from by split <;> omega]
        exact (HO.out.below hbx').put hi (by rw [HRw.out]; exact hj) ((hbx'.cell (cell_lt HM1.out)).trans HM1.out) _
      have HBt : Hid (∀ wx z, Below wp.heap.size wp wx → Hid (Below w.heap.size w (wx.setCell ⟨q, j, none⟩ (.int .i64 z)))) := fun wx z hbx => ((HB.out.trans (HBp.out.mono HSz.out)).trans (hbx.mono (Nat.le_trans HSz.out HBp.out.size))).setCell (p := ⟨q, j, none⟩) hq1 _
      go_wp2
      rw [HWp.out]
      refine wp_region_held_drew (S := fun w' => w'.cell? ⟨wo.heap.size, 0, none⟩ = some (.int .i64 j) ∧ w'.cell? ⟨wo.heap.size, 1, none⟩ = some (.int .i64 i) ∧ w'.cell? ⟨wo.heap.size, 2, none⟩ = some (.int .i64 p2) ∧ w'.cell? ⟨wo.heap.size, 3, none⟩ = some (.int .i64 p3) ∧ w'.cell? ⟨o, i, none⟩ = some (.slice (some ⟨q, 0, none⟩) N rc) ∧ Below w.heap.size w w') (by kernel_rfl) ?hS (fun hHeld => ?_)
      case hS => exact HWS.out.drew
      refine wpAnyH_take (i := 0) (v := ?v0) rfl (by kernel_rfl) (by kernel_rfl) (by kernel_rfl) (fun _ _ _ h => h) (Or.inl ⟨by rfl, ?hy0⟩) (by assumption) ?rest0
      case hy0 => (intro wy hSw; (try dsimp only at hSw); obtain ⟨s0, s1, s2, s3, s4, s5⟩ := hSw; go_simp; try with_reducible rfl)
      (try simp only [Act.put, List.setIfInBounds_toArray, List.set_cons_zero, List.set_cons_succ])
      refine wpAnyH_take (i := 1) (v := ?v1) rfl (by kernel_rfl) (by kernel_rfl) (by kernel_rfl) (fun _ _ _ h => h) (Or.inl ⟨by rfl, ?hy1⟩) (by assumption) ?rest1
      case hy1 => (intro wy hSw; (try dsimp only at hSw); obtain ⟨s0, s1, s2, s3, s4, s5⟩ := hSw; go_simp; try with_reducible rfl)
      (try simp only [Act.put, List.setIfInBounds_toArray, List.set_cons_zero, List.set_cons_succ])
      refine wpAnyH_take (i := 2) (v := ?v2) rfl (by kernel_rfl) (by kernel_rfl) (by kernel_rfl) (fun _ _ _ h => h) (Or.inl ⟨by rfl, ?hy2⟩) (by assumption) ?rest2
      case hy2 => (intro wy hSw; (try dsimp only at hSw); obtain ⟨s0, s1, s2, s3, s4, s5⟩ := hSw; go_simp; try with_reducible rfl)
      (try simp only [Act.put, List.setIfInBounds_toArray, List.set_cons_zero, List.set_cons_succ])
      refine wpAnyH_take (i := 3) (v := ?v3) rfl (by kernel_rfl) (by kernel_rfl) (by kernel_rfl) (fun _ _ _ h => h) (Or.inl ⟨by rfl, ?hy3⟩) (by assumption) ?rest3
      case hy3 => (intro wy hSw; (try dsimp only at hSw); obtain ⟨s0, s1, s2, s3, s4, s5⟩ := hSw; go_simp; try with_reducible rfl)
      (try simp only [Act.put, List.setIfInBounds_toArray, List.set_cons_zero, List.set_cons_succ])
      refine wpAnyH_take (i := 4) (v := ?v4) rfl (by kernel_rfl) (by kernel_rfl) (by kernel_rfl) (fun _ _ _ h => h) (Or.inl ⟨by rfl, ?hy4⟩) (by assumption) ?rest4
      case hy4 => (intro wy hSw; (try dsimp only at hSw); obtain ⟨s0, s1, s2, s3, s4, s5⟩ := hSw; go_simp; try with_reducible rfl)
      (try simp only [Act.put, List.setIfInBounds_toArray, List.set_cons_zero, List.set_cons_succ])
      refine wpAnyH_take (i := 5) (v := ?v5) rfl (by kernel_rfl) (by kernel_rfl) (by kernel_rfl) (fun _ _ _ h => h) (Or.inl ⟨by rfl, ?hy5⟩) (by assumption) ?rest5
      case hy5 => (intro wy hSw; (try dsimp only at hSw); obtain ⟨s0, s1, s2, s3, s4, s5⟩ := hSw; go_simp; try with_reducible rfl)
      (try simp only [Act.put, List.setIfInBounds_toArray, List.set_cons_zero, List.set_cons_succ])
      refine wpAnyH_take (i := 6) (v := ?v6) rfl (by kernel_rfl) (by kernel_rfl) (by kernel_rfl) (fun _ _ _ h => h) (Or.inl ⟨by rfl, ?hy6⟩) (by assumption) ?rest6
      case hy6 => (intro wy hSw; (try dsimp only at hSw); obtain ⟨s0, s1, s2, s3, s4, s5⟩ := hSw; go_simp; try with_reducible rfl)
      (try simp only [Act.put, List.setIfInBounds_toArray, List.set_cons_zero, List.set_cons_succ])
      refine wpAnyH_take (i := 7) (v := ?v7) rfl (by kernel_rfl) (by kernel_rfl) (by kernel_rfl) (fun _ _ _ h => h) (Or.inl ⟨by rfl, ?hy7⟩) (by assumption) ?rest7
      case hy7 => (intro wy hSw; (try dsimp only at hSw); obtain ⟨s0, s1, s2, s3, s4, s5⟩ := hSw; go_simp; try with_reducible rfl)
      (try simp only [Act.put, List.setIfInBounds_toArray, List.set_cons_zero, List.set_cons_succ])
      refine wpAnyH_take (i := 8) (v := ?v8) rfl (by kernel_rfl) (by kernel_rfl) (by kernel_rfl) (fun _ _ _ h => h) (Or.inl ⟨by rfl, ?hy8⟩) (by assumption) ?rest8
      case hy8 => (intro wy hSw; (try dsimp only at hSw); obtain ⟨s0, s1, s2, s3, s4, s5⟩ := hSw; go_simp; try with_reducible rfl)
      (try simp only [Act.put, List.setIfInBounds_toArray, List.set_cons_zero, List.set_cons_succ])
      refine wpAnyH_take (i := 9) (v := ?v9) rfl (by kernel_rfl) (by kernel_rfl) (by kernel_rfl) (fun _ _ _ h => h) (Or.inl ⟨by rfl, ?hy9⟩) (by assumption) ?rest9
      case hy9 => (intro wy hSw; (try dsimp only at hSw); obtain ⟨s0, s1, s2, s3, s4, s5⟩ := hSw; go_simp; try with_reducible rfl)
      (try simp only [Act.put, List.setIfInBounds_toArray, List.set_cons_zero, List.set_cons_succ])
      refine wpAnyH_take (i := 10) (v := ?v10) rfl (by kernel_rfl) (by kernel_rfl) (by kernel_rfl) (fun _ _ _ h => h) (Or.inl ⟨by rfl, ?hy10⟩) (by assumption) ?rest10
      case hy10 => (intro wy hSw; (try dsimp only at hSw); obtain ⟨s0, s1, s2, s3, s4, s5⟩ := hSw; go_simp; try with_reducible rfl)
      (try simp only [Act.put, List.setIfInBounds_toArray, List.set_cons_zero, List.set_cons_succ])
      refine wpAnyH_take (i := 11) (v := ?v11) rfl (by kernel_rfl) (by kernel_rfl) (by kernel_rfl) (fun _ _ _ h => h) (Or.inl ⟨by rfl, ?hy11⟩) (by assumption) ?rest11
      case hy11 => (intro wy hSw; (try dsimp only at hSw); obtain ⟨s0, s1, s2, s3, s4, s5⟩ := hSw; go_simp; try with_reducible rfl)
      (try simp only [Act.put, List.setIfInBounds_toArray, List.set_cons_zero, List.set_cons_succ])
      refine wpAnyH_take (i := 12) (v := ?v12) rfl (by kernel_rfl) (by kernel_rfl) (by kernel_rfl) (fun _ _ _ h => h) (Or.inl ⟨by rfl, ?hy12⟩) (by assumption) ?rest12
      case hy12 => (intro wy hSw; (try dsimp only at hSw); obtain ⟨s0, s1, s2, s3, s4, s5⟩ := hSw; go_simp; try with_reducible rfl)
      (try simp only [Act.put, List.setIfInBounds_toArray, List.set_cons_zero, List.set_cons_succ])
      refine wpAnyH_take (i := 13) (v := ?v13) rfl (by kernel_rfl) (by kernel_rfl) (by kernel_rfl) (fun _ _ _ h => h) (Or.inl ⟨by rfl, ?hy13⟩) (by assumption) ?rest13
      case hy13 => (intro wy hSw; (try dsimp only at hSw); obtain ⟨s0, s1, s2, s3, s4, s5⟩ := hSw; go_simp; try with_reducible rfl)
      (try simp only [Act.put, List.setIfInBounds_toArray, List.set_cons_zero, List.set_cons_succ])
      refine wpAnyH_take (i := 14) (v := ?v14) rfl (by kernel_rfl) (by kernel_rfl) (by kernel_rfl) (fun _ _ _ h => h) (Or.inl ⟨by rfl, ?hy14⟩) (by assumption) ?rest14
      case hy14 => (intro wy hSw; (try dsimp only at hSw); obtain ⟨s0, s1, s2, s3, s4, s5⟩ := hSw; go_simp; try with_reducible rfl)
      (try simp only [Act.put, List.setIfInBounds_toArray, List.set_cons_zero, List.set_cons_succ])
      refine wpAnyH_take (i := 16) (v := ?v16) rfl (by kernel_rfl) (by kernel_rfl) (by kernel_rfl) (fun _ _ _ h => h) (Or.inl ⟨by rfl, ?hy16⟩) (by assumption) ?rest16
      case hy16 => (intro wy hSw; (try dsimp only at hSw); obtain ⟨s0, s1, s2, s3, s4, s5⟩ := hSw; go_simp; try with_reducible rfl)
      (try simp only [Act.put, List.setIfInBounds_toArray, List.set_cons_zero, List.set_cons_succ])
      refine wpAnyH_take (i := 17) (v := ?v17) rfl (by kernel_rfl) (by kernel_rfl) (by kernel_rfl) (fun _ _ _ h => h) (Or.inl ⟨by rfl, ?hy17⟩) (by assumption) ?rest17
      case hy17 => (intro wy hSw; (try dsimp only at hSw); obtain ⟨s0, s1, s2, s3, s4, s5⟩ := hSw; go_simp; try with_reducible rfl)
      (try simp only [Act.put, List.setIfInBounds_toArray, List.set_cons_zero, List.set_cons_succ])
      refine wpAnyH_ready (rs := [15, 18]) (by kernel_rfl) (by simp) (AllReadyH.cons rfl (fun K hK => ?a15) (AllReadyH.cons rfl (fun K hK => ?a18) AllReadyH.nil))
      case a15 =>
        go_simp
        refine hK.out _ _ (by assumption) (fun hHeld => ?_)
        clear hK K
        (try simp only [Act.put, List.setIfInBounds_toArray, List.set_cons_zero, List.set_cons_succ])
        refine wpAnyH_ready (rs := [18]) (by kernel_rfl) (by simp) (AllReadyH.cons rfl (fun K hK => ?_) AllReadyH.nil)
        go_simp
        refine (HC.out _ HWS.out.drew.2.2.2.2.2).mono ?_
        rintro e wx ⟨rfl, hb⟩
        have HBx := Lib.hid ((b_draws wp 1).trans hb)
        have yq : wx.cell? ⟨q, j, none⟩ = some (.int .i64 y) := (HBx.out.cell (Nat.lt_of_lt_of_le hql HBp.out.size)).trans e1
        have yf : wx.frozen? ⟨q, j, none⟩ = false := (HBx.out.frozen (Nat.lt_of_lt_of_le hql HBp.out.size)).trans e2
        clear hb
        refine hK.out _ _ (HWS.out.below HBx.out) (fun hHeld => ?_)
        clear hK K
        (try simp only [Act.put, List.setIfInBounds_toArray, List.set_cons_zero, List.set_cons_succ])
        refine wpAnyH_ready (rs := [19]) (by kernel_rfl) (by simp) (AllReadyH.cons rfl (fun K hK => ?_) AllReadyH.nil)
        go_simp
        refine hK.out _ _ (by assumption) (fun hHeld => ?_)
        clear hK K
        (try simp only [Act.put, List.setIfInBounds_toArray, List.set_cons_zero, List.set_cons_succ])
        refine wpAnyH_take (i := 20) (v := ?v20) rfl (by kernel_rfl) (by kernel_rfl) (by kernel_rfl) (fun _ _ _ h => h) (Or.inl ⟨by rfl, ?hy20⟩) (by assumption) ?rest20
        case hy20 => (intro wy hSw; (try dsimp only at hSw); obtain ⟨s0, s1, s2, s3, s4, s5⟩ := hSw; go_simp; try with_reducible rfl)
        (try simp only [Act.put, List.setIfInBounds_toArray, List.set_cons_zero, List.set_cons_succ])
        refine wpAnyH_ready (rs := [21]) (by kernel_rfl) (by simp) (AllReadyH.cons rfl (fun K hK => ?_) AllReadyH.nil)
        go_simp
        refine hK.out _ _ ((HWS.out.below HBx.out).store (by omega) hne hq1) (fun hHeld => ?_)
        clear hK K
        (try simp only [Act.put, List.setIfInBounds_toArray, List.set_cons_zero, List.set_cons_succ])
        refine wpAnyH_done (by kernel_rfl) ?_ _
        go_wp2
        go_roundw
        case rel => exact ⟨k + 1, by omega, by go_num, HFin.out _ HBx.out, HBt.out _ _ HBx.out⟩
        case measure => simp [intOf]; omega
      case a18 =>
        go_simp
        refine (HC.out _ HWS.out.drew.2.2.2.2.2).mono ?_
        rintro e wx ⟨rfl, hb⟩
        have HBx := Lib.hid ((b_draws wp 1).trans hb)
        have yq : wx.cell? ⟨q, j, none⟩ = some (.int .i64 y) := (HBx.out.cell (Nat.lt_of_lt_of_le hql HBp.out.size)).trans e1
        have yf : wx.frozen? ⟨q, j, none⟩ = false := (HBx.out.frozen (Nat.lt_of_lt_of_le hql HBp.out.size)).trans e2
        clear hb
        refine hK.out _ _ (HWS.out.below HBx.out) (fun hHeld => ?_)
        clear hK K
        (try simp only [Act.put, List.setIfInBounds_toArray, List.set_cons_zero, List.set_cons_succ])
        refine wpAnyH_ready (rs := [15]) (by kernel_rfl) (by simp) (AllReadyH.cons rfl (fun K hK => ?_) AllReadyH.nil)
        go_simp
        refine hK.out _ _ (by assumption) (fun hHeld => ?_)
        clear hK K
        (try simp only [Act.put, List.setIfInBounds_toArray, List.set_cons_zero, List.set_cons_succ])
        refine wpAnyH_ready (rs := [19]) (by kernel_rfl) (by simp) (AllReadyH.cons rfl (fun K hK => ?_) AllReadyH.nil)
        go_simp
        refine hK.out _ _ (by assumption) (fun hHeld => ?_)
        clear hK K
        (try simp only [Act.put, List.setIfInBounds_toArray, List.set_cons_zero, List.set_cons_succ])
        refine wpAnyH_take (i := 20) (v := ?w20) rfl (by kernel_rfl) (by kernel_rfl) (by kernel_rfl) (fun _ _ _ h => h) (Or.inl ⟨by rfl, ?hz20⟩) (by assumption) ?west20
        case hz20 => (intro wy hSw; (try dsimp only at hSw); obtain ⟨s0, s1, s2, s3, s4, s5⟩ := hSw; go_simp; try with_reducible rfl)
        (try simp only [Act.put, List.setIfInBounds_toArray, List.set_cons_zero, List.set_cons_succ])
        refine wpAnyH_ready (rs := [21]) (by kernel_rfl) (by simp) (AllReadyH.cons rfl (fun K hK => ?_) AllReadyH.nil)
        go_simp
        refine hK.out _ _ ((HWS.out.below HBx.out).store (by omega) hne hq1) (fun hHeld => ?_)
        clear hK K
        (try simp only [Act.put, List.setIfInBounds_toArray, List.set_cons_zero, List.set_cons_succ])
        refine wpAnyH_done (by kernel_rfl) ?_ _
        go_wp2
        go_roundw
        case rel => exact ⟨k + 1, by omega, by go_num, HFin.out _ HBx.out, HBt.out _ _ HBx.out⟩
        case measure => simp [intOf]; omega
    · obtain rfl : k = n := by omega
      have HE : Hid (l.take k = l) := List.take_of_length_le (by rw [HL.out]; exact Nat.le_refl _)
      rw [HE.out] at HO
      go_wp2
      go_ret
      exact ⟨_, _, rfl, HO.out, HB.out⟩
set_option maxRecDepth 100000 in
set_option maxHeartbeats 1000000 in
theorem delayMatrixM (N : Nat) (a : Option Addr) (n cap : Nat) (l : List M.Pc) (m : Int) (w : World) (h : Pls w a n l) (hg : M.isGr (N : Int) l = true) :
    Calls Tryz.prog 57 #[.agg #[.int .i64 N, .slice a n cap], .int .i64 m] w (MPost N (M.wtM (M.fDel m) N l) w) := by
  have hb0 := b_alloc2 w (.cells #[.int .i64 N, .slice a n cap] 26) (.cells #[.int .i64 m] 2)
  have hGb : GBox ((w.alloc (.cells #[.int .i64 N, .slice a n cap] 26)).alloc (.cells #[.int .i64 m] 2)) w.heap.size N a n cap := (gBox_new w N a n cap 26).below (b_alloc _ _)
  have hE : ((w.alloc (.cells #[.int .i64 N, .slice a n cap] 26)).alloc (.cells #[.int .i64 m] 2)).cell? ⟨w.heap.size + 1, 0, none⟩ = some (.int .i64 m) := by simp [go_sem]
  obtain ⟨wb, hwb⟩ : ∃ z, z = (w.alloc (.cells #[.int .i64 N, .slice a n cap] 26)).alloc (.cells #[.int .i64 m] 2) := ⟨_, rfl⟩
  rw [← hwb] at hb0 hGb hE
  have HC := Lib.hid (weightedDel N a n cap l (w.heap.size + 1) m wb hE (h.below hb0) hg)
  obtain ⟨g0, g1⟩ := hGb
  have HB0 := Lib.hid hb0
  have HWb := Lib.hid hwb.symm
  rw [hwb] at g0 g1
  clear h hg hb0 hE hwb
  go_enter Tryz.func57, Tryz.ntmps57
  go_wp2_with fail
  rw [HWb.out]
  refine HC.out.mono ?_
  rintro e w1 ⟨b, c, rfl, ho, hb⟩
  have HO := Lib.hid (ho.mono HB0.out.size)
  have HB := Lib.hid (HB0.out.trans (hb.mono HB0.out.size))
  clear ho hb g0 g1
  go_wp2
  go_ret
  exact ⟨_, _, rfl, HO.out, HB.out⟩
set_option maxRecDepth 100000 in
set_option maxHeartbeats 2000000 in
theorem delayMatrix (x : Int) (a : Option Addr) (n cap : Nat) (l : List M.Pc) (m : Int) (w : World) (h : Pls w a n l) :
    Calls Tryz.prog 14 #[.agg #[.int .i64 x, .slice a n cap], .int .i64 m] w (MRes (M.delRes x l m) w) := by
  have HI := Lib.hid h
  have hb0 := b_alloc w (.cells #[.int .i64 x, .slice a n cap] 26)
  have hG := gBox_new w x a n cap 26
  obtain ⟨wb, hwb⟩ : ∃ z, z = w.alloc (.cells #[.int .i64 x, .slice a n cap] 26) := ⟨_, rfl⟩
  rw [← hwb] at hb0 hG
  obtain ⟨r, hr⟩ : ∃ r, r = M.isGr x l := ⟨_, rfl⟩
  have HS : Hid (Calls Tryz.prog 56 #[.agg #[.int .i64 x, .slice a n cap]] wb fun e w' => e = .returned (.bool r) ∧ Below wb.heap.size wb w') := by rw [hr]; exact isEventGraph x a n cap l wb (h.below hb0)
  obtain ⟨u, hu⟩ : ∃ u, u = M.inB m 0 5 := ⟨_, rfl⟩
  have HU : Hid (∀ W, Calls Tryz.prog 53 #[.int .i64 m, .int .i64 5] W fun e w' => e = .returned (.bool u) ∧ W = w') := fun W => by rw [hu]; exact isUpTo m 5 W
  have HG := Lib.hid hG
  have HB0 := Lib.hid hb0
  have HRr := Lib.hid hr
  have HR : Hid (M.delRes x l m = if r then (if u then (M.wtM (M.fDel m) x.toNat l, 0) else ([], 2)) else ([], 1)) := by show _ = _; unfold M.delRes; rw [← hr, ← hu]
  clear h hG hb0 hr hu
  cases r with
  | false =>
    go_enter Tryz.func14, Tryz.ntmps14
    go_wp2_with fail
    rw [← hwb]
    clear hwb
    refine (HS.out).mono ?_
    rintro e w1 ⟨rfl, hb1⟩
    have HB1 := Lib.hid (HB0.out.trans (hb1.mono HB0.out.size))
    clear hb1
    go_wp2
    go_ret2
    exact MRes.nil HR.out HB1.out
  | true =>
    obtain ⟨N, hN, n1, n2⟩ := gr_nat HRr.out.symm
    replace hN := hN.symm
    subst hN
    cases u with
    | false =>
      go_enter Tryz.func14, Tryz.ntmps14
      go_wp2_with fail
      rw [← hwb]
      clear hwb
      refine (HS.out).mono ?_
      rintro e w1 ⟨rfl, hb1⟩
      have HB1 := Lib.hid (HB0.out.trans (hb1.mono HB0.out.size))
      clear hb1
      go_wp2_with (go_at_call 53; refine (HU.out _).mono ?_; rintro e w' ⟨rfl, rfl⟩)
      go_ret2
      exact MRes.nil HR.out HB1.out
    | true =>
      go_enter Tryz.func14, Tryz.ntmps14
      go_wp2_with fail
      rw [← hwb]
      clear hwb
      refine (HS.out).mono ?_
      rintro e w1 ⟨rfl, hb1⟩
      have HB1 := Lib.hid (HB0.out.trans (hb1.mono HB0.out.size))
      obtain ⟨g0, g1⟩ := HG.out.below hb1
      clear hb1
      go_wp2_with (go_at_call 53; refine (HU.out _).mono ?_; rintro e w' ⟨rfl, rfl⟩)
      refine (delayMatrixM N a n cap l m w1 (HI.out.below HB1.out) HRr.out.symm).mono ?_
      rintro e w2 ⟨b2, c2, rfl, ho, hb2⟩
      have HO2 := Lib.hid (ho.mono HB1.out.size)
      have HB2 := Lib.hid (HB1.out.trans (hb2.mono HB1.out.size))
      clear ho hb2 g0 g1
      go_wp2
      go_ret2
      rw [HR.out]
      exact ⟨_, _, _, rfl, HO2.out, HB2.out⟩
set_option maxRecDepth 100000 in
set_option maxHeartbeats 4000000 in
theorem sDelays (N : Nat) (a : Option Addr) (n cap : Nat) (l : List M.Pc) (m : Int) (w : World) (h : Pls w a n l) (hg : M.isGr (N : Int) l = true) :
    Calls Tryz.prog 59 #[.agg #[.int .i64 N, .slice a n cap], .int .i64 m] w (MPost N (M.wtM (M.fDel m) N l) w) := by
  have HI := Lib.hid h
  have HL : Hid (l.length = n) := h.1
  have HG := Lib.hid hg
  obtain ⟨n1, n2, hl30⟩ := gr_N hg
  have hn30 : n ≤ 30 := by rw [h.1] at hl30; exact hl30
  have hb0 := b_alloc w (.cells #[.int .i64 N, .slice a n cap] 26)
  have hGb := gBox_new w N a n cap 26
  obtain ⟨wb, hwb⟩ : ∃ z, z = w.alloc (.cells #[.int .i64 N, .slice a n cap] 26) := ⟨_, rfl⟩
  rw [← hwb] at hb0 hGb
  have hgb : w.heap.size < wb.heap.size := cell_lt hGb.1
  have HGb := Lib.hid hGb
  have HB0 := Lib.hid hb0
  obtain ⟨g0, g1⟩ := hGb
  have HFill : Hid (M.botM N N = M.wtM (M.fDel m) N (l.take 0)) := by show _ = _; rfl
  clear h hg hl30 hb0
  go_enter Tryz.func59, Tryz.ntmps59
  go_wp2_with fail
  rw [← hwb]
  clear hwb
  refine (sBottom N N wb (by omega) (by omega)).mono ?_
  rintro e w1 ⟨b, c, rfl, ho, hb⟩
  rw [HFill.out] at ho
  have HO1 : Hid (OwnM w1 (w.heap.size + 1) (.slice b N c) (M.wtM (M.fDel m) N (l.take 0))) := ho.mono hgb
  have HB1 := Lib.hid (HB0.out.trans (hb.mono HB0.out.size))
  have HG1 := Lib.hid (HGb.out.below hb)
  clear ho hb g0 g1
  go_wp2
  go_loopw [6] (fun kv wr => ∃ k : Nat, k ≤ n ∧ kv = .int .i64 k ∧ Hid (OwnM wr (w.heap.size + 1) (.slice b N c) (M.wtM (M.fDel m) N (l.take k))) ∧ Hid (GBox wr w.heap.size N a n cap) ∧ Hid (Below w.heap.size w wr)) (fun kv _ => n - (intOf kv).toNat)
  case atStart => exact ⟨0, Nat.zero_le _, rfl, HO1, HG1, HB1⟩
  case round =>
    obtain ⟨k, hk, rfl, HO, HGk, HB⟩ := hrel
    obtain ⟨wo, rfl⟩ : ∃ x, x = wr := ⟨_, rfl⟩
    clear HO1 HB1 HG1
    obtain ⟨g0, g1⟩ := HGk.out
    by_cases hkl : k < n
    · have hki : (k : Int) < (n : Int) := by omega
      obtain ⟨pb, off, p0, p1, p2, p3, rfl, -, hp, c0, c1, c2, c3⟩ := (HI.out.below HB.out).at k hkl
      obtain ⟨i, j, hi, hj, rfl, rfl, t2, t2', t3, t3'⟩ := gr_at HG.out (by rw [HL.out]; exact hkl) hp
      have hij : (i : Int) < (N : Int) := by omega
      have hjj : (j : Int) < (N : Int) := by omega
      by_cases hpm : p3 = m
      · have hrow : ((M.wtM (M.fDel m) N (l.take k)).getD i []).length = N := M.mk_rowlen _ _ _ _ hi
        obtain ⟨o, q, L, rc, y, rfl, ho1, hq1, hL, hy, m1, m2, m3, m4⟩ := HO.out.at i j hi (by rw [hrow]; exact hj)
        rw [hrow] at hL
        replace hL := hL.symm
        subst hL
        have hyv : y = M.wtF (M.fDel m) (l.take k) i j := by rw [hy]; exact M.ent_mk _ _ _ _ _ hi hj
        have hN := M.wtM_next (M.fDel m) N l (k := k) (by rw [HL.out]; exact hkl) hp hi rfl rfl
        rw [← hyv, show (M.fDel m) ((j : Int), (i : Int), p2, p3) = p2 from if_neg (fun q => q hpm)] at hN
        obtain ⟨wp, hwp⟩ : ∃ z, z = wo.alloc (.cells #[.int .i64 j, .int .i64 i, .int .i64 p2, .int .i64 p3] 71) := ⟨_, rfl⟩
        have hbp : Below wo.heap.size wo wp := by rw [hwp]; exact b_alloc wo _
        have x0 : wp.cell? ⟨wo.heap.size, 0, none⟩ = some (.int .i64 j) := by rw [hwp]; simp [go_sem]
        have x1 : wp.cell? ⟨wo.heap.size, 1, none⟩ = some (.int .i64 i) := by rw [hwp]; simp [go_sem]
        have x2 : wp.cell? ⟨wo.heap.size, 2, none⟩ = some (.int .i64 p2) := by rw [hwp]; simp [go_sem]
        have x3 : wp.cell? ⟨wo.heap.size, 3, none⟩ = some (.int .i64 p3) := by rw [hwp]; simp [go_sem]
        have n1' : wp.cell? ⟨o, i, none⟩ = some (.slice (some ⟨q, 0, none⟩) N rc) := (hbp.cell (cell_lt m1)).trans m1
        have n2' : wp.cell? ⟨q, j, none⟩ = some (.int .i64 y) := (hbp.cell (cell_lt m2)).trans m2
        have n3' : wp.frozen? ⟨q, j, none⟩ = false := (hbp.frozen (cell_lt m2)).trans m3
        have HM := HO.out.below hbp
        obtain ⟨o', q', L', rc', y', ho', -, -, hL', hy', k1, k2, k3, k4⟩ := HM.at i j hi (by rw [hrow]; exact hj)
        injection ho' with ho'
        injection ho' with ho'
        subst ho'
        rw [n1'] at k1
        injection k1 with k1
        injection k1 with k1 k1' k1''
        injection k1 with k1
        injection k1 with k1
        subst k1
        have HN : Hid (∀ v, v = max y p2 → OwnM (wp.setCell ⟨q, j, none⟩ (.int .i64 v)) (w.heap.size + 1) (.slice (some ⟨o, 0, none⟩) N c) (M.wtM (M.fDel m) N (l.take (k + 1)))) := fun v hv => by rw [← hN, ← hv]; exact k4 v
        have hBp := HB.out.trans (hbp.mono HB.out.size)
        have hq2 : w.heap.size ≤ q := by omega
        have HBn : Hid (∀ v, Below w.heap.size w (wp.drew.setCell ⟨q, j, none⟩ (.int .i64 v))) := fun v => hBp.drew.setCell (p := ⟨q, j, none⟩) hq2 _
        have HGn : Hid (∀ v, GBox (wp.drew.setCell ⟨q, j, none⟩ (.int .i64 v)) w.heap.size N (some ⟨pb, off, none⟩) n cap) := fun v => by
          have e : (wp.drew.setCell ⟨q, j, none⟩ (.int .i64 v)).heap[w.heap.size]? = wp.heap[w.heap.size]? := Below.heap_setCell _ _ _ _ (by show w.heap.size ≠ q; omega)
          obtain ⟨f0, f1⟩ := HGk.out.below hbp
          exact ⟨(World.cell?_of_block (a := ⟨w.heap.size, 0, none⟩) e).trans f0, (World.cell?_of_block (a := ⟨w.heap.size, 1, none⟩) e).trans f1⟩
        have HWp := Lib.hid hwp.symm
        have hpm' : (p3 == m) = true := by simp [hpm]
        clear hpm hp hN hy hyv hrow m4 k1' k1'' k2 k3 k4 hL' hy' HM hBp hwp hbp m1 m2 m3
        go_wp2
        rw [HWp.out]
        go_still_tail 20, (by kernel_rfl)
        change wpList _ _ _ _ _ wp.drew
        go_wp2
        go_roundw
        case rel => exact ⟨k + 1, by omega, by go_num, (HN.out _ (by split <;> omega)).keep (fun _ _ _ => rfl), HGn.out _, HBn.out _⟩
        case measure => simp [intOf]; omega
      · have hpm' : (p3 == m) = false := by simpa using hpm
        have hN := M.wtM_skip (M.fDel m) N l (k := k) (by rw [HL.out]; exact hkl) (by rw [show l.getD k (0, 0, 0, 0) = _ from hp]; exact if_pos hpm)
        rw [hN] at HO
        clear hp hN hpm
        go_wp2
        go_roundw
        case rel =>
          refine ⟨k + 1, by omega, by go_num, HO.out.below (b_alloc _ _), HGk.out.below (b_alloc _ _), HB.out.trans ((b_alloc _ _).mono HB.out.size)⟩
        case measure => simp [intOf]; omega
    · obtain rfl : k = n := by omega
      have HE : Hid (l.take k = l) := List.take_of_length_le (by rw [HL.out]; exact Nat.le_refl _)
      rw [HE.out] at HO
      go_wp2
      go_ret
      exact ⟨_, _, rfl, HO.out.mono (by omega), HB.out⟩
set_option maxRecDepth 100000 in
set_option maxHeartbeats 2000000 in
theorem sDelayMatrix (x : Int) (a : Option Addr) (n cap : Nat) (l : List M.Pc) (m : Int) (w : World) (h : Pls w a n l) :
    Calls Tryz.prog 15 #[.agg #[.int .i64 x, .slice a n cap], .int .i64 m] w (MRes (M.delRes x l m) w) := by
  have HI := Lib.hid h
  have hb0 := b_alloc w (.cells #[.int .i64 x, .slice a n cap] 26)
  have hG := gBox_new w x a n cap 26
  obtain ⟨wb, hwb⟩ : ∃ z, z = w.alloc (.cells #[.int .i64 x, .slice a n cap] 26) := ⟨_, rfl⟩
  rw [← hwb] at hb0 hG
  obtain ⟨r, hr⟩ : ∃ r, r = M.isGr x l := ⟨_, rfl⟩
  have HS : Hid (Calls Tryz.prog 58 #[.agg #[.int .i64 x, .slice a n cap]] wb fun e w' => e = .returned (.bool r) ∧ Below wb.heap.size wb w') := by rw [hr]; exact sIsEventGraph x a n cap l wb (h.below hb0)
  obtain ⟨u, hu⟩ : ∃ u, u = M.inB m 0 5 := ⟨_, rfl⟩
  have HU : Hid (∀ W, Calls Tryz.prog 55 #[.int .i64 m, .int .i64 0, .int .i64 5] W fun e w' => e = .returned (.bool u) ∧ W = w') := fun W => by rw [hu]; exact sIn m 0 5 W
  have HG := Lib.hid hG
  have HB0 := Lib.hid hb0
  have HRr := Lib.hid hr
  have HR : Hid (M.delRes x l m = if r then (if u then (M.wtM (M.fDel m) x.toNat l, 0) else ([], 2)) else ([], 1)) := by show _ = _; unfold M.delRes; rw [← hr, ← hu]
  clear h hG hb0 hr hu
  cases r with
  | false =>
    go_enter Tryz.func15, Tryz.ntmps15
    go_wp2_with fail
    rw [← hwb]
    clear hwb
    refine (HS.out).mono ?_
    rintro e w1 ⟨rfl, hb1⟩
    have HB1 := Lib.hid (HB0.out.trans (hb1.mono HB0.out.size))
    clear hb1
    go_wp2
    go_ret2
    exact MRes.nil HR.out HB1.out
  | true =>
    obtain ⟨N, hN, n1, n2⟩ := gr_nat HRr.out.symm
    replace hN := hN.symm
    subst hN
    cases u with
    | false =>
      go_enter Tryz.func15, Tryz.ntmps15
      go_wp2_with fail
      rw [← hwb]
      clear hwb
      refine (HS.out).mono ?_
      rintro e w1 ⟨rfl, hb1⟩
      have HB1 := Lib.hid (HB0.out.trans (hb1.mono HB0.out.size))
      clear hb1
      go_wp2_with (go_at_call 55; refine (HU.out _).mono ?_; rintro e w' ⟨rfl, rfl⟩)
      go_ret2
      exact MRes.nil HR.out HB1.out
    | true =>
      go_enter Tryz.func15, Tryz.ntmps15
      go_wp2_with fail
      rw [← hwb]
      clear hwb
      refine (HS.out).mono ?_
      rintro e w1 ⟨rfl, hb1⟩
      have HB1 := Lib.hid (HB0.out.trans (hb1.mono HB0.out.size))
      obtain ⟨g0, g1⟩ := HG.out.below hb1
      clear hb1
      go_wp2_with (go_at_call 55; refine (HU.out _).mono ?_; rintro e w' ⟨rfl, rfl⟩)
      refine (sDelays N a n cap l m w1 (HI.out.below HB1.out) HRr.out.symm).mono ?_
      rintro e w2 ⟨b2, c2, rfl, ho, hb2⟩
      have HO2 := Lib.hid (ho.mono HB1.out.size)
      have HB2 := Lib.hid (HB1.out.trans (hb2.mono HB1.out.size))
      clear ho hb2 g0 g1
      go_wp2
      go_ret2
      rw [HR.out]
      exact ⟨_, _, _, rfl, HO2.out, HB2.out⟩
end V
end Go.Proofs.YtlofnadpgnbmdaaGreat
