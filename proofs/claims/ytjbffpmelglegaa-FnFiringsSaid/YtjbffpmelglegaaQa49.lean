/- Texts laid together: Rcn. -/
import Derived.Test.YtjbffpmelglegaaQa48
set_option linter.unusedSimpArgs false
set_option linter.unusedVariables false
set_option linter.unusedSectionVars false
namespace Go.Proofs.Ytjbffpmelglegaa
namespace V
set_option maxRecDepth 100000
open Go.RowKit
set_option maxRecDepth 100000 in
set_option maxHeartbeats 4000000 in
theorem sFiringTimes (x : Int) (a : Option Addr) (n cap : Nat) (l : List M.Pc) (nI : Int) (w : World) (h : Pls w a n l) :
    Calls Try.prog 46 #[.agg #[.int .i64 x, .slice a n cap], .int .i64 nI] w (MRes (M.ftRes x l nI) w) := by
  have HI := Lib.hid h
  have hb0 := b_alloc w (.cells #[.int .i64 x, .slice a n cap] 41)
  have hG := gBox_new w x a n cap 41
  obtain ⟨wb, hwb⟩ : ∃ z, z = w.alloc (.cells #[.int .i64 x, .slice a n cap] 41) := ⟨_, rfl⟩
  rw [← hwb] at hb0 hG
  have HWb := Lib.hid hwb.symm
  have HG := Lib.hid hG
  have HB0 := Lib.hid hb0
  obtain ⟨u, hu⟩ : ∃ u, u = M.inB nI 0 50 := ⟨_, rfl⟩
  obtain ⟨cd, hcd⟩ : ∃ c, c = M.inCode (M.lvCode x l) u := ⟨_, rfl⟩
  have HC : Hid (∀ w', Below wb.heap.size wb w' → Calls Try.prog 94 #[.agg #[.int .i64 x, .slice a n cap], .bool u] w' fun e w'' => e = .returned (.int .i64 cd) ∧ Below w'.heap.size w' w'') := fun w' hb' => by
    have := sCode x a n cap l u w' (h.below (hb0.trans (hb'.mono hb0.size)))
    rw [← hcd] at this
    exact this
  have HCd := Lib.hid hcd
  have HU := Lib.hid hu
  obtain ⟨g0, g1⟩ := hG
  rw [hwb] at g0 g1
  clear h hb0 hwb hcd hu
  have HUp : Hid (∀ W, Calls Try.prog 68 #[.int .i64 nI, .int .i64 0, .int .i64 50] W fun e w' => e = .returned (.bool u) ∧ W = w') := fun W => by rw [HU.out]; exact sIn nI 0 50 W
  by_cases h0 : cd = 0
  · subst h0
    go_enter Try.func46, Try.ntmps46
    go_upto_region 1 with fail
    rw [HWb.out]
    clear g0 g1
    obtain ⟨g0, g1⟩ := HG.out
    go_cut [6] (fun s6 wx => s6 = .int .i64 0 ∧ Hid (Below wb.heap.size wb wx))
    case first =>
      go_region_with (first
        | (go_at_call 68; refine (HUp.out _).mono ?_; rintro e w' ⟨rfl, rfl⟩)
        | (go_at_call 94; refine (HC.out _ (b_draws wb 1)).mono ?_; rintro e w2 ⟨rfl, hb2⟩; have HB2 := Lib.hid ((b_draws wb 1).trans hb2); clear hb2))
      all_goals
        go_wp2_with fail
        go_meet
        exact ⟨rfl, HB2⟩
    case rest =>
      obtain ⟨w2, hw2⟩ : ∃ z, z = wc := ⟨_, rfl⟩
      subst hw2
      obtain ⟨rfl, HB2⟩ := hcut
      obtain ⟨hlv, hut⟩ := M.inCode_t HCd.out.symm
      obtain ⟨N, hxN, hgr, hlive, hnp, n1, n10⟩ := lv_live hlv
      subst hxN
      have HGr := Lib.hid hgr
      have HLive := Lib.hid hlive
      have HNp := Lib.hid hnp
      have HUt := Lib.hid hut
      have HBw := Lib.hid (HB0.out.trans (HB2.out.mono HB0.out.size))
      clear hgr hlive hnp hlv hut g0 g1
      obtain ⟨g0, g1⟩ := HG.out.below HB2.out
      obtain ⟨nn, rfl, hnn⟩ : ∃ k : Nat, nI = (k : Int) ∧ k ≤ 50 := by
        have q := HU.out.symm.trans HUt.out
        unfold M.inB at q
        simp only [Bool.and_eq_true, decide_eq_true_eq] at q
        exact ⟨nI.toNat, by omega, by omega⟩
      have HR : Hid (M.ftRes (N : Int) l nn = (M.timM l (M.ordL (M.wtF M.fOne l) N N) M.zst N nn, 0)) := by show _ = _; unfold M.ftRes; rw [← HU.out, ← HCd.out]; rfl
      have hmk := run_make_row' (P := Try.prog) 24 2 (.int .i64 0) 8 Try.underlying24 info64 rfl .i64 .i64 N (by omega) (by omega)
      have HTm : Hid (∀ za w', Below w2.heap.size w2 w' → Ints .i64 w' za N ((List.range N).map fun _ => (0 : Int)) → Calls Try.prog 95 #[.agg #[.int .i64 N, .slice a n cap], .int .i64 nn, .slice za N N] w' (MPost nn (M.timM l (M.ordL (M.wtF M.fOne l) N N) M.zst N nn) w')) := fun za w' hb' hz => sTimesZ N a n cap l nn za N w' (HI.out.below (HBw.out.trans (hb'.mono HBw.out.size))) HGr.out HNp.out hnn hz
      have hal : Below w2.heap.size w2 (w2.alloc (.cells (madeCells #[.int .i64 0] N) 2)).drew := (b_alloc w2 _).drew
      have hzs : Ints .i64 (w2.alloc (.cells (madeCells #[.int .i64 0] N) 2)).drew (some ⟨w2.heap.size, 0, none⟩) N ((List.range N).map fun _ => (0 : Int)) := (own_made w2 0 N (Nat.zero_le _) (by unfold maxLen; omega)).ints'.below (b_draws _ 1)
      have HAl := Lib.hid hal
      have HZs := Lib.hid hzs
      clear hal hzs
      go_wp2
      have HS0 : Hid (∀ w', Below w2.heap.size w2 w' → w'.cell? ⟨w.heap.size, 0, none⟩ = some (.int .i64 N) ∧ w'.cell? ⟨w.heap.size, 1, none⟩ = some (.slice a n cap) ∧ Below w2.heap.size w2 w') := fun w' hb' => ⟨((HG.out.below HB2.out).below hb').1, ((HG.out.below HB2.out).below hb').2, hb'⟩
      refine wp_region_held_drew (S := fun w' => w'.cell? ⟨w.heap.size, 0, none⟩ = some (.int .i64 N) ∧ w'.cell? ⟨w.heap.size, 1, none⟩ = some (.slice a n cap) ∧ Below w2.heap.size w2 w') (by kernel_rfl) ?hS (fun hHeld => ?_)
      case hS => exact HS0.out _ (b_draws w2 1)
      refine wpAnyH_take (i := 0) (v := ?v0) rfl (by kernel_rfl) (by kernel_rfl) (by kernel_rfl) (fun _ _ _ h => h) (Or.inl ⟨by rfl, ?hy0⟩) (by assumption) ?rest0
      case hy0 => (intro wy hSw; (try dsimp only at hSw); obtain ⟨s0, s1, s2⟩ := hSw; go_simp; try with_reducible rfl)
      (try simp only [Act.put, List.setIfInBounds_toArray, List.set_cons_zero, List.set_cons_succ])
      refine wpAnyH_take (i := 1) (v := ?v1) rfl (by kernel_rfl) (by kernel_rfl) (by kernel_rfl) (fun _ _ _ h => h) (Or.inl ⟨by rfl, ?hy1⟩) (by assumption) ?rest1
      case hy1 => (intro wy hSw; (try dsimp only at hSw); obtain ⟨s0, s1, s2⟩ := hSw; go_simp; try with_reducible rfl)
      (try simp only [Act.put, List.setIfInBounds_toArray, List.set_cons_zero, List.set_cons_succ])
      refine wpAnyH_take (i := 2) (v := ?v2) rfl (by kernel_rfl) (by kernel_rfl) (by kernel_rfl) (fun _ _ _ h => h) (Or.inl ⟨by rfl, ?hy2⟩) (by assumption) ?rest2
      case hy2 => (intro wy hSw; (try dsimp only at hSw); obtain ⟨s0, s1, s2⟩ := hSw; go_simp; try with_reducible rfl)
      (try simp only [Act.put, List.setIfInBounds_toArray, List.set_cons_zero, List.set_cons_succ])
      refine wpAnyH_take (i := 3) (v := ?v3) rfl (by kernel_rfl) (by kernel_rfl) (by kernel_rfl) (fun _ _ _ h => h) (Or.inl ⟨by rfl, ?hy3⟩) (by assumption) ?rest3
      case hy3 => (intro wy hSw; (try dsimp only at hSw); obtain ⟨s0, s1, s2⟩ := hSw; go_simp; try with_reducible rfl)
      (try simp only [Act.put, List.setIfInBounds_toArray, List.set_cons_zero, List.set_cons_succ])
      refine wpAnyH_ready (rs := [4]) (by kernel_rfl) (by simp) (AllReadyH.cons rfl (fun K hK => ?_) AllReadyH.nil)
      go_simp
      refine hK.out _ _ (HS0.out _ HAl.out) (fun hHeld => ?_)
      clear hK K
      (try simp only [Act.put, List.setIfInBounds_toArray, List.set_cons_zero, List.set_cons_succ])
      refine wpAnyH_ready (rs := [5]) (by kernel_rfl) (by simp) (AllReadyH.cons rfl (fun K hK => ?_) AllReadyH.nil)
      go_simp
      refine (HTm.out _ _ HAl.out HZs.out).mono ?_
      rintro e w3 ⟨b3, c3, rfl, ho, hb⟩
      have HO3 := Lib.hid (ho.mono (Nat.le_trans HBw.out.size HAl.out.size))
      have HB4 := Lib.hid (HAl.out.trans (hb.mono HAl.out.size))
      have HB3 := Lib.hid (HBw.out.trans (HB4.out.mono HBw.out.size))
      clear ho hb
      refine hK.out _ _ (HS0.out _ HB4.out) (fun hHeld => ?_)
      clear hK K
      (try simp only [Act.put, List.setIfInBounds_toArray, List.set_cons_zero, List.set_cons_succ])
      refine wpAnyH_ready (rs := [6]) (by kernel_rfl) (by simp) (AllReadyH.cons rfl (fun K hK => ?_) AllReadyH.nil)
      go_simp
      refine hK.out _ _ (HS0.out _ HB4.out) (fun hHeld => ?_)
      clear hK K
      (try simp only [Act.put, List.setIfInBounds_toArray, List.set_cons_zero, List.set_cons_succ])
      refine wpAnyH_ready (rs := [7]) (by kernel_rfl) (by simp) (AllReadyH.cons rfl (fun K hK => ?_) AllReadyH.nil)
      go_simp
      refine hK.out _ _ (HS0.out _ HB4.out) (fun hHeld => ?_)
      clear hK K
      (try simp only [Act.put, List.setIfInBounds_toArray, List.set_cons_zero, List.set_cons_succ])
      refine wpAnyH_done (by kernel_rfl) ?_ _
      clear g0 g1
      go_wp2
      go_ret2
      rw [HR.out]
      exact ⟨_, _, _, rfl, HO3.out, HB3.out⟩
  · have h0' : (cd != 0) = true := by simpa using h0
    have HR : Hid (M.ftRes x l nI = ([], cd)) := by show _ = _; unfold M.ftRes; rw [← HU.out, ← HCd.out, if_neg h0]
    clear h0
    go_enter Try.func46, Try.ntmps46
    go_wp2
    rw [HWb.out]
    clear g0 g1
    obtain ⟨g0, g1⟩ := HG.out
    go_region_with (first
        | (go_at_call 68; refine (HUp.out _).mono ?_; rintro e w' ⟨rfl, rfl⟩)
        | (go_at_call 94; refine (HC.out _ (b_draws wb 1)).mono ?_; rintro e w2 ⟨rfl, hb2⟩; have HB2 := Lib.hid ((b_draws wb 1).trans hb2); clear hb2))
    all_goals
      go_wp2
      go_ret2
      exact MRes.nil HR.out (HB0.out.trans (HB2.out.mono HB0.out.size))
end V
end Go.Proofs.Ytjbffpmelglegaa
