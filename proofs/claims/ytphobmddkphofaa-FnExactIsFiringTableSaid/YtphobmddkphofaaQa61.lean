/- Texts laid together: Rcz. -/
import Derived.Test.YtphobmddkphofaaQa60
import Derived.Test.YtphobmddkphofaaQa41
import Derived.Test.YtphobmddkphofaaQa6
import Derived.Deep.RegionHeld3
set_option linter.unusedSimpArgs false
set_option linter.unusedVariables false
set_option linter.unusedSectionVars false
namespace Go.Proofs.Ytphobmddkphofaa
namespace V
set_option maxRecDepth 100000
open Go.RowKit
set_option maxRecDepth 100000 in
set_option maxHeartbeats 8000000 in
theorem sIsFiringTable (x : Int) (a : Option Addr) (n cap : Nat) (l : List M.Pc) (ta : Option Addr) (tn tc : Nat) (T : List (List Int)) (w : World) (h : Pls w a n l) (hT : Mat w ta tn T) :
    Calls Try.prog 45 #[.agg #[.int .i64 x, .slice a n cap], .slice ta tn tc] w fun e w' => e = .returned (.bool (M.iftB x l T)) ∧ Below w.heap.size w w' := by
  have HI := Lib.hid h
  have HT := Lib.hid hT
  have hm := hT.2.1
  unfold maxLen at hm
  have hb0 := b_alloc w (.cells #[.int .i64 x, .slice a n cap] 26)
  have hG := gBox_new w x a n cap 26
  obtain ⟨wb, hwb⟩ : ∃ z, z = w.alloc (.cells #[.int .i64 x, .slice a n cap] 26) := ⟨_, rfl⟩
  rw [← hwb] at hb0 hG
  have HWb := Lib.hid hwb.symm
  have HG := Lib.hid hG
  have HB0 := Lib.hid hb0
  obtain ⟨cd, hcd⟩ : ∃ c, c = M.lvCode x l := ⟨_, rfl⟩
  have HC : Hid (Calls Try.prog 110 #[.agg #[.int .i64 x, .slice a n cap]] wb fun e w' => e = .returned (.int .i64 cd) ∧ Below wb.heap.size wb w') := by rw [hcd]; exact sLive x a n cap l wb (h.below hb0)
  have HCd := Lib.hid hcd
  have HTl : Hid (T.length = tn) := hT.1
  obtain ⟨g0, g1⟩ := hG
  rw [hwb] at g0 g1
  clear h hb0 hwb hcd hT
  by_cases h0 : cd = 0
  · subst h0
    by_cases h5 : tn ≤ 50
    · have h5' : ¬ (tn : Int) > 50 := by omega
      have h5'' : (tn : Int) ≤ 50 := by omega
      obtain ⟨N, hxN, hgr, hlive, hnp, n1, n10⟩ := lv_live HCd.out.symm
      subst hxN
      have HGr := Lib.hid hgr
      have HNp := Lib.hid hnp
      have HR : Hid (M.iftB (N : Int) l T = decide (M.timM l (M.ordL (M.wtF M.fOne l) N N) M.zst N tn = T)) := by
        show _ = _
        unfold M.iftB
        rw [HTl.out, ← HCd.out, show M.inB (tn : Int) 0 50 = true by unfold M.inB; rw [decide_eq_true (show (0 : Int) ≤ tn by omega), decide_eq_true h5'']; rfl]
        rfl
      clear hgr hlive hnp
      go_enter Try.func45, Try.ntmps45
      go_wp2_with fail
      rw [HWb.out]
      refine HC.out.mono ?_
      rintro e w2 ⟨rfl, hb⟩
      have HBw := Lib.hid (HB0.out.trans (hb.mono HB0.out.size))
      have HG2 := Lib.hid (HG.out.below hb)
      clear g0 g1 hb
      obtain ⟨g0, g1⟩ := HG2.out
      have hmk := run_make_row' (P := Try.prog) 29 2 (.int .i64 0) 8 Try.underlying29 info64 rfl .i64 .i64 N (by omega) (by omega)
      have HTm : Hid (∀ za w', Below w2.heap.size w2 w' → Ints .i64 w' za N ((List.range N).map fun _ => (0 : Int)) → Calls Try.prog 105 #[.agg #[.int .i64 N, .slice a n cap], .int .i64 tn, .slice za N N] w' (MPost tn (M.timM l (M.ordL (M.wtF M.fOne l) N N) M.zst N tn) w')) := fun za w' hb' hz => sTimesZ N a n cap l tn za N w' (HI.out.below (HBw.out.trans (hb'.mono HBw.out.size))) HGr.out HNp.out h5 hz
      have hal : Below w2.heap.size w2 (w2.alloc (.cells (madeCells #[.int .i64 0] N) 2)).drew := (b_alloc w2 _).drew
      have hzs : Ints .i64 (w2.alloc (.cells (madeCells #[.int .i64 0] N) 2)).drew (some ⟨w2.heap.size, 0, none⟩) N ((List.range N).map fun _ => (0 : Int)) := (own_made w2 0 N (Nat.zero_le _) (by unfold maxLen; omega)).ints'.below (b_draws _ 1)
      have HAl := Lib.hid hal
      have HZs := Lib.hid hzs
      clear hal hzs
      go_wp2
      have HS0 : Hid (∀ w', Below w2.heap.size w2 w' → w'.cell? ⟨w.heap.size, 0, none⟩ = some (.int .i64 N) ∧ w'.cell? ⟨w.heap.size, 1, none⟩ = some (.slice a n cap) ∧ Below w2.heap.size w2 w') := fun w' hb' => ⟨(HG2.out.below hb').1, (HG2.out.below hb').2, hb'⟩
      refine wp_region_held_drew (S := fun w' => w'.cell? ⟨w.heap.size, 0, none⟩ = some (.int .i64 N) ∧ w'.cell? ⟨w.heap.size, 1, none⟩ = some (.slice a n cap) ∧ Below w2.heap.size w2 w') (by kernel_rfl) ?_ (fun hHeld => ?_)
      · exact HS0.out _ (b_draws w2 1)
      refine wpAnyH_take (i := 0) (v := ?vz0) rfl (by kernel_rfl) (by kernel_rfl) (by kernel_rfl) (fun _ _ _ h => h) (Or.inl ⟨by rfl, ?hyz0⟩) (by assumption) ?restz0
      case hyz0 => (intro wy hSw; (try dsimp only at hSw); obtain ⟨s0, s1, s2⟩ := hSw; go_simp; try with_reducible rfl)
      (try simp only [Act.put, List.getElem_toArray, List.getElem_cons_zero, List.getElem_cons_succ, List.setIfInBounds_toArray, List.set_cons_zero, List.set_cons_succ])
      refine wpAnyH_take (i := 1) (v := ?vz1) rfl (by kernel_rfl) (by kernel_rfl) (by kernel_rfl) (fun _ _ _ h => h) (Or.inl ⟨by rfl, ?hyz1⟩) (by assumption) ?restz1
      case hyz1 => (intro wy hSw; (try dsimp only at hSw); obtain ⟨s0, s1, s2⟩ := hSw; go_simp; try with_reducible rfl)
      (try simp only [Act.put, List.getElem_toArray, List.getElem_cons_zero, List.getElem_cons_succ, List.setIfInBounds_toArray, List.set_cons_zero, List.set_cons_succ])
      refine wpAnyH_take (i := 2) (v := ?vz2) rfl (by kernel_rfl) (by kernel_rfl) (by kernel_rfl) (fun _ _ _ h => h) (Or.inl ⟨by rfl, ?hyz2⟩) (by assumption) ?restz2
      case hyz2 => (intro wy hSw; (try dsimp only at hSw); obtain ⟨s0, s1, s2⟩ := hSw; go_simp; try with_reducible rfl)
      (try simp only [Act.put, List.getElem_toArray, List.getElem_cons_zero, List.getElem_cons_succ, List.setIfInBounds_toArray, List.set_cons_zero, List.set_cons_succ])
      refine wpAnyH_take (i := 3) (v := ?vz3) rfl (by kernel_rfl) (by kernel_rfl) (by kernel_rfl) (fun _ _ _ h => h) (Or.inl ⟨by rfl, ?hyz3⟩) (by assumption) ?restz3
      case hyz3 => (intro wy hSw; (try dsimp only at hSw); obtain ⟨s0, s1, s2⟩ := hSw; go_simp; try with_reducible rfl)
      (try simp only [Act.put, List.getElem_toArray, List.getElem_cons_zero, List.getElem_cons_succ, List.setIfInBounds_toArray, List.set_cons_zero, List.set_cons_succ])
      refine wpAnyH_take (i := 4) (v := ?vz4) rfl (by kernel_rfl) (by kernel_rfl) (by kernel_rfl) (fun _ _ _ h => h) (Or.inl ⟨by rfl, ?hyz4⟩) (by assumption) ?restz4
      case hyz4 => (intro wy hSw; (try dsimp only at hSw); obtain ⟨s0, s1, s2⟩ := hSw; go_simp; try with_reducible rfl)
      (try simp only [Act.put, List.getElem_toArray, List.getElem_cons_zero, List.getElem_cons_succ, List.setIfInBounds_toArray, List.set_cons_zero, List.set_cons_succ])
      refine wpAnyH_take (i := 7) (v := ?vz7) rfl (by kernel_rfl) (by kernel_rfl) (by kernel_rfl) (fun _ _ _ h => h) (Or.inl ⟨by rfl, ?hyz7⟩) (by assumption) ?restz7
      case hyz7 => (intro wy hSw; (try dsimp only at hSw); obtain ⟨s0, s1, s2⟩ := hSw; go_simp; try with_reducible rfl)
      (try simp only [Act.put, List.getElem_toArray, List.getElem_cons_zero, List.getElem_cons_succ, List.setIfInBounds_toArray, List.set_cons_zero, List.set_cons_succ])
      refine wpAnyH_ready (rs := [5]) (by kernel_rfl) (by simp) (AllReadyH.cons rfl (fun K hK => ?_) AllReadyH.nil)
      go_simp
      refine hK.out _ _ (HS0.out _ HAl.out) (fun hHeld => ?_)
      clear hK K
      (try simp only [Act.put, List.getElem_toArray, List.getElem_cons_zero, List.getElem_cons_succ, List.setIfInBounds_toArray, List.set_cons_zero, List.set_cons_succ])
      refine wpAnyH_ready (rs := [6]) (by kernel_rfl) (by simp) (AllReadyH.cons rfl (fun K hK => ?_) AllReadyH.nil)
      go_simp
      refine (HTm.out _ _ HAl.out HZs.out).mono ?_
      rintro e w3 ⟨b3, c3, rfl, ho, hb⟩
      have HB4 := Lib.hid (HAl.out.trans (hb.mono HAl.out.size))
      have HM3 := Lib.hid ho.mat
      clear ho hb
      refine hK.out _ _ (HS0.out _ HB4.out) (fun hHeld => ?_)
      clear hK K
      (try simp only [Act.put, List.getElem_toArray, List.getElem_cons_zero, List.getElem_cons_succ, List.setIfInBounds_toArray, List.set_cons_zero, List.set_cons_succ])
      refine wpAnyH_ready (rs := [8]) (by kernel_rfl) (by simp) (AllReadyH.cons rfl (fun K hK => ?_) AllReadyH.nil)
      go_simp
      refine (sSameM _ tn _ _ _ _ T w3 HM3.out (HT.out.below (HBw.out.trans (HB4.out.mono HBw.out.size))) (by omega)).mono ?_
      rintro e w4 ⟨rfl, q, hq⟩
      have HB5 : Hid (Below w2.heap.size w2 w4) := by show Below _ _ _; rw [hq]; exact HB4.out.trans ((b_draws _ _).mono HB4.out.size)
      clear hq
      refine hK.out _ _ (HS0.out _ HB5.out) (fun hHeld => ?_)
      clear hK K
      (try simp only [Act.put, List.getElem_toArray, List.getElem_cons_zero, List.getElem_cons_succ, List.setIfInBounds_toArray, List.set_cons_zero, List.set_cons_succ])
      refine wpAnyH_ready (rs := [9]) (by kernel_rfl) (by simp) (AllReadyH.cons rfl (fun K hK => ?_) AllReadyH.nil)
      go_simp
      refine hK.out _ _ (HS0.out _ HB5.out) (fun hHeld => ?_)
      clear hK K
      (try simp only [Act.put, List.getElem_toArray, List.getElem_cons_zero, List.getElem_cons_succ, List.setIfInBounds_toArray, List.set_cons_zero, List.set_cons_succ])
      refine wpAnyH_done (by kernel_rfl) ?_ _
      go_wp2
      go_ret
      exact ⟨by rw [HR.out]; rfl, HBw.out.trans (HB5.out.mono HBw.out.size)⟩
    · have h5' : (tn : Int) > 50 := by omega
      have HR : Hid (M.iftB x l T = false) := by
        show _ = _
        unfold M.iftB
        rw [HTl.out, ← HCd.out, show M.inB (tn : Int) 0 50 = false by unfold M.inB; rw [decide_eq_false (show ¬ (tn : Int) ≤ 50 by omega), Bool.and_false]]
        rfl
      go_enter Try.func45, Try.ntmps45
      go_wp2_with fail
      rw [HWb.out]
      refine HC.out.mono ?_
      rintro e w2 ⟨rfl, hb⟩
      have HBw := Lib.hid (HB0.out.trans (hb.mono HB0.out.size))
      clear g0 g1 hb
      go_wp2
      go_ret
      exact ⟨by rw [HR.out]; rfl, HBw.out⟩
  · have h0' : (cd != 0) = true := by simpa using h0
    have HR : Hid (M.iftB x l T = false) := by
      show _ = _
      unfold M.iftB
      rw [← HCd.out, decide_eq_false (fun q => h0 (M.inCode_t q).1)]
      rfl
    clear h0
    go_enter Try.func45, Try.ntmps45
    go_wp2_with fail
    rw [HWb.out]
    refine HC.out.mono ?_
    rintro e w2 ⟨rfl, hb⟩
    have HBw := Lib.hid (HB0.out.trans (hb.mono HB0.out.size))
    clear g0 g1 hb
    go_wp2
    go_ret
    exact ⟨by rw [HR.out]; rfl, HBw.out⟩
end V
end Go.Proofs.Ytphobmddkphofaa
