/- Texts laid together: Grq. -/
import Derived.Test.YtphobmddkphofaaQa5
import Derived.Deep.RegionHeld3
set_option linter.unusedSimpArgs false
set_option linter.unusedVariables false
set_option linter.unusedSectionVars false
namespace Go.Proofs.Ytphobmddkphofaa
namespace V
set_option maxRecDepth 100000
open Go.RowKit
set_option maxRecDepth 100000 in
set_option maxHeartbeats 16000000 in
theorem addPlace (x : Int) (a : Option Addr) (n cap : Nat) (l : List M.Pc) (p0 p1 p2 p3 : Int) (w : World) (h : Pls w a n l) :
    Calls Try.prog 53 #[.agg #[.int .i64 x, .slice a n cap], .agg #[.int .i64 p0, .int .i64 p1, .int .i64 p2, .int .i64 p3]] w (GRes (M.addpRes x l (p0, p1, p2, p3)) w) := by
  have HI := Lib.hid h
  have hl : l.length = n := h.1
  have hb0 := b_al3g w (.cells #[.int .i64 x, .slice a n cap] 26) (.cells #[.int .i64 p0, .int .i64 p1, .int .i64 p2, .int .i64 p3] 39) (.cells #[.int .i64 0, .slice none 0 0] 26)
  obtain ⟨wb, hwb⟩ : ∃ z, z = (((w.alloc (.cells #[.int .i64 x, .slice a n cap] 26)).alloc (.cells #[.int .i64 p0, .int .i64 p1, .int .i64 p2, .int .i64 p3] 39)).alloc (.cells #[.int .i64 0, .slice none 0 0] 26)) := ⟨_, rfl⟩
  have hG : GBox wb w.heap.size x a n cap := by rw [hwb]; exact ⟨by simp [go_sem], by simp [go_sem]⟩
  have hP : PBox wb (w.heap.size + 1) p0 p1 p2 p3 := by rw [hwb]; exact ⟨by simp [go_sem], by simp [go_sem], by simp [go_sem], by simp [go_sem]⟩
  have hR : ResG wb (w.heap.size + 1 + 1) := by rw [hwb]; exact ⟨by simp [go_sem], by simp [go_sem], by simp [go_sem], by simp [go_sem]⟩
  rw [← hwb] at hb0
  have HS := Lib.hid (isEventGraph x a n cap l wb (h.below hb0))
  have HG := Lib.hid hG
  have HPb := Lib.hid hP
  have HRs := Lib.hid hR
  have HB0 := Lib.hid hb0
  obtain ⟨r, hr⟩ : ∃ r, r = M.addpRes x l (p0, p1, p2, p3) := ⟨_, rfl⟩
  have HC := Lib.hid (M.add_cases x l (p0, p1, p2, p3))
  obtain ⟨b0, hb0'⟩ : ∃ c, c = M.isGr x l := ⟨_, rfl⟩
  rw [← hr, ← hb0', hl] at HC
  rw [← hr]
  rw [← hb0'] at HS
  have HPl : Hid (∀ W, M.inB x 1 10 = true → Calls Try.prog 119 #[.agg #[.int .i64 x, .slice a n cap], .agg #[.int .i64 p0, .int .i64 p1, .int .i64 p2, .int .i64 p3]] W fun e w' => e = .returned (.bool (M.plW (x - 1) (p0, p1, p2, p3))) ∧ Below W.heap.size W w') := fun W q => by have := allows x a n cap p0 p1 p2 p3 W; rwa [ev_wrap q] at this
  obtain ⟨b1, hb1'⟩ : ∃ c, c = M.plW (x - 1) (p0, p1, p2, p3) := ⟨_, rfl⟩
  rw [← hb1'] at HC HPl
  have hmx := h.2.1
  unfold maxLen at hmx
  clear h hG hP hb0 hR hr hb0' hb1'
  go_enter Try.func53, Try.ntmps53
  go_wp2_with fail
  rw [← hwb]
  clear hwb
  refine (HS.out).mono ?_
  rintro e w1 ⟨rfl, hb1⟩
  have HB1 := Lib.hid (HB0.out.trans (hb1.mono HB0.out.size))
  have HI1 := Lib.hid (HI.out.below HB1.out)
  have HG1 := Lib.hid (HG.out.below hb1)
  have HP1 := Lib.hid (HPb.out.below hb1)
  have HR1 := Lib.hid (HRs.out.below hb1)
  obtain ⟨g0, g1⟩ := HG1.out
  obtain ⟨q0, q1, q2, q3⟩ := HP1.out
  obtain ⟨r0, r1, f0, f1⟩ := HR1.out
  have z1 : w.heap.size + 1 + 1 < w1.heap.size := cell_lt r0
  clear hb1 HS
  rcases HC.out with ⟨rfl, hr⟩ | ⟨rfl, hx, rfl, hr⟩ | ⟨rfl, hx, rfl, h30, hr⟩ | ⟨rfl, hx, rfl, h30, hr⟩
  · have HR := Lib.hid hr
    clear hr HC
    go_wp2
    exact bodyPost_ret (v := .tuple #[.agg #[.int .i64 0, .slice none 0 0], .int .i64 1]) (by simp [results, Try.results53, go_sem, z1, r0, r1]) rfl (GRes.nil HR.out ((HB1.out.setCell (by show _ ≤ w.heap.size + 1 + 1; omega) _).setCell (by show _ ≤ w.heap.size + 1 + 1; omega) _))
  all_goals
    have HR := Lib.hid hr
    clear hr HC
    (try (have H30 := Lib.hid h30; clear h30))
    (try clear hl)
    go_wp2_with fail
    refine (HPl.out _ hx).mono ?_
    rintro e w2 ⟨rfl, hb2⟩
    have HB2 := Lib.hid (HB1.out.trans (hb2.mono HB1.out.size))
    have HI2 := Lib.hid (HI1.out.below hb2)
    have HG2 := Lib.hid (HG1.out.below hb2)
    have HP2 := Lib.hid (HP1.out.below hb2)
    have HR2 := Lib.hid (HR1.out.below hb2)
    clear g0 g1 q0 q1 q2 q3 r0 r1 f0 f1
    obtain ⟨g0, g1⟩ := HG2.out
    obtain ⟨q0, q1, q2, q3⟩ := HP2.out
    obtain ⟨r0, r1, f0, f1⟩ := HR2.out
    have z2 : w.heap.size + 1 + 1 < w2.heap.size := cell_lt r0
    clear hb2 HPl
  · go_wp2
    exact bodyPost_ret (v := .tuple #[.agg #[.int .i64 0, .slice none 0 0], .int .i64 2]) (by simp [results, Try.results53, go_sem, z2, r0, r1]) rfl (GRes.nil HR.out ((HB2.out.setCell (by show _ ≤ w.heap.size + 1 + 1; omega) _).setCell (by show _ ≤ w.heap.size + 1 + 1; omega) _))
  · have h30 := H30.out
    subst h30
    go_wp2
    exact bodyPost_ret (v := .tuple #[.agg #[.int .i64 0, .slice none 0 0], .int .i64 3]) (by simp [results, Try.results53, go_sem, z2, r0, r1]) rfl (GRes.nil HR.out ((HB2.out.setCell (by show _ ≤ w.heap.size + 1 + 1; omega) _).setCell (by show _ ≤ w.heap.size + 1 + 1; omega) _))
  · have h30 := H30.out
    have hne : ((n : Int) == 30) = false := by simp; omega
    have hne2 : ¬ ((n : Int) = 30) := by omega
    have HBox : Hid (GBox w2 w.heap.size x a n cap ∧ PBox w2 (w.heap.size + 1) p0 p1 p2 p3 ∧ ResG w2 (w.heap.size + 1 + 1)) := ⟨HG2.out, HP2.out, HR2.out⟩
    have hb9 := b_alloc w2 (.cells #[.int .i64 p0, .int .i64 p1, .int .i64 p2, .int .i64 p3] 39)
    obtain ⟨ga0, ga1⟩ := HBox.out.1.below hb9
    have hb8 := b_alloc2 w2 (.cells #[.int .i64 p0, .int .i64 p1, .int .i64 p2, .int .i64 p3] 39) (.cells #[.slice a n cap, .slice (some ⟨w2.heap.size, 0, none⟩) 1 1] 24)
    obtain ⟨gb0, gb1⟩ := HBox.out.1.below hb8
    have HBd : Hid (Below w2.heap.size w2 (((w2.alloc (.cells #[.int .i64 p0, .int .i64 p1, .int .i64 p2, .int .i64 p3] 39)).alloc (.cells #[.slice a n cap, .slice (some ⟨w2.heap.size, 0, none⟩) 1 1] 24)).drew)) := hb8.drew
    have HPs : Hid (Pls (((w2.alloc (.cells #[.int .i64 p0, .int .i64 p1, .int .i64 p2, .int .i64 p3] 39)).alloc (.cells #[.slice a n cap, .slice (some ⟨w2.heap.size, 0, none⟩) 1 1] 24)).drew) (some ⟨w2.heap.size, 0, none⟩) 1 [(p0, p1, p2, p3)]) := ⟨rfl, by unfold maxLen; omega, .inr ⟨w2.heap.size, 0, rfl, by simp; omega, fun i hi => by
      obtain rfl : i = 0 := by omega
      exact ⟨by simp [go_sem], by simp [go_sem], by simp [go_sem], by simp [go_sem]⟩⟩⟩
    clear hb8 hb9
    have HS0 : Hid (∀ w', Below w2.heap.size w2 w' → w'.cell? ⟨w.heap.size, 0, none⟩ = some (.int .i64 x) ∧ w'.cell? ⟨w.heap.size, 1, none⟩ = some (.slice a n cap) ∧ w'.cell? ⟨w.heap.size + 1, 0, none⟩ = some (.int .i64 p0) ∧ w'.cell? ⟨w.heap.size + 1, 1, none⟩ = some (.int .i64 p1) ∧ w'.cell? ⟨w.heap.size + 1, 2, none⟩ = some (.int .i64 p2) ∧ w'.cell? ⟨w.heap.size + 1, 3, none⟩ = some (.int .i64 p3) ∧ Below w.heap.size w w') := fun w' hb' => by
      obtain ⟨k0, k1⟩ := HBox.out.1.below hb'
      obtain ⟨k2, k3, k4, k5⟩ := HBox.out.2.1.below hb'
      exact ⟨k0, k1, k2, k3, k4, k5, HB2.out.trans (hb'.mono HB2.out.size)⟩
    go_wp2
    refine wp_region_held_drew (S := fun w' => w'.cell? ⟨w.heap.size, 0, none⟩ = some (.int .i64 x) ∧ w'.cell? ⟨w.heap.size, 1, none⟩ = some (.slice a n cap) ∧ w'.cell? ⟨w.heap.size + 1, 0, none⟩ = some (.int .i64 p0) ∧ w'.cell? ⟨w.heap.size + 1, 1, none⟩ = some (.int .i64 p1) ∧ w'.cell? ⟨w.heap.size + 1, 2, none⟩ = some (.int .i64 p2) ∧ w'.cell? ⟨w.heap.size + 1, 3, none⟩ = some (.int .i64 p3) ∧ Below w.heap.size w w') (by kernel_rfl) ?_ (fun hHeld => ?_)
    · exact HS0.out _ (b_draws w2 1)
    refine wpAnyH_take (i := 0) (v := ?v0) rfl (by kernel_rfl) (by kernel_rfl) (by kernel_rfl) (fun _ _ _ h => h) (Or.inl ⟨by rfl, ?hy0⟩) (by assumption) ?rest0
    case hy0 => (intro wy hSw; (try dsimp only at hSw); obtain ⟨s0, s1, s2, s3, s4, s5, s6⟩ := hSw; go_simp; try with_reducible rfl)
    (try simp only [Act.put, List.setIfInBounds_toArray, List.set_cons_zero, List.set_cons_succ])
    refine wpAnyH_take (i := 1) (v := ?v1) rfl (by kernel_rfl) (by kernel_rfl) (by kernel_rfl) (fun _ _ _ h => h) (Or.inl ⟨by rfl, ?hy1⟩) (by assumption) ?rest1
    case hy1 => (intro wy hSw; (try dsimp only at hSw); obtain ⟨s0, s1, s2, s3, s4, s5, s6⟩ := hSw; go_simp; try with_reducible rfl)
    (try simp only [Act.put, List.setIfInBounds_toArray, List.set_cons_zero, List.set_cons_succ])
    refine wpAnyH_take (i := 2) (v := ?v2) rfl (by kernel_rfl) (by kernel_rfl) (by kernel_rfl) (fun _ _ _ h => h) (Or.inl ⟨by rfl, ?hy2⟩) (by assumption) ?rest2
    case hy2 => (intro wy hSw; (try dsimp only at hSw); obtain ⟨s0, s1, s2, s3, s4, s5, s6⟩ := hSw; go_simp; try with_reducible rfl)
    (try simp only [Act.put, List.setIfInBounds_toArray, List.set_cons_zero, List.set_cons_succ])
    refine wpAnyH_take (i := 3) (v := ?v3) rfl (by kernel_rfl) (by kernel_rfl) (by kernel_rfl) (fun _ _ _ h => h) (Or.inl ⟨by rfl, ?hy3⟩) (by assumption) ?rest3
    case hy3 => (intro wy hSw; (try dsimp only at hSw); obtain ⟨s0, s1, s2, s3, s4, s5, s6⟩ := hSw; go_simp; try with_reducible rfl)
    (try simp only [Act.put, List.setIfInBounds_toArray, List.set_cons_zero, List.set_cons_succ])
    refine wpAnyH_ready (rs := [4]) (by kernel_rfl) (by simp) (AllReadyH.cons rfl (fun K hK => ?_) AllReadyH.nil)
    go_simp
    refine hK.out _ _ (HS0.out _ (b_alloc w2 (.cells #[.int .i64 p0, .int .i64 p1, .int .i64 p2, .int .i64 p3] 39)).drew) (fun hHeld => ?_)
    clear hK K
    (try simp only [Act.put, List.setIfInBounds_toArray, List.set_cons_zero, List.set_cons_succ])
    refine wpAnyH_ready (rs := [5]) (by kernel_rfl) (by simp) (AllReadyH.cons rfl (fun K hK => ?_) AllReadyH.nil)
    go_simp
    refine hK.out _ _ (HS0.out _ HBd.out) (fun hHeld => ?_)
    clear hK K
    (try simp only [Act.put, List.setIfInBounds_toArray, List.set_cons_zero, List.set_cons_succ])
    refine wpAnyH_ready (rs := [6]) (by kernel_rfl) (by simp) (AllReadyH.cons rfl (fun K hK => ?_) AllReadyH.nil)
    go_simp
    refine (concatAdd (w2.heap.size + 1) a n cap w2.heap.size 0 1 1 l [(p0, p1, p2, p3)] _ (HI2.out.below HBd.out) HPs.out (by simp [go_sem]) (by simp [go_sem]) (by omega) (by omega)).mono ?_
    rintro e w3 ⟨g3, c3, rfl, ho, hb⟩
    have HBe := Lib.hid (HBd.out.trans (hb.mono HBd.out.size))
    have HO3 := Lib.hid (ho.mono HBd.out.size)
    clear ho hb
    refine hK.out _ _ (HS0.out _ HBe.out) (fun hHeld => ?_)
    clear hK K
    (try simp only [Act.put, List.setIfInBounds_toArray, List.set_cons_zero, List.set_cons_succ])
    refine wpAnyH_ready (rs := [7]) (by kernel_rfl) (by simp) (AllReadyH.cons rfl (fun K hK => ?_) AllReadyH.nil)
    go_simp
    refine (withPl x a n cap (some ⟨g3, 0, none⟩) (n + 1) c3 _).mono ?_
    rintro e w4 ⟨rfl, hb4⟩
    have HBf := Lib.hid (HBe.out.trans (hb4.mono HBe.out.size))
    have HO4 := Lib.hid (HO3.out.below hb4)
    obtain ⟨rr0, rr1, ff0, ff1⟩ := HBox.out.2.2.below HBf.out
    have HSz : Hid (∀ v1 v2, (fun w' => w'.cell? ⟨w.heap.size, 0, none⟩ = some (.int .i64 x) ∧ w'.cell? ⟨w.heap.size, 1, none⟩ = some (.slice a n cap) ∧ w'.cell? ⟨w.heap.size + 1, 0, none⟩ = some (.int .i64 p0) ∧ w'.cell? ⟨w.heap.size + 1, 1, none⟩ = some (.int .i64 p1) ∧ w'.cell? ⟨w.heap.size + 1, 2, none⟩ = some (.int .i64 p2) ∧ w'.cell? ⟨w.heap.size + 1, 3, none⟩ = some (.int .i64 p3) ∧ Below w.heap.size w w') ((w4.setCell ⟨w.heap.size + 1 + 1, 0, none⟩ v1).setCell ⟨w.heap.size + 1 + 1, 1, none⟩ v2)) := fun v1 v2 => by
      obtain ⟨s0, s1, s2, s3, s4, s5, s6⟩ := HS0.out _ HBf.out
      have hk : ∀ k, k ≠ w.heap.size + 1 + 1 → ((w4.setCell ⟨w.heap.size + 1 + 1, 0, none⟩ v1).setCell ⟨w.heap.size + 1 + 1, 1, none⟩ v2).heap[k]? = w4.heap[k]? := fun k hk => by
        rw [Below.heap_setCell _ _ _ _ (by show k ≠ w.heap.size + 1 + 1; omega), Below.heap_setCell _ _ _ _ (by show k ≠ w.heap.size + 1 + 1; omega)]
      exact ⟨(World.cell?_of_block (a := ⟨w.heap.size, 0, none⟩) (hk _ (by show w.heap.size ≠ _; omega))).trans s0, (World.cell?_of_block (a := ⟨w.heap.size, 1, none⟩) (hk _ (by show w.heap.size ≠ _; omega))).trans s1, (World.cell?_of_block (a := ⟨w.heap.size + 1, 0, none⟩) (hk _ (by show w.heap.size + 1 ≠ _; omega))).trans s2, (World.cell?_of_block (a := ⟨w.heap.size + 1, 1, none⟩) (hk _ (by show w.heap.size + 1 ≠ _; omega))).trans s3, (World.cell?_of_block (a := ⟨w.heap.size + 1, 2, none⟩) (hk _ (by show w.heap.size + 1 ≠ _; omega))).trans s4, (World.cell?_of_block (a := ⟨w.heap.size + 1, 3, none⟩) (hk _ (by show w.heap.size + 1 ≠ _; omega))).trans s5, (s6.setCell (p := ⟨w.heap.size + 1 + 1, 0, none⟩) (by show _ ≤ w.heap.size + 1 + 1; omega) v1).setCell (p := ⟨w.heap.size + 1 + 1, 1, none⟩) (by show _ ≤ w.heap.size + 1 + 1; omega) v2⟩
    clear hb4
    refine hK.out _ _ (HS0.out _ HBf.out) (fun hHeld => ?_)
    clear hK K
    (try simp only [Act.put, List.setIfInBounds_toArray, List.set_cons_zero, List.set_cons_succ])
    refine wpAnyH_ready (rs := [8]) (by kernel_rfl) (by simp) (AllReadyH.cons rfl (fun K hK => ?_) AllReadyH.nil)
    go_simp
    refine hK.out _ _ (HSz.out _ _) (fun hHeld => ?_)
    clear hK K
    (try simp only [Act.put, List.setIfInBounds_toArray, List.set_cons_zero, List.set_cons_succ])
    refine wpAnyH_ready (rs := [9]) (by kernel_rfl) (by simp) (AllReadyH.cons rfl (fun K hK => ?_) AllReadyH.nil)
    go_simp
    refine hK.out _ _ (HSz.out _ _) (fun hHeld => ?_)
    clear hK K
    (try simp only [Act.put, List.setIfInBounds_toArray, List.set_cons_zero, List.set_cons_succ])
    refine wpAnyH_done (by kernel_rfl) ?_ _
    have z4 := HBf.out.size
    have HO6 : Hid (OwnPl ((w4.setCell ⟨w.heap.size + 1 + 1, 0, none⟩ (.int .i64 x)).setCell ⟨w.heap.size + 1 + 1, 1, none⟩ (.slice (some ⟨g3, 0, none⟩) (n + 1) c3)) w.heap.size (.slice (some ⟨g3, 0, none⟩) (n + 1) c3) (l ++ [(p0, p1, p2, p3)])) := by
      refine (HO4.out.keepB fun q hq => ?_).mono (by omega)
      have := (HO4.out.lt hq).1
      rw [Below.heap_setCell _ _ _ _ (by show q ≠ w.heap.size + 1 + 1; omega), Below.heap_setCell _ _ _ _ (by show q ≠ w.heap.size + 1 + 1; omega)]
    have HB6 := Lib.hid (((HB2.out.trans (HBf.out.mono HB2.out.size)).setCell (p := ⟨w.heap.size + 1 + 1, 0, none⟩) (by show _ ≤ w.heap.size + 1 + 1; omega) (.int .i64 x)).setCell (p := ⟨w.heap.size + 1 + 1, 1, none⟩) (by show _ ≤ w.heap.size + 1 + 1; omega) (.slice (some ⟨g3, 0, none⟩) (n + 1) c3))
    have z5 : w.heap.size + 1 + 1 < w4.heap.size := by omega
    go_wp2
    rw [HR.out]
    exact bodyPost_ret (v := .tuple #[.agg #[.int .i64 x, .slice (some ⟨g3, 0, none⟩) (n + 1) c3], .int .i64 0]) (by simp [results, Try.results53, go_sem, z5, rr0, rr1]) rfl ⟨_, _, _, rfl, HO6.out, HB6.out⟩
end V
end Go.Proofs.Ytphobmddkphofaa
