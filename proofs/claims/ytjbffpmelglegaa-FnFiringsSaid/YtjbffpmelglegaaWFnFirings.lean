/- The walk through the law: it returns true and writes nothing that was there. For every code: FiringTimes, FiringTime, IsFiringTable and HoldingOf answer as their models for what is drawn; the firing times satisfy their recurrence and never fall, no holding is less than -1, and the table of the firing times is told as one. -/
import Derived.Test.YtjbffpmelglegaaRows
import Derived.Test.YtjbffpmelglegaaQa1
import Derived.Test.YtjbffpmelglegaaQa2
import Derived.Test.YtjbffpmelglegaaQa104
import Derived.Test.YtjbffpmelglegaaQa105
import Derived.Test.YtjbffpmelglegaaQa47
import Derived.Test.YtjbffpmelglegaaQa49
import Derived.Test.YtjbffpmelglegaaQa54
import Derived.Test.YtjbffpmelglegaaQa55
import Derived.Test.YtjbffpmelglegaaQa53
import Derived.Test.YtjbffpmelglegaaQa51
import Derived.Test.YtjbffpmelglegaaQa7
import Derived.WalkKit
import Derived.ProofKit
import Derived.OpenShut
import Derived.ShutString
import Derived.ChangeOld
import Derived.Below
import Derived.Lib.SmallJoins
import Derived.Lib.Hide
import Derived.WalkSmall
import Derived.Deep.Draws
import Derived.Deep.QuietTactic
import Derived.BigQuiet
import Derived.Deep.OwnRows
import Derived.Deep.RegionWith
import Derived.Deep.RegionHeld3
set_option linter.unusedSimpArgs false
set_option linter.unusedVariables false
set_option linter.unusedSectionVars false
namespace Go.Proofs.Ytjbffpmelglegaa.fnFirings
open Go.ChangeShapes Go.WideShapes Go.ChangeAt Go.RowKit
open Go.ChangeMaps (open_string shut_string)
set_option linter.unusedVariables false

set_option maxRecDepth 100000 in
set_option maxHeartbeats 4000000 in
theorem walk (a0 : Option Addr) (len0 cap0 : Nat) (z0 : List Int) (w : World) (w0 : V.IsRow .u8 w a0 len0 cap0 z0) :
    Calls Try.prog 10 #[.slice a0 len0 cap0] w fun e w' => e = .returned (.bool true) ∧ Below w.heap.size w w' := by
  have hB := w0.bytes
  have hm := hB.1
  by_cases hbig : 4096 < len0
  · have hd : decide (4096 < len0) = true := by simpa using hbig
    clear hB w0
    go_enter Try.func10, Try.ntmps10
    go_wp2_with (first | (go_at_call 35; refine (V.big _ _ _ _ hm).mono ?_; rintro e w' ⟨rfl, rfl⟩))
    go_ret
    exact ⟨rfl, Below.refl _ _⟩
  · have hd : decide (4096 < len0) = false := by simpa using hbig
    clear w0
    have HB := Lib.hid hB
    clear hB
    go_enter Try.func10, Try.ntmps10
    go_wp2_with (go_at_call 35; refine (V.big _ _ _ _ hm).mono ?_; rintro e w' ⟨rfl, rfl⟩)
    have hg1 : (0 : Int) < 1 := by decide
    refine (V.drawFiringTimes _ _ _ _ HB.out).mono ?_
    rintro e wd ⟨x, q, n, c, l, yI, rfl, hop, hn60, hbd⟩
    have hpl := hop.pls
    have hGb := V.gBox_new wd x (some ⟨q, 0, none⟩) n c 41
    have hpl0 := hpl.below (V.b_alloc wd (.cells #[.int .i64 x, .slice (some ⟨q, 0, none⟩) n c] 41))
    have hw0b : Below w.heap.size w (wd.alloc (.cells #[.int .i64 x, .slice (some ⟨q, 0, none⟩) n c] 41)) := hbd.trans ((V.b_alloc wd _).mono hbd.size)
    obtain ⟨w_0, hw0⟩ : ∃ z, z = wd.alloc (.cells #[.int .i64 x, .slice (some ⟨q, 0, none⟩) n c] 41) := ⟨_, rfl⟩
    rw [← hw0] at hGb hpl0 hw0b
    obtain ⟨gb, hgb⟩ : ∃ b, b = wd.heap.size := ⟨_, rfl⟩
    rw [← hgb] at hGb
    have HWd := Lib.hid hw0.symm
    have HGbd := Lib.hid hgb.symm
    have HGb := Lib.hid hGb
    have HPl0 := Lib.hid hpl0
    have HW := Lib.hid hw0b
    have HP_0 := Lib.hid (Below.refl w_0.heap.size w_0)
    have HBy : Hid (∀ w', Below w_0.heap.size w_0 w' → V.Bytes w' a0 len0) := fun w' hb => (HB.out.below hw0b).below hb
    obtain ⟨⟨TX, c1⟩, h1⟩ : ∃ r, r = M.ftRes x l yI := ⟨_, rfl⟩
    obtain ⟨⟨VH, c4⟩, h4⟩ : ∃ r, r = M.hldRes x l yI := ⟨_, rfl⟩
    have HX1 : Hid (∀ w, V.Pls w (some ⟨q, 0, none⟩) n l → Calls Try.prog 45 #[.agg #[.int .i64 x, .slice (some ⟨q, 0, none⟩) n c], .int .i64 yI] w (V.MRes (TX, c1) w)) := fun w h => by rw [h1]; exact V.firingTimes x _ n c l yI w h
    have HX2 : Hid (∀ w, V.Pls w (some ⟨q, 0, none⟩) n l → Calls Try.prog 46 #[.agg #[.int .i64 x, .slice (some ⟨q, 0, none⟩) n c], .int .i64 yI] w (V.MRes (TX, c1) w)) := fun w h => by rw [h1]; exact V.sFiringTimes x _ n c l yI w h
    have HH1 : Hid (∀ w, V.Pls w (some ⟨q, 0, none⟩) n l → Calls Try.prog 51 #[.agg #[.int .i64 x, .slice (some ⟨q, 0, none⟩) n c], .int .i64 yI] w (V.VRes (VH, c4) w)) := fun w h => by rw [h4]; exact V.holdingOf x _ n c l yI w h
    have HH2 : Hid (∀ w, V.Pls w (some ⟨q, 0, none⟩) n l → Calls Try.prog 52 #[.agg #[.int .i64 x, .slice (some ⟨q, 0, none⟩) n c], .int .i64 yI] w (V.VRes (VH, c4) w)) := fun w h => by rw [h4]; exact V.sHoldingOf x _ n c l yI w h
    have H1 := Lib.hid h1.symm
    have H4 := Lib.hid h4.symm
    clear h1 h4 hpl hop hbd hw0 hgb hGb hpl0 hw0b HB hg1
    have hal := HGb.out
    rw [← HWd.out] at hal
    obtain ⟨g0, g1⟩ := hal
    rw [← HGbd.out] at g0 g1
    go_wp2_with fail
    rw [HWd.out, HGbd.out]
    refine (HX1.out _ (HPl0.out.below HP_0.out)).mono ?_
    rintro e w_1 ⟨bX, nX, kX, rfl, ho, hb⟩
    clear g0 g1
    have HP_1 := Lib.hid (HP_0.out.trans (hb.mono HP_0.out.size))
    have IX_1 : Hid (V.Mat w_1 bX nX TX) := ho.mat
    clear ho hb
    obtain ⟨g0, g1⟩ := HGb.out.below HP_1.out
    go_wp2_with fail
    refine (HX2.out _ (HPl0.out.below HP_1.out)).mono ?_
    rintro e w_2 ⟨bZ, nZ, kZ, rfl, ho, hb⟩
    clear g0 g1
    have HP_2 := Lib.hid (HP_1.out.trans (hb.mono HP_1.out.size))
    have IX_2 := Lib.hid (IX_1.out.below hb)
    have IZ_2 : Hid (V.Mat w_2 bZ nZ TX) := ho.mat
    clear ho hb IX_1 HX1 HX2
    go_wp2_with fail
    refine (V.drawFiringTime _ _ _ _ (HBy.out _ HP_2.out)).mono ?_
    rintro e w_3 ⟨x2, q2, n2, c2, l2, ev, kk, rfl, hpl2, -, hb⟩
    have HP_3 := Lib.hid (HP_2.out.trans (hb.mono HP_2.out.size))
    have IX_3 := Lib.hid (IX_2.out.below hb)
    have IZ_3 := Lib.hid (IZ_2.out.below hb)
    have hb2 := V.b_alloc w_3 (.cells #[.int .i64 x2, .slice (some ⟨q2, 0, none⟩) n2 c2] 41)
    have hGh := V.gBox_new w_3 x2 (some ⟨q2, 0, none⟩) n2 c2 41
    have hpl2' := hpl2.below hb2
    obtain ⟨w_4, hw4⟩ : ∃ z, z = w_3.alloc (.cells #[.int .i64 x2, .slice (some ⟨q2, 0, none⟩) n2 c2] 41) := ⟨_, rfl⟩
    obtain ⟨hb_, hhb⟩ : ∃ b, b = w_3.heap.size := ⟨_, rfl⟩
    rw [← hw4] at hb2 hGh hpl2'
    rw [← hhb] at hGh
    have HW4 := Lib.hid hw4.symm
    have HHb := Lib.hid hhb.symm
    have HGh := Lib.hid hGh
    have HP_4 := Lib.hid (HP_3.out.trans (hb2.mono HP_3.out.size))
    have IX_4 := Lib.hid (IX_3.out.below hb2)
    have IZ_4 := Lib.hid (IZ_3.out.below hb2)
    have HPl2 := Lib.hid hpl2'
    obtain ⟨⟨t1, c2'⟩, h2⟩ : ∃ r, r = M.ft1Res x2 l2 ev kk := ⟨_, rfl⟩
    have HT1 : Hid (∀ w, V.Pls w (some ⟨q2, 0, none⟩) n2 l2 → Calls Try.prog 48 #[.agg #[.int .i64 x2, .slice (some ⟨q2, 0, none⟩) n2 c2], .int .i64 ev, .int .i64 kk] w (V.PPost (t1, c2') w)) := fun w h => by rw [h2]; exact V.firingTime x2 _ n2 c2 l2 ev kk w h
    have HT2 : Hid (∀ w, V.Pls w (some ⟨q2, 0, none⟩) n2 l2 → Calls Try.prog 49 #[.agg #[.int .i64 x2, .slice (some ⟨q2, 0, none⟩) n2 c2], .int .i64 ev, .int .i64 kk] w (V.PPost (t1, c2') w)) := fun w h => by rw [h2]; exact V.sFiringTime x2 _ n2 c2 l2 ev kk w h
    have hal := HGh.out
    rw [← HW4.out] at hal
    obtain ⟨g0, g1⟩ := hal
    rw [← HHb.out] at g0 g1
    clear hb hb2 hGh hpl2 hpl2' hw4 hhb h2 IX_2 IZ_2 IX_3 IZ_3
    go_wp2_with fail
    rw [HW4.out, HHb.out]
    refine (HT1.out _ HPl2.out).mono ?_
    rintro e w_5 ⟨rfl, hb⟩
    clear g0 g1
    have HQ_5 := Lib.hid hb
    obtain ⟨g0, g1⟩ := HGh.out.below hb
    clear hb
    go_wp2_with fail
    refine (HT2.out _ (HPl2.out.below HQ_5.out)).mono ?_
    rintro e w_6 ⟨rfl, hb⟩
    clear g0 g1
    have HQ_6 := HQ_5.out.trans (hb.mono HQ_5.out.size)
    have HP_6 := Lib.hid (HP_4.out.trans (HQ_6.mono HP_4.out.size))
    have IX_6 := Lib.hid (IX_4.out.below HQ_6)
    have IZ_6 := Lib.hid (IZ_4.out.below HQ_6)
    clear hb HQ_6 HQ_5 HT1 HT2 HGh HPl2 HW4 HHb IX_4 IZ_4
    go_wp2_with fail
    refine (V.drawIsFiringTable _ _ _ _ (HBy.out _ HP_6.out)).mono ?_
    rintro e w_7 ⟨x3, q3, n3, c3, l3, ta, tn, tc, T3, rfl, hpl3, hM3, -, hb⟩
    have hb2 := V.b_alloc w_7 (.cells #[.int .i64 x3, .slice (some ⟨q3, 0, none⟩) n3 c3] 41)
    have hGc := V.gBox_new w_7 x3 (some ⟨q3, 0, none⟩) n3 c3 41
    have hpl3' := hpl3.below hb2
    have hM3' := hM3.below hb2
    obtain ⟨w_8, hw8⟩ : ∃ z, z = w_7.alloc (.cells #[.int .i64 x3, .slice (some ⟨q3, 0, none⟩) n3 c3] 41) := ⟨_, rfl⟩
    obtain ⟨gc, hgc⟩ : ∃ b, b = w_7.heap.size := ⟨_, rfl⟩
    rw [← hw8] at hb2 hGc hpl3' hM3'
    rw [← hgc] at hGc
    have hb8 := hb.trans (hb2.mono hb.size)
    have HW8 := Lib.hid hw8.symm
    have HGcd := Lib.hid hgc.symm
    have HGc := Lib.hid hGc
    have HPl3 := Lib.hid hpl3'
    have HM3 := Lib.hid hM3'
    have HP_8 := Lib.hid (HP_6.out.trans (hb8.mono HP_6.out.size))
    have IX_8 := Lib.hid (IX_6.out.below hb8)
    have IZ_8 := Lib.hid (IZ_6.out.below hb8)
    obtain ⟨g0, g1⟩ := HGb.out.below HP_8.out
    rw [← HW8.out] at g0 g1
    clear hb hb2 hb8 hGc hpl3 hpl3' hM3 hM3' hw8 hgc IX_6 IZ_6
    go_wp2_with fail
    rw [HW8.out, HGcd.out]
    refine (HH1.out _ (HPl0.out.below HP_8.out)).mono ?_
    rintro e w_9 ⟨bV, nV, kV, rfl, ho, hb⟩
    clear g0 g1
    have HR_9 := Lib.hid hb
    have HP_9 := Lib.hid (HP_8.out.trans (hb.mono HP_8.out.size))
    have IV_9 : Hid (V.Ints .i64 w_9 bV nV VH) := ho.ints'
    obtain ⟨g0, g1⟩ := HGb.out.below HP_9.out
    clear ho hb
    go_wp2_with fail
    refine (HH2.out _ (HPl0.out.below HP_9.out)).mono ?_
    rintro e w_10 ⟨bU, nU, kU, rfl, ho, hb⟩
    clear g0 g1
    have HR_10 := HR_9.out.trans (hb.mono HR_9.out.size)
    have HP_10 := Lib.hid (HP_9.out.trans (hb.mono HP_9.out.size))
    have IV_10 := Lib.hid (IV_9.out.below hb)
    have IU_10 : Hid (V.Ints .i64 w_10 bU nU VH) := ho.ints'
    have IX_10 := Lib.hid (IX_8.out.below HR_10)
    have IZ_10 := Lib.hid (IZ_8.out.below HR_10)
    have HGc10 := Lib.hid (HGc.out.below HR_10)
    have HPl310 := Lib.hid (HPl3.out.below HR_10)
    have HM310 := Lib.hid (HM3.out.below HR_10)
    clear ho hb HR_10 HR_9 IV_9 IX_8 IZ_8 HGc HPl3 HM3 HH1 HH2 HW8 HGcd
    obtain ⟨g0, g1⟩ := HGc10.out
    have hcc : (c1 != c1) = false := by simp
    have hdd : (c2' != c2') = false := by simp
    have hee : (t1 != t1) = false := by simp
    have hff : (c4 != c4) = false := by simp
    have HS0 : Hid (∀ w', Below w_10.heap.size w_10 w' → w'.cell? ⟨gc, 0, none⟩ = some (.int .i64 x3) ∧ w'.cell? ⟨gc, 1, none⟩ = some (.slice (some ⟨q3, 0, none⟩) n3 c3) ∧ Below w_10.heap.size w_10 w') := fun w' hb => ⟨(HGc10.out.below hb).1, (HGc10.out.below hb).2, hb⟩
    have HZ0 : Hid (Below w_10.heap.size w_10 w_10.drew) := V.b_draws w_10 1
    obtain ⟨bt, hbt⟩ : ∃ b, b = M.iftB x3 l3 T3 := ⟨_, rfl⟩
    have HI1 : Hid (∀ w, V.Pls w (some ⟨q3, 0, none⟩) n3 l3 → V.Mat w ta tn T3 → Calls Try.prog 54 #[.agg #[.int .i64 x3, .slice (some ⟨q3, 0, none⟩) n3 c3], .slice ta tn tc] w fun e w' => e = .returned (.bool bt) ∧ Below w.heap.size w w') := fun w h hM => by rw [hbt]; exact V.isFiringTable x3 _ n3 c3 l3 ta tn tc T3 w h hM
    have HI2 : Hid (∀ w, V.Pls w (some ⟨q3, 0, none⟩) n3 l3 → V.Mat w ta tn T3 → Calls Try.prog 55 #[.agg #[.int .i64 x3, .slice (some ⟨q3, 0, none⟩) n3 c3], .slice ta tn tc] w fun e w' => e = .returned (.bool bt) ∧ Below w.heap.size w w') := fun w h hM => by rw [hbt]; exact V.sIsFiringTable x3 _ n3 c3 l3 ta tn tc T3 w h hM
    have hbb : (bt != bt) = false := by simp
    clear hbt
    go_wp2
    clear g0 g1
    refine wp_region_held_drew (S := fun w' => w'.cell? ⟨gc, 0, none⟩ = some (.int .i64 x3) ∧ w'.cell? ⟨gc, 1, none⟩ = some (.slice (some ⟨q3, 0, none⟩) n3 c3) ∧ Below w_10.heap.size w_10 w') (by kernel_rfl) ?_ (fun hHeld => ?_)
    · exact HS0.out _ HZ0.out
    refine wpAnyH_take (i := 0) (v := ?vR0) rfl (by kernel_rfl) (by kernel_rfl) (by kernel_rfl) (fun _ _ _ h => h) (Or.inl ⟨by rfl, ?hyR0⟩) (by assumption) ?restR0
    case hyR0 => (intro wy hSw; (try dsimp only at hSw); obtain ⟨s0, s1, s2⟩ := hSw; go_simp; try with_reducible rfl)
    (try simp only [Act.put, List.getElem_toArray, List.getElem_cons_zero, List.getElem_cons_succ, List.setIfInBounds_toArray, List.set_cons_zero, List.set_cons_succ])
    refine wpAnyH_take (i := 1) (v := ?vR1) rfl (by kernel_rfl) (by kernel_rfl) (by kernel_rfl) (fun _ _ _ h => h) (Or.inl ⟨by rfl, ?hyR1⟩) (by assumption) ?restR1
    case hyR1 => (intro wy hSw; (try dsimp only at hSw); obtain ⟨s0, s1, s2⟩ := hSw; go_simp; try with_reducible rfl)
    (try simp only [Act.put, List.getElem_toArray, List.getElem_cons_zero, List.getElem_cons_succ, List.setIfInBounds_toArray, List.set_cons_zero, List.set_cons_succ])
    refine wpAnyH_take (i := 2) (v := (.bool false)) rfl (by kernel_rfl) (by kernel_rfl) (by kernel_rfl) (fun _ _ _ h => h) (Or.inl ⟨by rfl, ?hyR2⟩) (by assumption) ?restR2
    case hyR2 => (intro wy hSw; (try dsimp only at hSw); obtain ⟨s0, s1, s2⟩ := hSw; go_simp; try (first | with_reducible rfl | exact IntWalk.i64_left _ | simp [hcc, hdd, hee, hff, hbb] | simp))
    (try simp only [Act.put, List.getElem_toArray, List.getElem_cons_zero, List.getElem_cons_succ, List.setIfInBounds_toArray, List.set_cons_zero, List.set_cons_succ])
    refine wpAnyH_take (i := 3) (v := (.bool false)) rfl (by kernel_rfl) (by kernel_rfl) (by kernel_rfl) (fun _ _ _ h => h) (Or.inl ⟨by rfl, ?hyR3⟩) (by assumption) ?restR3
    case hyR3 => (intro wy hSw; (try dsimp only at hSw); obtain ⟨s0, s1, s2⟩ := hSw; go_simp; try (first | with_reducible rfl | exact IntWalk.i64_left _ | simp [hcc, hdd, hee, hff, hbb] | simp))
    (try simp only [Act.put, List.getElem_toArray, List.getElem_cons_zero, List.getElem_cons_succ, List.setIfInBounds_toArray, List.set_cons_zero, List.set_cons_succ])
    refine wpAnyH_take (i := 4) (v := ?vR4) rfl (by kernel_rfl) (by kernel_rfl) (by kernel_rfl) (fun _ _ _ h => h) (Or.inl ⟨by rfl, ?hyR4⟩) (by assumption) ?restR4
    case hyR4 => (intro wy hSw; (try dsimp only at hSw); obtain ⟨s0, s1, s2⟩ := hSw; go_simp; try with_reducible rfl)
    (try simp only [Act.put, List.getElem_toArray, List.getElem_cons_zero, List.getElem_cons_succ, List.setIfInBounds_toArray, List.set_cons_zero, List.set_cons_succ])
    refine wpAnyH_take (i := 5) (v := ?vR5) rfl (by kernel_rfl) (by kernel_rfl) (by kernel_rfl) (fun _ _ _ h => h) (Or.inl ⟨by rfl, ?hyR5⟩) (by assumption) ?restR5
    case hyR5 => (intro wy hSw; (try dsimp only at hSw); obtain ⟨s0, s1, s2⟩ := hSw; go_simp; try with_reducible rfl)
    (try simp only [Act.put, List.getElem_toArray, List.getElem_cons_zero, List.getElem_cons_succ, List.setIfInBounds_toArray, List.set_cons_zero, List.set_cons_succ])
    refine wpAnyH_ready (rs := [6]) (by kernel_rfl) (by simp) (AllReadyH.cons rfl (fun K hK => ?_) AllReadyH.nil)
    go_simp
    refine (V.likeIntss _ _ _ TX _ _ _ TX _ (IX_10.out.below HZ0.out) (IZ_10.out.below HZ0.out) rfl).mono ?_
    rintro e z1 ⟨rfl, q1, hq1⟩
    have HZ1 : Hid (Below w_10.heap.size w_10 z1) := by show Below _ _ _; rw [hq1]; exact HZ0.out.trans ((V.b_draws _ q1).mono HZ0.out.size)
    clear hq1
    refine hK.out _ _ (HS0.out _ HZ1.out) (fun hHeld => ?_)
    clear hK K
    (try simp only [Act.put, List.getElem_toArray, List.getElem_cons_zero, List.getElem_cons_succ, List.setIfInBounds_toArray, List.set_cons_zero, List.set_cons_succ])
    refine wpAnyH_take (i := 7) (v := (.bool false)) rfl (by kernel_rfl) (by kernel_rfl) (by kernel_rfl) (fun _ _ _ h => h) (Or.inl ⟨by rfl, ?hyR7⟩) (by assumption) ?restR7
    case hyR7 => (intro wy hSw; (try dsimp only at hSw); obtain ⟨s0, s1, s2⟩ := hSw; go_simp; try (first | with_reducible rfl | exact IntWalk.i64_left _ | simp [hcc, hdd, hee, hff, hbb] | simp))
    (try simp only [Act.put, List.getElem_toArray, List.getElem_cons_zero, List.getElem_cons_succ, List.setIfInBounds_toArray, List.set_cons_zero, List.set_cons_succ])
    refine wpAnyH_take (i := 8) (v := (.bool false)) rfl (by kernel_rfl) (by kernel_rfl) (by kernel_rfl) (fun _ _ _ h => h) (Or.inl ⟨by rfl, ?hyR8⟩) (by assumption) ?restR8
    case hyR8 => (intro wy hSw; (try dsimp only at hSw); obtain ⟨s0, s1, s2⟩ := hSw; go_simp; try (first | with_reducible rfl | exact IntWalk.i64_left _ | simp [hcc, hdd, hee, hff, hbb] | simp))
    (try simp only [Act.put, List.getElem_toArray, List.getElem_cons_zero, List.getElem_cons_succ, List.setIfInBounds_toArray, List.set_cons_zero, List.set_cons_succ])
    refine wpAnyH_take (i := 9) (v := (.bool false)) rfl (by kernel_rfl) (by kernel_rfl) (by kernel_rfl) (fun _ _ _ h => h) (Or.inl ⟨by rfl, ?hyR9⟩) (by assumption) ?restR9
    case hyR9 => (intro wy hSw; (try dsimp only at hSw); obtain ⟨s0, s1, s2⟩ := hSw; go_simp; try (first | with_reducible rfl | exact IntWalk.i64_left _ | simp [hcc, hdd, hee, hff, hbb] | simp))
    (try simp only [Act.put, List.getElem_toArray, List.getElem_cons_zero, List.getElem_cons_succ, List.setIfInBounds_toArray, List.set_cons_zero, List.set_cons_succ])
    refine wpAnyH_take (i := 10) (v := ?vR10) rfl (by kernel_rfl) (by kernel_rfl) (by kernel_rfl) (fun _ _ _ h => h) (Or.inl ⟨by rfl, ?hyR10⟩) (by assumption) ?restR10
    case hyR10 => (intro wy hSw; (try dsimp only at hSw); obtain ⟨s0, s1, s2⟩ := hSw; go_simp; try with_reducible rfl)
    (try simp only [Act.put, List.getElem_toArray, List.getElem_cons_zero, List.getElem_cons_succ, List.setIfInBounds_toArray, List.set_cons_zero, List.set_cons_succ])
    refine wpAnyH_take (i := 11) (v := ?vR11) rfl (by kernel_rfl) (by kernel_rfl) (by kernel_rfl) (fun _ _ _ h => h) (Or.inl ⟨by rfl, ?hyR11⟩) (by assumption) ?restR11
    case hyR11 => (intro wy hSw; (try dsimp only at hSw); obtain ⟨s0, s1, s2⟩ := hSw; go_simp; try with_reducible rfl)
    (try simp only [Act.put, List.getElem_toArray, List.getElem_cons_zero, List.getElem_cons_succ, List.setIfInBounds_toArray, List.set_cons_zero, List.set_cons_succ])
    refine wpAnyH_take (i := 12) (v := (.bool false)) rfl (by kernel_rfl) (by kernel_rfl) (by kernel_rfl) (fun _ _ _ h => h) (Or.inl ⟨by rfl, ?hyR12⟩) (by assumption) ?restR12
    case hyR12 => (intro wy hSw; (try dsimp only at hSw); obtain ⟨s0, s1, s2⟩ := hSw; go_simp; try (first | with_reducible rfl | exact IntWalk.i64_left _ | simp [hcc, hdd, hee, hff, hbb] | simp))
    (try simp only [Act.put, List.getElem_toArray, List.getElem_cons_zero, List.getElem_cons_succ, List.setIfInBounds_toArray, List.set_cons_zero, List.set_cons_succ])
    refine wpAnyH_take (i := 13) (v := (.bool false)) rfl (by kernel_rfl) (by kernel_rfl) (by kernel_rfl) (fun _ _ _ h => h) (Or.inl ⟨by rfl, ?hyR13⟩) (by assumption) ?restR13
    case hyR13 => (intro wy hSw; (try dsimp only at hSw); obtain ⟨s0, s1, s2⟩ := hSw; go_simp; try (first | with_reducible rfl | exact IntWalk.i64_left _ | simp [hcc, hdd, hee, hff, hbb] | simp))
    (try simp only [Act.put, List.getElem_toArray, List.getElem_cons_zero, List.getElem_cons_succ, List.setIfInBounds_toArray, List.set_cons_zero, List.set_cons_succ])
    refine wpAnyH_take (i := 14) (v := (.bool false)) rfl (by kernel_rfl) (by kernel_rfl) (by kernel_rfl) (fun _ _ _ h => h) (Or.inl ⟨by rfl, ?hyR14⟩) (by assumption) ?restR14
    case hyR14 => (intro wy hSw; (try dsimp only at hSw); obtain ⟨s0, s1, s2⟩ := hSw; go_simp; try (first | with_reducible rfl | exact IntWalk.i64_left _ | simp [hcc, hdd, hee, hff, hbb] | simp))
    (try simp only [Act.put, List.getElem_toArray, List.getElem_cons_zero, List.getElem_cons_succ, List.setIfInBounds_toArray, List.set_cons_zero, List.set_cons_succ])
    refine wpAnyH_take (i := 15) (v := ?vR15) rfl (by kernel_rfl) (by kernel_rfl) (by kernel_rfl) (fun _ _ _ h => h) (Or.inl ⟨by rfl, ?hyR15⟩) (by assumption) ?restR15
    case hyR15 => (intro wy hSw; (try dsimp only at hSw); obtain ⟨s0, s1, s2⟩ := hSw; go_simp; try with_reducible rfl)
    (try simp only [Act.put, List.getElem_toArray, List.getElem_cons_zero, List.getElem_cons_succ, List.setIfInBounds_toArray, List.set_cons_zero, List.set_cons_succ])
    refine wpAnyH_take (i := 16) (v := ?vR16) rfl (by kernel_rfl) (by kernel_rfl) (by kernel_rfl) (fun _ _ _ h => h) (Or.inl ⟨by rfl, ?hyR16⟩) (by assumption) ?restR16
    case hyR16 => (intro wy hSw; (try dsimp only at hSw); obtain ⟨s0, s1, s2⟩ := hSw; go_simp; try with_reducible rfl)
    (try simp only [Act.put, List.getElem_toArray, List.getElem_cons_zero, List.getElem_cons_succ, List.setIfInBounds_toArray, List.set_cons_zero, List.set_cons_succ])
    refine wpAnyH_take (i := 17) (v := (.bool false)) rfl (by kernel_rfl) (by kernel_rfl) (by kernel_rfl) (fun _ _ _ h => h) (Or.inl ⟨by rfl, ?hyR17⟩) (by assumption) ?restR17
    case hyR17 => (intro wy hSw; (try dsimp only at hSw); obtain ⟨s0, s1, s2⟩ := hSw; go_simp; try (first | with_reducible rfl | exact IntWalk.i64_left _ | simp [hcc, hdd, hee, hff, hbb] | simp))
    (try simp only [Act.put, List.getElem_toArray, List.getElem_cons_zero, List.getElem_cons_succ, List.setIfInBounds_toArray, List.set_cons_zero, List.set_cons_succ])
    refine wpAnyH_take (i := 18) (v := (.bool false)) rfl (by kernel_rfl) (by kernel_rfl) (by kernel_rfl) (fun _ _ _ h => h) (Or.inl ⟨by rfl, ?hyR18⟩) (by assumption) ?restR18
    case hyR18 => (intro wy hSw; (try dsimp only at hSw); obtain ⟨s0, s1, s2⟩ := hSw; go_simp; try (first | with_reducible rfl | exact IntWalk.i64_left _ | simp [hcc, hdd, hee, hff, hbb] | simp))
    (try simp only [Act.put, List.getElem_toArray, List.getElem_cons_zero, List.getElem_cons_succ, List.setIfInBounds_toArray, List.set_cons_zero, List.set_cons_succ])
    refine wpAnyH_take (i := 19) (v := (.bool false)) rfl (by kernel_rfl) (by kernel_rfl) (by kernel_rfl) (fun _ _ _ h => h) (Or.inl ⟨by rfl, ?hyR19⟩) (by assumption) ?restR19
    case hyR19 => (intro wy hSw; (try dsimp only at hSw); obtain ⟨s0, s1, s2⟩ := hSw; go_simp; try (first | with_reducible rfl | exact IntWalk.i64_left _ | simp [hcc, hdd, hee, hff, hbb] | simp))
    (try simp only [Act.put, List.getElem_toArray, List.getElem_cons_zero, List.getElem_cons_succ, List.setIfInBounds_toArray, List.set_cons_zero, List.set_cons_succ])
    refine wpAnyH_take (i := 20) (v := ?vR20) rfl (by kernel_rfl) (by kernel_rfl) (by kernel_rfl) (fun _ _ _ h => h) (Or.inl ⟨by rfl, ?hyR20⟩) (by assumption) ?restR20
    case hyR20 => (intro wy hSw; (try dsimp only at hSw); obtain ⟨s0, s1, s2⟩ := hSw; go_simp; try with_reducible rfl)
    (try simp only [Act.put, List.getElem_toArray, List.getElem_cons_zero, List.getElem_cons_succ, List.setIfInBounds_toArray, List.set_cons_zero, List.set_cons_succ])
    refine wpAnyH_take (i := 21) (v := ?vR21) rfl (by kernel_rfl) (by kernel_rfl) (by kernel_rfl) (fun _ _ _ h => h) (Or.inl ⟨by rfl, ?hyR21⟩) (by assumption) ?restR21
    case hyR21 => (intro wy hSw; (try dsimp only at hSw); obtain ⟨s0, s1, s2⟩ := hSw; go_simp; try with_reducible rfl)
    (try simp only [Act.put, List.getElem_toArray, List.getElem_cons_zero, List.getElem_cons_succ, List.setIfInBounds_toArray, List.set_cons_zero, List.set_cons_succ])
    refine wpAnyH_take (i := 23) (v := ?vR23) rfl (by kernel_rfl) (by kernel_rfl) (by kernel_rfl) (fun _ _ _ h => h) (Or.inl ⟨by rfl, ?hyR23⟩) (by assumption) ?restR23
    case hyR23 => (intro wy hSw; (try dsimp only at hSw); obtain ⟨s0, s1, s2⟩ := hSw; go_simp; try with_reducible rfl)
    (try simp only [Act.put, List.getElem_toArray, List.getElem_cons_zero, List.getElem_cons_succ, List.setIfInBounds_toArray, List.set_cons_zero, List.set_cons_succ])
    refine wpAnyH_take (i := 24) (v := ?vR24) rfl (by kernel_rfl) (by kernel_rfl) (by kernel_rfl) (fun _ _ _ h => h) (Or.inl ⟨by rfl, ?hyR24⟩) (by assumption) ?restR24
    case hyR24 => (intro wy hSw; (try dsimp only at hSw); obtain ⟨s0, s1, s2⟩ := hSw; go_simp; try with_reducible rfl)
    (try simp only [Act.put, List.getElem_toArray, List.getElem_cons_zero, List.getElem_cons_succ, List.setIfInBounds_toArray, List.set_cons_zero, List.set_cons_succ])
    refine wpAnyH_ready (rs := [22]) (by kernel_rfl) (by simp) (AllReadyH.cons rfl (fun K hK => ?_) AllReadyH.nil)
    go_simp
    refine (HI1.out _ (HPl310.out.below HZ1.out) (HM310.out.below HZ1.out)).mono ?_
    rintro e z2 ⟨rfl, hb2⟩
    have HZ2 := Lib.hid (HZ1.out.trans (hb2.mono HZ1.out.size))
    clear hb2
    refine hK.out _ _ (HS0.out _ HZ2.out) (fun hHeld => ?_)
    clear hK K
    (try simp only [Act.put, List.getElem_toArray, List.getElem_cons_zero, List.getElem_cons_succ, List.setIfInBounds_toArray, List.set_cons_zero, List.set_cons_succ])
    refine wpAnyH_ready (rs := [25]) (by kernel_rfl) (by simp) (AllReadyH.cons rfl (fun K hK => ?_) AllReadyH.nil)
    go_simp
    refine (HI2.out _ (HPl310.out.below HZ2.out) (HM310.out.below HZ2.out)).mono ?_
    rintro e z3 ⟨rfl, hb3⟩
    have HZ3 := Lib.hid (HZ2.out.trans (hb3.mono HZ2.out.size))
    clear hb3
    refine hK.out _ _ (HS0.out _ HZ3.out) (fun hHeld => ?_)
    clear hK K
    (try simp only [Act.put, List.getElem_toArray, List.getElem_cons_zero, List.getElem_cons_succ, List.setIfInBounds_toArray, List.set_cons_zero, List.set_cons_succ])
    refine wpAnyH_take (i := 26) (v := (.bool false)) rfl (by kernel_rfl) (by kernel_rfl) (by kernel_rfl) (fun _ _ _ h => h) (Or.inl ⟨by rfl, ?hyR26⟩) (by assumption) ?restR26
    case hyR26 => (intro wy hSw; (try dsimp only at hSw); obtain ⟨s0, s1, s2⟩ := hSw; go_simp; try (first | with_reducible rfl | exact IntWalk.i64_left _ | simp [hcc, hdd, hee, hff, hbb] | simp))
    (try simp only [Act.put, List.getElem_toArray, List.getElem_cons_zero, List.getElem_cons_succ, List.setIfInBounds_toArray, List.set_cons_zero, List.set_cons_succ])
    refine wpAnyH_take (i := 27) (v := (.bool false)) rfl (by kernel_rfl) (by kernel_rfl) (by kernel_rfl) (fun _ _ _ h => h) (Or.inl ⟨by rfl, ?hyR27⟩) (by assumption) ?restR27
    case hyR27 => (intro wy hSw; (try dsimp only at hSw); obtain ⟨s0, s1, s2⟩ := hSw; go_simp; try (first | with_reducible rfl | exact IntWalk.i64_left _ | simp [hcc, hdd, hee, hff, hbb] | simp))
    (try simp only [Act.put, List.getElem_toArray, List.getElem_cons_zero, List.getElem_cons_succ, List.setIfInBounds_toArray, List.set_cons_zero, List.set_cons_succ])
    refine wpAnyH_take (i := 28) (v := (.bool false)) rfl (by kernel_rfl) (by kernel_rfl) (by kernel_rfl) (fun _ _ _ h => h) (Or.inl ⟨by rfl, ?hyR28⟩) (by assumption) ?restR28
    case hyR28 => (intro wy hSw; (try dsimp only at hSw); obtain ⟨s0, s1, s2⟩ := hSw; go_simp; try (first | with_reducible rfl | exact IntWalk.i64_left _ | simp [hcc, hdd, hee, hff, hbb] | simp))
    (try simp only [Act.put, List.getElem_toArray, List.getElem_cons_zero, List.getElem_cons_succ, List.setIfInBounds_toArray, List.set_cons_zero, List.set_cons_succ])
    refine wpAnyH_take (i := 29) (v := ?vR29) rfl (by kernel_rfl) (by kernel_rfl) (by kernel_rfl) (fun _ _ _ h => h) (Or.inl ⟨by rfl, ?hyR29⟩) (by assumption) ?restR29
    case hyR29 => (intro wy hSw; (try dsimp only at hSw); obtain ⟨s0, s1, s2⟩ := hSw; go_simp; try with_reducible rfl)
    (try simp only [Act.put, List.getElem_toArray, List.getElem_cons_zero, List.getElem_cons_succ, List.setIfInBounds_toArray, List.set_cons_zero, List.set_cons_succ])
    refine wpAnyH_take (i := 30) (v := ?vR30) rfl (by kernel_rfl) (by kernel_rfl) (by kernel_rfl) (fun _ _ _ h => h) (Or.inl ⟨by rfl, ?hyR30⟩) (by assumption) ?restR30
    case hyR30 => (intro wy hSw; (try dsimp only at hSw); obtain ⟨s0, s1, s2⟩ := hSw; go_simp; try with_reducible rfl)
    (try simp only [Act.put, List.getElem_toArray, List.getElem_cons_zero, List.getElem_cons_succ, List.setIfInBounds_toArray, List.set_cons_zero, List.set_cons_succ])
    refine wpAnyH_take (i := 31) (v := (.bool false)) rfl (by kernel_rfl) (by kernel_rfl) (by kernel_rfl) (fun _ _ _ h => h) (Or.inl ⟨by rfl, ?hyR31⟩) (by assumption) ?restR31
    case hyR31 => (intro wy hSw; (try dsimp only at hSw); obtain ⟨s0, s1, s2⟩ := hSw; go_simp; try (first | with_reducible rfl | exact IntWalk.i64_left _ | simp [hcc, hdd, hee, hff, hbb] | simp))
    (try simp only [Act.put, List.getElem_toArray, List.getElem_cons_zero, List.getElem_cons_succ, List.setIfInBounds_toArray, List.set_cons_zero, List.set_cons_succ])
    refine wpAnyH_take (i := 32) (v := (.bool false)) rfl (by kernel_rfl) (by kernel_rfl) (by kernel_rfl) (fun _ _ _ h => h) (Or.inl ⟨by rfl, ?hyR32⟩) (by assumption) ?restR32
    case hyR32 => (intro wy hSw; (try dsimp only at hSw); obtain ⟨s0, s1, s2⟩ := hSw; go_simp; try (first | with_reducible rfl | exact IntWalk.i64_left _ | simp [hcc, hdd, hee, hff, hbb] | simp))
    (try simp only [Act.put, List.getElem_toArray, List.getElem_cons_zero, List.getElem_cons_succ, List.setIfInBounds_toArray, List.set_cons_zero, List.set_cons_succ])
    refine wpAnyH_take (i := 33) (v := (.bool false)) rfl (by kernel_rfl) (by kernel_rfl) (by kernel_rfl) (fun _ _ _ h => h) (Or.inl ⟨by rfl, ?hyR33⟩) (by assumption) ?restR33
    case hyR33 => (intro wy hSw; (try dsimp only at hSw); obtain ⟨s0, s1, s2⟩ := hSw; go_simp; try (first | with_reducible rfl | exact IntWalk.i64_left _ | simp [hcc, hdd, hee, hff, hbb] | simp))
    (try simp only [Act.put, List.getElem_toArray, List.getElem_cons_zero, List.getElem_cons_succ, List.setIfInBounds_toArray, List.set_cons_zero, List.set_cons_succ])
    refine wpAnyH_take (i := 34) (v := ?vR34) rfl (by kernel_rfl) (by kernel_rfl) (by kernel_rfl) (fun _ _ _ h => h) (Or.inl ⟨by rfl, ?hyR34⟩) (by assumption) ?restR34
    case hyR34 => (intro wy hSw; (try dsimp only at hSw); obtain ⟨s0, s1, s2⟩ := hSw; go_simp; try with_reducible rfl)
    (try simp only [Act.put, List.getElem_toArray, List.getElem_cons_zero, List.getElem_cons_succ, List.setIfInBounds_toArray, List.set_cons_zero, List.set_cons_succ])
    refine wpAnyH_take (i := 35) (v := ?vR35) rfl (by kernel_rfl) (by kernel_rfl) (by kernel_rfl) (fun _ _ _ h => h) (Or.inl ⟨by rfl, ?hyR35⟩) (by assumption) ?restR35
    case hyR35 => (intro wy hSw; (try dsimp only at hSw); obtain ⟨s0, s1, s2⟩ := hSw; go_simp; try with_reducible rfl)
    (try simp only [Act.put, List.getElem_toArray, List.getElem_cons_zero, List.getElem_cons_succ, List.setIfInBounds_toArray, List.set_cons_zero, List.set_cons_succ])
    refine wpAnyH_ready (rs := [36]) (by kernel_rfl) (by simp) (AllReadyH.cons rfl (fun K hK => ?_) AllReadyH.nil)
    go_simp
    refine (V.likeInts _ _ _ VH _ _ _ VH _ (IV_10.out.below HZ3.out) (IU_10.out.below HZ3.out) rfl).mono ?_
    rintro e z4 ⟨rfl, q4, hq4⟩
    have HZ4 : Hid (Below w_10.heap.size w_10 z4) := by show Below _ _ _; rw [hq4]; exact HZ3.out.trans ((V.b_draws _ q4).mono HZ3.out.size)
    clear hq4
    refine hK.out _ _ (HS0.out _ HZ4.out) (fun hHeld => ?_)
    clear hK K
    (try simp only [Act.put, List.getElem_toArray, List.getElem_cons_zero, List.getElem_cons_succ, List.setIfInBounds_toArray, List.set_cons_zero, List.set_cons_succ])
    refine wpAnyH_take (i := 37) (v := (.bool false)) rfl (by kernel_rfl) (by kernel_rfl) (by kernel_rfl) (fun _ _ _ h => h) (Or.inl ⟨by rfl, ?hyR37⟩) (by assumption) ?restR37
    case hyR37 => (intro wy hSw; (try dsimp only at hSw); obtain ⟨s0, s1, s2⟩ := hSw; go_simp; try (first | with_reducible rfl | exact IntWalk.i64_left _ | simp [hcc, hdd, hee, hff, hbb] | simp))
    (try simp only [Act.put, List.getElem_toArray, List.getElem_cons_zero, List.getElem_cons_succ, List.setIfInBounds_toArray, List.set_cons_zero, List.set_cons_succ])
    refine wpAnyH_take (i := 38) (v := (.bool false)) rfl (by kernel_rfl) (by kernel_rfl) (by kernel_rfl) (fun _ _ _ h => h) (Or.inl ⟨by rfl, ?hyR38⟩) (by assumption) ?restR38
    case hyR38 => (intro wy hSw; (try dsimp only at hSw); obtain ⟨s0, s1, s2⟩ := hSw; go_simp; try (first | with_reducible rfl | exact IntWalk.i64_left _ | simp [hcc, hdd, hee, hff, hbb] | simp))
    (try simp only [Act.put, List.getElem_toArray, List.getElem_cons_zero, List.getElem_cons_succ, List.setIfInBounds_toArray, List.set_cons_zero, List.set_cons_succ])
    refine wpAnyH_done (by kernel_rfl) ?_ _
    have HP_11 := Lib.hid (HP_10.out.trans (HZ4.out.mono HP_10.out.size))
    have IX := Lib.hid (IX_10.out.below HZ4.out)
    have IV := Lib.hid (IV_10.out.below HZ4.out)
    clear hcc hdd hee hff hbb HS0 HZ0 HZ1 HZ2 HZ3 HZ4 IX_10 IZ_10 IV_10 IU_10 HGc10 HPl310 HM310 HI1 HI2
    obtain ⟨w_11, hw11⟩ : ∃ z, z = z4 := ⟨_, rfl⟩
    rw [← hw11] at HP_11 IX IV ⊢
    clear hw11
    by_cases hc0 : c1 = 0
    · subst hc0
      obtain ⟨N, nn, F, rfl, n1, n10, rfl, hnn, hgr, hTX, hFb, hFe, hFu, hif, hVH⟩ := M.fir_facts H1.out H4.out
      have HGr := Lib.hid hgr
      have HFb := Lib.hid hFb
      have HFe := Lib.hid hFe
      have HFu := Lib.hid hFu
      have HIf := Lib.hid hif
      have HVH := Lib.hid hVH
      have HTX := Lib.hid hTX
      have hXn : nX = nn := by have := IX.out.1; rw [hTX, M.mk_length] at this; exact this.symm
      subst hXn
      have IXm : Hid (V.Mat w_11 bX nX (M.mk nX N (fun r e => F (r + 1) e))) := by show V.Mat _ _ _ _; rw [← hTX]; exact IX.out
      have HVl : Hid (VH.length = nV) := IV.out.1
      have hVm : nV ≤ maxLen := IV.out.2.1
      unfold maxLen at hVm
      have HLn : Hid (l.length = n) := HPl0.out.1
      have hn30 : n ≤ 60 := hn60
      clear hgr hTX hFb hFe hFu hif hVH
      go_wp2
      go_loopw [22] (fun rv wr => ∃ r : Nat, r ≤ nX ∧ rv = .int .i64 ((r : Int) + 1) ∧ Hid (Below w_11.heap.size w_11 wr)) (fun rv _ => nX + 1 - (intOf rv).toNat)
      case atStart => exact ⟨0, Nat.zero_le _, rfl, Below.refl _ _⟩
      case round =>
        obtain ⟨r, hr, rfl, HB1⟩ := hrel
        obtain ⟨z1, rfl⟩ : ∃ x, x = wr := ⟨_, rfl⟩
        obtain ⟨ρ, hρ⟩ : ∃ ρ : Int, ρ = (r : Int) + 1 := ⟨_, rfl⟩
        rw [← hρ]
        have HRho := Lib.hid hρ
        obtain ⟨g0, g1⟩ := HGb.out.below (HP_11.out.trans (HB1.out.mono HP_11.out.size))
        by_cases hrn : r < nX
        · have hri : ρ ≤ (nX : Int) := by omega
          have HWr := Lib.hid (V.wr2 (a := ρ + 1) (c := ((r + 1 : Nat) : Int) + 1) (by omega) (by omega) (by omega))
          have HWr1 := Lib.hid (V.wr2 (a := ρ - 1) (c := (r : Int)) (by omega) (by omega) (by omega))
          obtain ⟨ρ', hρ'⟩ : ∃ ρ' : Int, ρ' = ((r + 1 : Nat) : Int) + 1 := ⟨_, rfl⟩
          rw [← hρ'] at HWr
          have HRho' := Lib.hid hρ'
          clear hρ hρ'
          go_wp2
          clear g0 g1
          go_loopw [23] (fun ev wr => ∃ e : Nat, e ≤ N ∧ ev = .int .i64 e ∧ Hid (Below z1.heap.size z1 wr)) (fun ev _ => N - (intOf ev).toNat)
          case atStart => exact ⟨0, Nat.zero_le _, rfl, Below.refl _ _⟩
          case round =>
            obtain ⟨e, he, rfl, HB2⟩ := hrel
            obtain ⟨z2, rfl⟩ : ∃ x, x = wr := ⟨_, rfl⟩
            have HQ2 := Lib.hid (HB1.out.trans (HB2.out.mono HB1.out.size))
            obtain ⟨g0, g1⟩ := HGb.out.below (HP_11.out.trans (HQ2.out.mono HP_11.out.size))
            by_cases heN : e < N
            · have hei : (e : Int) < (N : Int) := by omega
              go_wp2
              clear g0 g1
              go_loopw [24, 25] (fun mv iv wr => ∃ i : Nat, i ≤ n ∧ iv = .int .i64 i ∧ mv = .int .i64 (M.rd F (r + 1) e (l.take i) 0) ∧ Hid (Below z2.heap.size z2 wr)) (fun _ iv _ => n - (intOf iv).toNat)
              case atStart => exact ⟨0, Nat.zero_le _, rfl, rfl, Below.refl _ _⟩
              case round =>
                obtain ⟨i, hi, rfl, rfl, HB3⟩ := hrel
                obtain ⟨z3, rfl⟩ : ∃ x, x = wr := ⟨_, rfl⟩
                have HQ3 := Lib.hid (HQ2.out.trans (HB3.out.mono HQ2.out.size))
                have HQ3g := Lib.hid (HP_11.out.trans (HQ3.out.mono HP_11.out.size))
                obtain ⟨g0, g1⟩ := HGb.out.below HQ3g.out
                obtain ⟨m, hm⟩ : ∃ m, m = M.rd F (r + 1) e (l.take i) 0 := ⟨_, rfl⟩
                rw [← hm]
                by_cases hin : i < n
                · have hii : (i : Int) < (n : Int) := by omega
                  obtain ⟨pb, off, p0, p1, p2, p3, hpe, -, hp, d0, d1, d2, d3⟩ := (HPl0.out.below HQ3g.out).at i hin
                  injection hpe with hpe
                  injection hpe with hpe1 hpe2
                  subst hpe1 hpe2
                  simp only [Nat.zero_add] at d0 d1 d2 d3
                  obtain ⟨i1, j0, hi1, hj0, rfl, rfl, t2, t2', t3, t3'⟩ := V.gr_at HGr.out (by rw [HLn.out]; exact hin) hp
                  obtain ⟨tk, rfl, htk⟩ : ∃ t : Nat, p3 = (t : Int) ∧ t ≤ 5 := ⟨p3.toNat, by omega, by omega⟩
                  have HNx : Hid (M.rd F (r + 1) e (l.take (i + 1)) 0 = M.rdS F (r + 1) e m ((j0 : Int), (i1 : Int), p2, (tk : Int))) := by
                    have := M.rd_next F (r + 1) e l 0 (i := i) (by rw [HLn.out]; exact hin)
                    rw [show l.getD i (0, 0, 0, 0) = _ from hp, ← hm] at this
                    exact this
                  obtain ⟨zp, hzp⟩ : ∃ z, z = z3.alloc (.cells #[.int .i64 j0, .int .i64 i1, .int .i64 p2, .int .i64 tk] 52) := ⟨_, rfl⟩
                  have hbp : Below z3.heap.size z3 zp := by rw [hzp]; exact V.b_alloc z3 _
                  have HX : Hid (zp.cell? ⟨z3.heap.size, 0, none⟩ = some (.int .i64 j0) ∧ zp.cell? ⟨z3.heap.size, 1, none⟩ = some (.int .i64 i1) ∧ zp.cell? ⟨z3.heap.size, 2, none⟩ = some (.int .i64 p2) ∧ zp.cell? ⟨z3.heap.size, 3, none⟩ = some (.int .i64 tk)) := by
                    rw [hzp]; exact ⟨by simp [go_sem], by simp [go_sem], by simp [go_sem], by simp [go_sem]⟩
                  have HZp := Lib.hid hzp.symm
                  have HB4 := Lib.hid (HB3.out.trans (hbp.mono HB3.out.size))
                  have IXp := Lib.hid (IXm.out.below (HQ3.out.trans (hbp.mono HQ3.out.size)))
                  have HWt := Lib.hid (V.wr2 (a := (i : Int) + 1) (c := (i : Int) + 1) rfl (by omega) (by omega))
                  obtain ⟨x0, x1, x2, x3⟩ := HX.out
                  rw [hzp] at x0 x1 x2 x3
                  clear hp hzp hbp hm
                  by_cases hie : i1 = e
                  · subst hie
                    by_cases htr : tk ≤ r
                    · obtain ⟨δ, hδ⟩ : ∃ δ, δ = r - tk := ⟨_, rfl⟩
                      have hδn : δ < nX := by omega
                      have hδi : (δ : Int) < (nX : Int) := by omega
                      have HWa := Lib.hid (V.wr2 (a := ρ - (tk : Int)) (c := (δ : Int) + 1) (by have := HRho.out; omega) (by omega) (by omega))
                      have HWb := Lib.hid (V.wr2 (a := (δ : Int) + 1 - 1) (c := (δ : Int)) (by omega) (by omega) (by omega))
                      obtain ⟨ζ, hζ⟩ : ∃ ζ : Int, ζ = (δ : Int) + 1 := ⟨_, rfl⟩
                      rw [← hζ] at HWa HWb
                      obtain ⟨xb, xo, rb, ro, rc, v, hxe, hv, cx1, cx2⟩ := IXp.out.rect_ent (V.rect_mk nX N _) δ j0 hδn hj0
                      rw [M.ent_mk _ _ _ _ _ hδn hj0] at hv
                      have hvb := HFb.out (δ + 1) j0
                      rw [← hv] at hvb
                      have HNs : Hid (M.rd F (r + 1) i1 (l.take (i + 1)) 0 = max m (v + p2)) := by
                        have := HNx.out.trans (M.rdS_yes rfl (by omega))
                        rw [show r + 1 - tk = δ + 1 by omega, show (j0 : Int).toNat = j0 by omega, ← hv] at this
                        exact this
                      have HWc : Hid (wrap64 (v + p2) = v + p2 ∧ IntKind.i64.wrap (v + p2) = v + p2) := ⟨IntWalk.wrap64_in _ ⟨by omega, by omega⟩, IntWalk.i64_in _ (by omega)⟩
                      have hge : (1 : Int) ≤ ζ := by omega
                      subst hxe
                      clear hδ hv hvb hζ
                      obtain ⟨hw1, hw1'⟩ := HWa.out
                      obtain ⟨hw2, hw2'⟩ := HWb.out
                      obtain ⟨hw3, hw3'⟩ := HWc.out
                      obtain ⟨hw4, hw4'⟩ := HWt.out
                      go_wp2
                      rw [HZp.out]
                      clear x0 x1 x2 x3
                      obtain ⟨x0, x1, x2, x3⟩ := HX.out
                      go_still_tail 16, (by kernel_rfl)
                      change wpList _ _ _ _ _ zp.drew
                      go_wp2
                      go_roundw
                      case rel => exact ⟨i + 1, by clear hw1 hw1' hw2 hw2' hw3 hw3' hw4 hw4'; omega, by go_num, by rw [HNs.out]; first | rfl | (congr 1; split <;> omega) | (congr 1; omega), HB4.out.drew⟩
                      case measure => (clear hw1 hw1' hw2 hw2' hw3 hw3' hw4 hw4'; simp [intOf]; omega)
                    · have HWa := Lib.hid (V.wr2 (a := ρ - (tk : Int)) (c := (r : Int) + 1 - (tk : Int)) (by have := HRho.out; omega) (by omega) (by omega))
                      obtain ⟨ζ, hζ⟩ : ∃ ζ : Int, ζ = (r : Int) + 1 - (tk : Int) := ⟨_, rfl⟩
                      rw [← hζ] at HWa
                      have hge : ¬ (1 : Int) ≤ ζ := by omega
                      have HNs := Lib.hid (HNx.out.trans (M.rdS_no (fun h => htr (by omega))))
                      clear hζ
                      obtain ⟨hw1, hw1'⟩ := HWa.out
                      obtain ⟨hw4, hw4'⟩ := HWt.out
                      go_wp2
                      go_roundw
                      case rel => exact ⟨i + 1, by clear hw1 hw1' hw4 hw4'; omega, by go_num, by rw [HNs.out], by rw [HZp.out]; exact HB4.out⟩
                      case measure => (clear hw1 hw1' hw4 hw4'; simp [intOf]; omega)
                  · have hieb : ((i1 : Int) == (e : Int)) = false := by simp; omega
                    have HNs := Lib.hid (HNx.out.trans (M.rdS_no (fun h => hie (by omega))))
                    go_wp2
                    go_roundw
                    case rel => exact ⟨i + 1, by omega, by go_num, by rw [HNs.out], by rw [HZp.out]; exact HB4.out⟩
                    case measure => simp [intOf]; omega
                · obtain rfl : i = n := by omega
                  have hnii : ¬ (i : Int) < (i : Int) := by omega
                  have hmF : m = F (r + 1) e := by
                    rw [hm, List.take_of_length_le (by rw [HLn.out]; exact Nat.le_refl _)]
                    exact HFe.out (r + 1) e (by omega) heN (by omega)
                  obtain ⟨xb, xo, rb, ro, rc, v, hxe, hv, cx1, cx2⟩ := (IXm.out.below HQ3.out).rect_ent (V.rect_mk nX N _) r e hrn heN
                  rw [M.ent_mk _ _ _ _ _ hrn heN, ← hmF] at hv
                  subst hxe
                  subst hv
                  have hvv : (v != v) = false := by simp
                  have hrli : (r : Int) < (nX : Int) := by omega
                  have HB5 := Lib.hid (HB2.out.trans (HB3.out.mono HB2.out.size))
                  have HWe := Lib.hid (V.wr2 (a := (e : Int) + 1) (c := (e : Int) + 1) rfl (by omega) (by omega))
                  obtain ⟨hw1, hw1'⟩ := HWr1.out
                  obtain ⟨hw5, hw5'⟩ := HWe.out
                  by_cases hr0 : r = 0
                  · have hgt : ¬ (1 : Int) < ρ := by have := HRho.out; clear hw1 hw1' hw5 hw5'; omega
                    have hgd : decide ((1 : Int) < ρ) = false := by simpa using hgt
                    clear hm hmF hr0
                    go_wp2
                    go_quiet (fail)
                    go_wp2
                    go_roundw
                    case rel => exact ⟨e + 1, by clear hw1 hw1' hw5 hw5'; omega, by go_num, HB5.out.trans ((V.b_draws _ _).mono HB5.out.size)⟩
                    case measure => (clear hw1 hw1' hw5 hw5'; simp [intOf]; omega)
                  · obtain ⟨s, hs⟩ : ∃ s, r = s + 1 := ⟨r - 1, by omega⟩
                    have hgt : (1 : Int) < ρ := by have := HRho.out; clear hw1 hw1' hw5 hw5'; omega
                    have hgd : decide ((1 : Int) < ρ) = true := by simpa using hgt
                    have hsn : s < nX := by clear hw1 hw1' hw5 hw5'; omega
                    have hsi : (s : Int) < (nX : Int) := by clear hw1 hw1' hw5 hw5'; omega
                    obtain ⟨xb2, xo2, rb2, ro2, rc2, v2, hxe2, hv2, cy1, cy2⟩ := (IXm.out.below HQ3.out).rect_ent (V.rect_mk nX N _) s e hsn heN
                    rw [M.ent_mk _ _ _ _ _ hsn heN] at hv2
                    injection hxe2 with hxe2
                    injection hxe2 with hxe2 hxe3
                    subst hxe2 hxe3
                    have hup := HFu.out (s + 1) e (by omega) heN (by clear hw1 hw1' hw5 hw5'; omega)
                    rw [show s + 1 + 1 = r + 1 by omega, ← hmF, ← hv2] at hup
                    have hnl : ¬ v < v2 := by clear hw1 hw1' hw5 hw5'; omega
                    have HWd := Lib.hid (V.wr2 (a := ρ - 2) (c := (s : Int)) (by have := HRho.out; clear hw1 hw1' hw5 hw5'; omega) (by clear hw1 hw1' hw5 hw5'; omega) (by clear hw1 hw1' hw5 hw5'; omega))
                    clear hm hmF hup hv2 hs hr0
                    obtain ⟨hw2, hw2'⟩ := HWd.out
                    go_wp2
                    go_quiet (fail)
                    go_wp2
                    go_roundw
                    case rel => exact ⟨e + 1, by clear hw1 hw1' hw5 hw5' hw2 hw2'; omega, by go_num, HB5.out.trans ((V.b_draws _ _).mono HB5.out.size)⟩
                    case measure => (clear hw1 hw1' hw5 hw5' hw2 hw2'; simp [intOf]; omega)
            · obtain rfl : e = N := by omega
              have hei : ¬ (e : Int) < (e : Int) := by omega
              obtain ⟨hw1, hw1'⟩ := HWr.out
              go_wp2
              go_roundw
              case rel => exact ⟨r + 1, by clear hw1 hw1'; omega, congrArg (Value.int .i64) HRho'.out, HQ2⟩
              case measure => (have h1 := HRho.out; have h2 := HRho'.out; clear hw1 hw1'; simp [intOf]; omega)
        · have hri : ¬ ρ ≤ (nX : Int) := by omega
          clear hρ
          go_wp2
          clear g0 g1
          go_loopw [27] (fun iv wr => ∃ i : Nat, i ≤ nV ∧ iv = .int .i64 i ∧ wr = z1) (fun iv _ => nV - (intOf iv).toNat)
          case atStart => exact ⟨0, Nat.zero_le _, rfl, rfl⟩
          case round =>
            obtain ⟨i, hi, rfl, rfl⟩ := hrel
            obtain ⟨z1, rfl⟩ : ∃ x, x = wr := ⟨_, rfl⟩
            by_cases hin : i < nV
            · have hii : (i : Int) < (nV : Int) := by omega
              obtain ⟨vb, vo, v, hve, -, hv, hvc⟩ := (IV.out.below HB1.out).at i hin
              have hv1 : ¬ v < -1 := by have := HVH.out i (by rw [HVl.out]; exact hin); omega
              subst hve
              clear hv
              go_wp2
              go_roundw
              case rel => exact ⟨i + 1, by omega, by go_num, by first | rfl | trivial⟩
              case measure => simp [intOf]; omega
            · obtain rfl : i = nV := by omega
              have HQg := Lib.hid (HP_11.out.trans (HB1.out.mono HP_11.out.size))
              obtain ⟨g0, g1⟩ := HGb.out.below HQg.out
              have HC := Lib.hid (V.isFiringTable (N : Int) _ n c l bX nX kX TX z1 (HPl0.out.below HQg.out) (IX.out.below HB1.out))
              rw [HIf.out] at HC
              go_wp2_with fail
              refine HC.out.mono ?_
              rintro e w_12 ⟨rfl, hb⟩
              go_wp2
              go_ret
              exact ⟨rfl, (HW.out.trans (HQg.out.mono HW.out.size)).trans (hb.mono (Nat.le_trans HW.out.size HQg.out.size))⟩
    · have hcb : (c1 != 0) = true := by simpa using hc0
      clear hc0
      go_wp2
      go_ret
      exact ⟨rfl, HW.out.trans (HP_11.out.mono HW.out.size)⟩
end Go.Proofs.Ytjbffpmelglegaa.fnFirings
