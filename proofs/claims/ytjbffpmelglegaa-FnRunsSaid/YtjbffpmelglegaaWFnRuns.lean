/- The walk through the law: it returns true and writes nothing that was there. For every code: LatenessOf, MarkingAfter, NextEvents and IsRun answer as their models for the drawn graph and run, no firing of a possible run is early, and an event is told as a next one exactly if all places that lead to it have tokens. -/
import Derived.Test.YtjbffpmelglegaaRows
import Derived.Test.YtjbffpmelglegaaQa1
import Derived.Test.YtjbffpmelglegaaQa2
import Derived.Test.YtjbffpmelglegaaQa89
import Derived.Test.YtjbffpmelglegaaQa90
import Derived.Test.YtjbffpmelglegaaQa7
import Derived.WalkKit
import Derived.ProofKit
import Derived.OpenShut
import Derived.ShutString
import Derived.ChangeOld
import Derived.Below
import Derived.Lib.SmallJoins
import Derived.Lib.Hide
import Derived.WalkSmall
import Derived.Deep.Draws
import Derived.Deep.QuietTactic
import Derived.BigQuiet
import Derived.Deep.OwnRows
import Derived.Deep.RegionWith
import Derived.Deep.RegionHeld3
set_option linter.unusedSimpArgs false
set_option linter.unusedVariables false
set_option linter.unusedSectionVars false
namespace Go.Proofs.Ytjbffpmelglegaa.fnRuns
open Go.ChangeShapes Go.WideShapes Go.ChangeAt Go.RowKit
open Go.ChangeMaps (open_string shut_string)
set_option linter.unusedVariables false

set_option maxRecDepth 100000 in
set_option maxHeartbeats 4000000 in
theorem walk (a0 : Option Addr) (len0 cap0 : Nat) (z0 : List Int) (w : World) (w0 : V.IsRow .u8 w a0 len0 cap0 z0) :
    Calls Try.prog 8 #[.slice a0 len0 cap0] w fun e w' => e = .returned (.bool true) ∧ Below w.heap.size w w' := by
  have hB := w0.bytes
  have hm := hB.1
  by_cases hbig : 4096 < len0
  · have hd : decide (4096 < len0) = true := by simpa using hbig
    clear hB w0
    go_enter Try.func8, Try.ntmps8
    go_wp2_with (first | (go_at_call 35; refine (V.big _ _ _ _ hm).mono ?_; rintro e w' ⟨rfl, rfl⟩))
    go_ret
    exact ⟨rfl, Below.refl _ _⟩
  · have hd : decide (4096 < len0) = false := by simpa using hbig
    clear w0
    have HB := Lib.hid hB
    clear hB
    go_enter Try.func8, Try.ntmps8
    go_wp2_with (go_at_call 35; refine (V.big _ _ _ _ hm).mono ?_; rintro e w' ⟨rfl, rfl⟩)
    refine (V.drawLatenessOf _ _ _ _ HB.out).mono ?_
    rintro e wd ⟨x, pa, n, c, l, fa, mm, c2, R, rfl, hpl, hfr, hmc, hcm, hn60, hbd⟩
    have hGb := V.gBox_new wd x pa n c 41
    have hpl0 := hpl.below (V.b_alloc wd (.cells #[.int .i64 x, .slice pa n c] 41))
    have hfr0 := hfr.below (V.b_alloc wd (.cells #[.int .i64 x, .slice pa n c] 41))
    have hw0b : Below w.heap.size w (wd.alloc (.cells #[.int .i64 x, .slice pa n c] 41)) := hbd.trans ((V.b_alloc wd _).mono hbd.size)
    obtain ⟨w_0, hw0⟩ : ∃ z, z = wd.alloc (.cells #[.int .i64 x, .slice pa n c] 41) := ⟨_, rfl⟩
    rw [← hw0] at hGb hpl0 hfr0 hw0b
    obtain ⟨gb, hgb⟩ : ∃ b, b = wd.heap.size := ⟨_, rfl⟩
    rw [← hgb] at hGb
    have HWd := Lib.hid hw0.symm
    have HGbd := Lib.hid hgb.symm
    have HGb := Lib.hid hGb
    have HPl0 := Lib.hid hpl0
    have HFr0 := Lib.hid hfr0
    have HW := Lib.hid hw0b
    have HMc := Lib.hid hmc
    have HCm := Lib.hid hcm
    have HLl : Hid (l.length = n) := hpl0.1
    have HP_0 := Lib.hid (Below.refl w_0.heap.size w_0)
    obtain ⟨⟨L1, c1⟩, h1⟩ : ∃ r, r = M.latRes x l R := ⟨_, rfl⟩
    obtain ⟨⟨L2, d2⟩, h2⟩ : ∃ r, r = M.mrkRes x l R := ⟨_, rfl⟩
    obtain ⟨⟨L3, d3⟩, h3⟩ : ∃ r, r = M.nxtRes x l R := ⟨_, rfl⟩
    obtain ⟨ib, hib⟩ : ∃ b, b = M.irB x l R := ⟨_, rfl⟩
    have HCA : Hid (∀ w, V.Pls w pa n l → V.Frs w fa mm R → Calls Try.prog 32 #[.agg #[.int .i64 x, .slice pa n c], .slice fa mm c2] w (V.VLF L1 c1 w)) := fun w h hf => by have := V.latenessOf x _ n c l fa mm c2 R w h hf; rw [← h1] at this; exact this
    have HCA2 : Hid (∀ w, V.Pls w pa n l → V.Frs w fa mm R → Calls Try.prog 31 #[.agg #[.int .i64 x, .slice pa n c], .slice fa mm c2] w (V.VLF L1 c1 w)) := fun w h hf => by have := V.sLatenessOf x _ n c l fa mm c2 R w h hf HMc.out HCm.out; rw [← h1] at this; exact this
    have HCB : Hid (∀ w, V.Pls w pa n l → V.Frs w fa mm R → Calls Try.prog 29 #[.agg #[.int .i64 x, .slice pa n c], .slice fa mm c2] w (V.VLF L2 d2 w)) := fun w h hf => by have := V.markingAfter x _ n c l fa mm c2 R w h hf; rw [← h2] at this; exact this
    have HCB2 : Hid (∀ w, V.Pls w pa n l → V.Frs w fa mm R → Calls Try.prog 28 #[.agg #[.int .i64 x, .slice pa n c], .slice fa mm c2] w (V.VLF L2 d2 w)) := fun w h hf => by have := V.sMarkingAfter x _ n c l fa mm c2 R w h hf HMc.out HCm.out; rw [← h2] at this; exact this
    have HCE : Hid (∀ w, V.Pls w pa n l → V.Frs w fa mm R → Calls Try.prog 34 #[.agg #[.int .i64 x, .slice pa n c], .slice fa mm c2] w (V.VLF L3 d3 w)) := fun w h hf => by have := V.nextEvents x _ n c l fa mm c2 R w h hf; rw [← h3] at this; exact this
    have HCE2 : Hid (∀ w, V.Pls w pa n l → V.Frs w fa mm R → Calls Try.prog 33 #[.agg #[.int .i64 x, .slice pa n c], .slice fa mm c2] w (V.VLF L3 d3 w)) := fun w h hf => by have := V.sNextEvents x _ n c l fa mm c2 R w h hf HMc.out HCm.out; rw [← h3] at this; exact this
    have HIr : Hid (∀ w, V.Pls w pa n l → V.Frs w fa mm R → Calls Try.prog 26 #[.agg #[.int .i64 x, .slice pa n c], .slice fa mm c2] w fun e w' => e = .returned (.bool ib) ∧ Below w.heap.size w w') := fun w h hf => by rw [hib]; exact V.isRun x _ n c l fa mm c2 R w h hf
    have HIs : Hid (∀ w, V.Pls w pa n l → V.Frs w fa mm R → Calls Try.prog 24 #[.agg #[.int .i64 x, .slice pa n c], .slice fa mm c2] w fun e w' => e = .returned (.bool ib) ∧ Below w.heap.size w w') := fun w h hf => by rw [hib]; exact V.sIsRun x _ n c l fa mm c2 R w h hf HMc.out HCm.out
    have HPos : Hid (c1 = 0 → ∀ i, i < L1.length → 0 ≤ L1.getD i 0) := fun q => by
      by_cases hr : M.rcode x l R = 0
      · obtain ⟨N, rfl, hg, hl5, hrun⟩ := M.rcode_zero hr
        rw [M.latRes_yes hr] at h1
        cases hf : M.fewB R with
        | false =>
          rw [hf] at h1
          injection h1 with e1 e2
          rw [e2] at q; cases q
        | true =>
          rw [hf] at h1
          injection h1 with e1 e2
          rw [e1, M.latK_len]
          exact M.lat_pos hrun (fun p hp => (V.gr_allF hg p hp).2) (Nat.le_refl _)
      · rw [M.latRes_no rfl hr] at h1
        injection h1 with e1 e2
        rw [e2] at q; exact absurd q hr
    have HEv : Hid (d2 = 0 → ∃ N : Nat, x = (N : Int) ∧ M.isGr (N : Int) l = true ∧ L2 = M.mrkL l R n ∧ L3 = M.enL l R N ∧ ∀ p ∈ l, 0 ≤ M.tokF R p) := fun q => by
      by_cases hr : M.rcode x l R = 0
      · obtain ⟨N, rfl, hg, hl5, hrun⟩ := M.rcode_zero hr
        rw [M.mrkRes_yes hr] at h2
        rw [M.nxtRes_yes hr] at h3
        injection h2 with e1 e2
        injection h3 with e3 e4
        have hV := M.runK_vld (fun p hp => (V.gr_allF hg p hp).2) (Nat.le_refl _) hrun
        rw [List.take_length] at hV
        exact ⟨N, rfl, hg, by rw [e1, HLl.out], e3, hV.tok⟩
      · rw [M.mrkRes_no rfl hr] at h2
        injection h2 with e1 e2
        rw [e2] at q; exact absurd q hr
    clear h1 h2 h3 hib hpl hfr hbd hw0 hgb hGb hpl0 hfr0 hw0b hmc hcm
    have hal := HGb.out
    rw [← HWd.out] at hal
    obtain ⟨g0, g1⟩ := hal
    rw [← HGbd.out] at g0 g1
    go_wp2_with fail
    rw [HWd.out, HGbd.out]
    refine (HCA.out _ (HPl0.out.below HP_0.out) (HFr0.out.below HP_0.out)).mono ?_
    rintro e w_1 ⟨bA, nA, kA, rfl, ho, hb⟩
    clear g0 g1
    have HP_1 := Lib.hid (HP_0.out.trans (hb.mono HP_0.out.size))
    clear HP_0 
    have IA_1 : Hid (V.Ints .i64 w_1 bA nA L1) := ho.ints'
    clear ho hb
    obtain ⟨g0, g1⟩ := HGb.out.below HP_1.out
    go_wp2_with fail
    refine (HCA2.out _ (HPl0.out.below HP_1.out) (HFr0.out.below HP_1.out)).mono ?_
    rintro e w_2 ⟨bA2, nA2, kA2, rfl, ho, hb⟩
    clear g0 g1
    have HP_2 := Lib.hid (HP_1.out.trans (hb.mono HP_1.out.size))
    have IA_2 := Lib.hid (IA_1.out.below hb)
    clear HP_1 IA_1
    have IA2_2 : Hid (V.Ints .i64 w_2 bA2 nA2 L1) := ho.ints'
    clear ho hb
    obtain ⟨g0, g1⟩ := HGb.out.below HP_2.out
    go_wp2_with fail
    refine (HCB.out _ (HPl0.out.below HP_2.out) (HFr0.out.below HP_2.out)).mono ?_
    rintro e w_3 ⟨bB, nB, kB, rfl, ho, hb⟩
    clear g0 g1
    have HP_3 := Lib.hid (HP_2.out.trans (hb.mono HP_2.out.size))
    have IA_3 := Lib.hid (IA_2.out.below hb)
    have IA2_3 := Lib.hid (IA2_2.out.below hb)
    clear HP_2 IA_2 IA2_2
    have IB_3 : Hid (V.Ints .i64 w_3 bB nB L2) := ho.ints'
    clear ho hb
    obtain ⟨g0, g1⟩ := HGb.out.below HP_3.out
    go_wp2_with fail
    refine (HCB2.out _ (HPl0.out.below HP_3.out) (HFr0.out.below HP_3.out)).mono ?_
    rintro e w_4 ⟨bB2, nB2, kB2, rfl, ho, hb⟩
    clear g0 g1
    have HP_4 := Lib.hid (HP_3.out.trans (hb.mono HP_3.out.size))
    have IA_4 := Lib.hid (IA_3.out.below hb)
    have IA2_4 := Lib.hid (IA2_3.out.below hb)
    have IB_4 := Lib.hid (IB_3.out.below hb)
    clear HP_3 IA_3 IA2_3 IB_3
    have IB2_4 : Hid (V.Ints .i64 w_4 bB2 nB2 L2) := ho.ints'
    clear ho hb
    obtain ⟨g0, g1⟩ := HGb.out.below HP_4.out
    go_wp2_with fail
    refine (HCE.out _ (HPl0.out.below HP_4.out) (HFr0.out.below HP_4.out)).mono ?_
    rintro e w_5 ⟨bE, nE, kE, rfl, ho, hb⟩
    clear g0 g1
    have HP_5 := Lib.hid (HP_4.out.trans (hb.mono HP_4.out.size))
    have IA_5 := Lib.hid (IA_4.out.below hb)
    have IA2_5 := Lib.hid (IA2_4.out.below hb)
    have IB_5 := Lib.hid (IB_4.out.below hb)
    have IB2_5 := Lib.hid (IB2_4.out.below hb)
    clear HP_4 IA_4 IA2_4 IB_4 IB2_4
    have IE_5 : Hid (V.Ints .i64 w_5 bE nE L3) := ho.ints'
    clear ho hb
    obtain ⟨g0, g1⟩ := HGb.out.below HP_5.out
    go_wp2_with fail
    refine (HCE2.out _ (HPl0.out.below HP_5.out) (HFr0.out.below HP_5.out)).mono ?_
    rintro e w_6 ⟨bE2, nE2, kE2, rfl, ho, hb⟩
    clear g0 g1
    have HP_6 := Lib.hid (HP_5.out.trans (hb.mono HP_5.out.size))
    have IA_6 := Lib.hid (IA_5.out.below hb)
    have IA2_6 := Lib.hid (IA2_5.out.below hb)
    have IB_6 := Lib.hid (IB_5.out.below hb)
    have IB2_6 := Lib.hid (IB2_5.out.below hb)
    have IE_6 := Lib.hid (IE_5.out.below hb)
    clear HP_5 IA_5 IA2_5 IB_5 IB2_5 IE_5
    have IE2_6 : Hid (V.Ints .i64 w_6 bE2 nE2 L3) := ho.ints'
    clear ho hb
    have HS0 : Hid (∀ w', Below w_6.heap.size w_6 w' → w'.cell? ⟨gb, 0, none⟩ = some (.int .i64 x) ∧ w'.cell? ⟨gb, 1, none⟩ = some (.slice pa n c) ∧ Below w_6.heap.size w_6 w') := fun w' hb => ⟨((HGb.out.below HP_6.out).below hb).1, ((HGb.out.below HP_6.out).below hb).2, hb⟩
    have hcc : (c1 != c1) = false := by simp
    have hdd : (d2 != d2) = false := by simp
    have hee : (d3 != d3) = false := by simp
    have hbb : (ib != ib) = false := by simp
    have HZ0 : Hid (Below w_6.heap.size w_6 w_6.drew) := V.b_draws w_6 1
    go_wp2
    refine wp_region_held_drew (S := fun w' => w'.cell? ⟨gb, 0, none⟩ = some (.int .i64 x) ∧ w'.cell? ⟨gb, 1, none⟩ = some (.slice pa n c) ∧ Below w_6.heap.size w_6 w') (by kernel_rfl) ?_ (fun hHeld => ?_)
    · exact HS0.out _ HZ0.out
    refine wpAnyH_take (i := 0) (v := ?vr0) rfl (by kernel_rfl) (by kernel_rfl) (by kernel_rfl) (fun _ _ _ h => h) (Or.inl ⟨by rfl, ?hyr0⟩) (by assumption) ?restr0
    case hyr0 => (intro wy hSw; (try dsimp only at hSw); obtain ⟨s0, s1, s2⟩ := hSw; go_simp; try with_reducible rfl)
    (try simp only [Act.put, List.getElem_toArray, List.getElem_cons_zero, List.getElem_cons_succ, List.setIfInBounds_toArray, List.set_cons_zero, List.set_cons_succ])
    refine wpAnyH_take (i := 1) (v := ?vr1) rfl (by kernel_rfl) (by kernel_rfl) (by kernel_rfl) (fun _ _ _ h => h) (Or.inl ⟨by rfl, ?hyr1⟩) (by assumption) ?restr1
    case hyr1 => (intro wy hSw; (try dsimp only at hSw); obtain ⟨s0, s1, s2⟩ := hSw; go_simp; try with_reducible rfl)
    (try simp only [Act.put, List.getElem_toArray, List.getElem_cons_zero, List.getElem_cons_succ, List.setIfInBounds_toArray, List.set_cons_zero, List.set_cons_succ])
    refine wpAnyH_take (i := 2) (v := (.bool false)) rfl (by kernel_rfl) (by kernel_rfl) (by kernel_rfl) (fun _ _ _ h => h) (Or.inl ⟨by rfl, ?hyr2⟩) (by assumption) ?restr2
    case hyr2 => (intro wy hSw; (try dsimp only at hSw); obtain ⟨s0, s1, s2⟩ := hSw; go_simp; try (first | with_reducible rfl | exact IntWalk.i64_left _ | simp [hcc, hdd, hee, hbb] | simp))
    (try simp only [Act.put, List.getElem_toArray, List.getElem_cons_zero, List.getElem_cons_succ, List.setIfInBounds_toArray, List.set_cons_zero, List.set_cons_succ])
    refine wpAnyH_take (i := 3) (v := ?vr3) rfl (by kernel_rfl) (by kernel_rfl) (by kernel_rfl) (fun _ _ _ h => h) (Or.inl ⟨by rfl, ?hyr3⟩) (by assumption) ?restr3
    case hyr3 => (intro wy hSw; (try dsimp only at hSw); obtain ⟨s0, s1, s2⟩ := hSw; go_simp; try with_reducible rfl)
    (try simp only [Act.put, List.getElem_toArray, List.getElem_cons_zero, List.getElem_cons_succ, List.setIfInBounds_toArray, List.set_cons_zero, List.set_cons_succ])
    refine wpAnyH_take (i := 4) (v := ?vr4) rfl (by kernel_rfl) (by kernel_rfl) (by kernel_rfl) (fun _ _ _ h => h) (Or.inl ⟨by rfl, ?hyr4⟩) (by assumption) ?restr4
    case hyr4 => (intro wy hSw; (try dsimp only at hSw); obtain ⟨s0, s1, s2⟩ := hSw; go_simp; try with_reducible rfl)
    (try simp only [Act.put, List.getElem_toArray, List.getElem_cons_zero, List.getElem_cons_succ, List.setIfInBounds_toArray, List.set_cons_zero, List.set_cons_succ])
    refine wpAnyH_take (i := 5) (v := ?vr5) rfl (by kernel_rfl) (by kernel_rfl) (by kernel_rfl) (fun _ _ _ h => h) (Or.inl ⟨by rfl, ?hyr5⟩) (by assumption) ?restr5
    case hyr5 => (intro wy hSw; (try dsimp only at hSw); obtain ⟨s0, s1, s2⟩ := hSw; go_simp; try with_reducible rfl)
    (try simp only [Act.put, List.getElem_toArray, List.getElem_cons_zero, List.getElem_cons_succ, List.setIfInBounds_toArray, List.set_cons_zero, List.set_cons_succ])
    refine wpAnyH_ready (rs := [6]) (by kernel_rfl) (by simp) (AllReadyH.cons rfl (fun K hK => ?_) AllReadyH.nil)
    go_simp
    refine (V.likeInts _ _ _ L1 _ _ _ L1 _ (IA_6.out.below HZ0.out) (IA2_6.out.below HZ0.out) rfl).mono ?_
    rintro e z1 ⟨rfl, q1, hq1⟩
    have HZ1 : Hid (Below w_6.heap.size w_6 z1) := by show Below _ _ _; rw [hq1]; exact HZ0.out.trans ((V.b_draws _ q1).mono HZ0.out.size)
    clear hq1
    refine hK.out _ _ (HS0.out _ HZ1.out) (fun hHeld => ?_)
    clear hK K
    (try simp only [Act.put, List.getElem_toArray, List.getElem_cons_zero, List.getElem_cons_succ, List.setIfInBounds_toArray, List.set_cons_zero, List.set_cons_succ])
    refine wpAnyH_take (i := 7) (v := (.bool false)) rfl (by kernel_rfl) (by kernel_rfl) (by kernel_rfl) (fun _ _ _ h => h) (Or.inl ⟨by rfl, ?hyr7⟩) (by assumption) ?restr7
    case hyr7 => (intro wy hSw; (try dsimp only at hSw); obtain ⟨s0, s1, s2⟩ := hSw; go_simp; try (first | with_reducible rfl | exact IntWalk.i64_left _ | simp [hcc, hdd, hee, hbb] | simp))
    (try simp only [Act.put, List.getElem_toArray, List.getElem_cons_zero, List.getElem_cons_succ, List.setIfInBounds_toArray, List.set_cons_zero, List.set_cons_succ])
    refine wpAnyH_take (i := 8) (v := (.bool false)) rfl (by kernel_rfl) (by kernel_rfl) (by kernel_rfl) (fun _ _ _ h => h) (Or.inl ⟨by rfl, ?hyr8⟩) (by assumption) ?restr8
    case hyr8 => (intro wy hSw; (try dsimp only at hSw); obtain ⟨s0, s1, s2⟩ := hSw; go_simp; try (first | with_reducible rfl | exact IntWalk.i64_left _ | simp [hcc, hdd, hee, hbb] | simp))
    (try simp only [Act.put, List.getElem_toArray, List.getElem_cons_zero, List.getElem_cons_succ, List.setIfInBounds_toArray, List.set_cons_zero, List.set_cons_succ])
    refine wpAnyH_take (i := 9) (v := ?vr9) rfl (by kernel_rfl) (by kernel_rfl) (by kernel_rfl) (fun _ _ _ h => h) (Or.inl ⟨by rfl, ?hyr9⟩) (by assumption) ?restr9
    case hyr9 => (intro wy hSw; (try dsimp only at hSw); obtain ⟨s0, s1, s2⟩ := hSw; go_simp; try with_reducible rfl)
    (try simp only [Act.put, List.getElem_toArray, List.getElem_cons_zero, List.getElem_cons_succ, List.setIfInBounds_toArray, List.set_cons_zero, List.set_cons_succ])
    refine wpAnyH_take (i := 10) (v := ?vr10) rfl (by kernel_rfl) (by kernel_rfl) (by kernel_rfl) (fun _ _ _ h => h) (Or.inl ⟨by rfl, ?hyr10⟩) (by assumption) ?restr10
    case hyr10 => (intro wy hSw; (try dsimp only at hSw); obtain ⟨s0, s1, s2⟩ := hSw; go_simp; try with_reducible rfl)
    (try simp only [Act.put, List.getElem_toArray, List.getElem_cons_zero, List.getElem_cons_succ, List.setIfInBounds_toArray, List.set_cons_zero, List.set_cons_succ])
    refine wpAnyH_take (i := 11) (v := ?vr11) rfl (by kernel_rfl) (by kernel_rfl) (by kernel_rfl) (fun _ _ _ h => h) (Or.inl ⟨by rfl, ?hyr11⟩) (by assumption) ?restr11
    case hyr11 => (intro wy hSw; (try dsimp only at hSw); obtain ⟨s0, s1, s2⟩ := hSw; go_simp; try with_reducible rfl)
    (try simp only [Act.put, List.getElem_toArray, List.getElem_cons_zero, List.getElem_cons_succ, List.setIfInBounds_toArray, List.set_cons_zero, List.set_cons_succ])
    refine wpAnyH_take (i := 12) (v := (.bool false)) rfl (by kernel_rfl) (by kernel_rfl) (by kernel_rfl) (fun _ _ _ h => h) (Or.inl ⟨by rfl, ?hyr12⟩) (by assumption) ?restr12
    case hyr12 => (intro wy hSw; (try dsimp only at hSw); obtain ⟨s0, s1, s2⟩ := hSw; go_simp; try (first | with_reducible rfl | exact IntWalk.i64_left _ | simp [hcc, hdd, hee, hbb] | simp))
    (try simp only [Act.put, List.getElem_toArray, List.getElem_cons_zero, List.getElem_cons_succ, List.setIfInBounds_toArray, List.set_cons_zero, List.set_cons_succ])
    refine wpAnyH_take (i := 13) (v := (.bool false)) rfl (by kernel_rfl) (by kernel_rfl) (by kernel_rfl) (fun _ _ _ h => h) (Or.inl ⟨by rfl, ?hyr13⟩) (by assumption) ?restr13
    case hyr13 => (intro wy hSw; (try dsimp only at hSw); obtain ⟨s0, s1, s2⟩ := hSw; go_simp; try (first | with_reducible rfl | exact IntWalk.i64_left _ | simp [hcc, hdd, hee, hbb] | simp))
    (try simp only [Act.put, List.getElem_toArray, List.getElem_cons_zero, List.getElem_cons_succ, List.setIfInBounds_toArray, List.set_cons_zero, List.set_cons_succ])
    refine wpAnyH_take (i := 14) (v := ?vr14) rfl (by kernel_rfl) (by kernel_rfl) (by kernel_rfl) (fun _ _ _ h => h) (Or.inl ⟨by rfl, ?hyr14⟩) (by assumption) ?restr14
    case hyr14 => (intro wy hSw; (try dsimp only at hSw); obtain ⟨s0, s1, s2⟩ := hSw; go_simp; try with_reducible rfl)
    (try simp only [Act.put, List.getElem_toArray, List.getElem_cons_zero, List.getElem_cons_succ, List.setIfInBounds_toArray, List.set_cons_zero, List.set_cons_succ])
    refine wpAnyH_take (i := 15) (v := ?vr15) rfl (by kernel_rfl) (by kernel_rfl) (by kernel_rfl) (fun _ _ _ h => h) (Or.inl ⟨by rfl, ?hyr15⟩) (by assumption) ?restr15
    case hyr15 => (intro wy hSw; (try dsimp only at hSw); obtain ⟨s0, s1, s2⟩ := hSw; go_simp; try with_reducible rfl)
    (try simp only [Act.put, List.getElem_toArray, List.getElem_cons_zero, List.getElem_cons_succ, List.setIfInBounds_toArray, List.set_cons_zero, List.set_cons_succ])
    refine wpAnyH_take (i := 16) (v := ?vr16) rfl (by kernel_rfl) (by kernel_rfl) (by kernel_rfl) (fun _ _ _ h => h) (Or.inl ⟨by rfl, ?hyr16⟩) (by assumption) ?restr16
    case hyr16 => (intro wy hSw; (try dsimp only at hSw); obtain ⟨s0, s1, s2⟩ := hSw; go_simp; try with_reducible rfl)
    (try simp only [Act.put, List.getElem_toArray, List.getElem_cons_zero, List.getElem_cons_succ, List.setIfInBounds_toArray, List.set_cons_zero, List.set_cons_succ])
    refine wpAnyH_ready (rs := [17]) (by kernel_rfl) (by simp) (AllReadyH.cons rfl (fun K hK => ?_) AllReadyH.nil)
    go_simp
    refine (V.likeInts _ _ _ L2 _ _ _ L2 _ (IB_6.out.below HZ1.out) (IB2_6.out.below HZ1.out) rfl).mono ?_
    rintro e z2 ⟨rfl, q2, hq2⟩
    have HZ2 : Hid (Below w_6.heap.size w_6 z2) := by show Below _ _ _; rw [hq2]; exact HZ1.out.trans ((V.b_draws _ q2).mono HZ1.out.size)
    clear hq2
    refine hK.out _ _ (HS0.out _ HZ2.out) (fun hHeld => ?_)
    clear hK K
    (try simp only [Act.put, List.getElem_toArray, List.getElem_cons_zero, List.getElem_cons_succ, List.setIfInBounds_toArray, List.set_cons_zero, List.set_cons_succ])
    refine wpAnyH_take (i := 18) (v := (.bool false)) rfl (by kernel_rfl) (by kernel_rfl) (by kernel_rfl) (fun _ _ _ h => h) (Or.inl ⟨by rfl, ?hyr18⟩) (by assumption) ?restr18
    case hyr18 => (intro wy hSw; (try dsimp only at hSw); obtain ⟨s0, s1, s2⟩ := hSw; go_simp; try (first | with_reducible rfl | exact IntWalk.i64_left _ | simp [hcc, hdd, hee, hbb] | simp))
    (try simp only [Act.put, List.getElem_toArray, List.getElem_cons_zero, List.getElem_cons_succ, List.setIfInBounds_toArray, List.set_cons_zero, List.set_cons_succ])
    refine wpAnyH_take (i := 19) (v := (.bool false)) rfl (by kernel_rfl) (by kernel_rfl) (by kernel_rfl) (fun _ _ _ h => h) (Or.inl ⟨by rfl, ?hyr19⟩) (by assumption) ?restr19
    case hyr19 => (intro wy hSw; (try dsimp only at hSw); obtain ⟨s0, s1, s2⟩ := hSw; go_simp; try (first | with_reducible rfl | exact IntWalk.i64_left _ | simp [hcc, hdd, hee, hbb] | simp))
    (try simp only [Act.put, List.getElem_toArray, List.getElem_cons_zero, List.getElem_cons_succ, List.setIfInBounds_toArray, List.set_cons_zero, List.set_cons_succ])
    refine wpAnyH_take (i := 20) (v := ?vr20) rfl (by kernel_rfl) (by kernel_rfl) (by kernel_rfl) (fun _ _ _ h => h) (Or.inl ⟨by rfl, ?hyr20⟩) (by assumption) ?restr20
    case hyr20 => (intro wy hSw; (try dsimp only at hSw); obtain ⟨s0, s1, s2⟩ := hSw; go_simp; try with_reducible rfl)
    (try simp only [Act.put, List.getElem_toArray, List.getElem_cons_zero, List.getElem_cons_succ, List.setIfInBounds_toArray, List.set_cons_zero, List.set_cons_succ])
    refine wpAnyH_take (i := 21) (v := ?vr21) rfl (by kernel_rfl) (by kernel_rfl) (by kernel_rfl) (fun _ _ _ h => h) (Or.inl ⟨by rfl, ?hyr21⟩) (by assumption) ?restr21
    case hyr21 => (intro wy hSw; (try dsimp only at hSw); obtain ⟨s0, s1, s2⟩ := hSw; go_simp; try with_reducible rfl)
    (try simp only [Act.put, List.getElem_toArray, List.getElem_cons_zero, List.getElem_cons_succ, List.setIfInBounds_toArray, List.set_cons_zero, List.set_cons_succ])
    refine wpAnyH_take (i := 22) (v := ?vr22) rfl (by kernel_rfl) (by kernel_rfl) (by kernel_rfl) (fun _ _ _ h => h) (Or.inl ⟨by rfl, ?hyr22⟩) (by assumption) ?restr22
    case hyr22 => (intro wy hSw; (try dsimp only at hSw); obtain ⟨s0, s1, s2⟩ := hSw; go_simp; try with_reducible rfl)
    (try simp only [Act.put, List.getElem_toArray, List.getElem_cons_zero, List.getElem_cons_succ, List.setIfInBounds_toArray, List.set_cons_zero, List.set_cons_succ])
    refine wpAnyH_take (i := 23) (v := (.bool false)) rfl (by kernel_rfl) (by kernel_rfl) (by kernel_rfl) (fun _ _ _ h => h) (Or.inl ⟨by rfl, ?hyr23⟩) (by assumption) ?restr23
    case hyr23 => (intro wy hSw; (try dsimp only at hSw); obtain ⟨s0, s1, s2⟩ := hSw; go_simp; try (first | with_reducible rfl | exact IntWalk.i64_left _ | simp [hcc, hdd, hee, hbb] | simp))
    (try simp only [Act.put, List.getElem_toArray, List.getElem_cons_zero, List.getElem_cons_succ, List.setIfInBounds_toArray, List.set_cons_zero, List.set_cons_succ])
    refine wpAnyH_take (i := 24) (v := (.bool false)) rfl (by kernel_rfl) (by kernel_rfl) (by kernel_rfl) (fun _ _ _ h => h) (Or.inl ⟨by rfl, ?hyr24⟩) (by assumption) ?restr24
    case hyr24 => (intro wy hSw; (try dsimp only at hSw); obtain ⟨s0, s1, s2⟩ := hSw; go_simp; try (first | with_reducible rfl | exact IntWalk.i64_left _ | simp [hcc, hdd, hee, hbb] | simp))
    (try simp only [Act.put, List.getElem_toArray, List.getElem_cons_zero, List.getElem_cons_succ, List.setIfInBounds_toArray, List.set_cons_zero, List.set_cons_succ])
    refine wpAnyH_take (i := 25) (v := ?vr25) rfl (by kernel_rfl) (by kernel_rfl) (by kernel_rfl) (fun _ _ _ h => h) (Or.inl ⟨by rfl, ?hyr25⟩) (by assumption) ?restr25
    case hyr25 => (intro wy hSw; (try dsimp only at hSw); obtain ⟨s0, s1, s2⟩ := hSw; go_simp; try with_reducible rfl)
    (try simp only [Act.put, List.getElem_toArray, List.getElem_cons_zero, List.getElem_cons_succ, List.setIfInBounds_toArray, List.set_cons_zero, List.set_cons_succ])
    refine wpAnyH_take (i := 26) (v := ?vr26) rfl (by kernel_rfl) (by kernel_rfl) (by kernel_rfl) (fun _ _ _ h => h) (Or.inl ⟨by rfl, ?hyr26⟩) (by assumption) ?restr26
    case hyr26 => (intro wy hSw; (try dsimp only at hSw); obtain ⟨s0, s1, s2⟩ := hSw; go_simp; try with_reducible rfl)
    (try simp only [Act.put, List.getElem_toArray, List.getElem_cons_zero, List.getElem_cons_succ, List.setIfInBounds_toArray, List.set_cons_zero, List.set_cons_succ])
    refine wpAnyH_take (i := 27) (v := ?vr27) rfl (by kernel_rfl) (by kernel_rfl) (by kernel_rfl) (fun _ _ _ h => h) (Or.inl ⟨by rfl, ?hyr27⟩) (by assumption) ?restr27
    case hyr27 => (intro wy hSw; (try dsimp only at hSw); obtain ⟨s0, s1, s2⟩ := hSw; go_simp; try with_reducible rfl)
    (try simp only [Act.put, List.getElem_toArray, List.getElem_cons_zero, List.getElem_cons_succ, List.setIfInBounds_toArray, List.set_cons_zero, List.set_cons_succ])
    refine wpAnyH_ready (rs := [28]) (by kernel_rfl) (by simp) (AllReadyH.cons rfl (fun K hK => ?_) AllReadyH.nil)
    go_simp
    refine (V.likeInts _ _ _ L3 _ _ _ L3 _ (IE_6.out.below HZ2.out) (IE2_6.out.below HZ2.out) rfl).mono ?_
    rintro e z3 ⟨rfl, q3, hq3⟩
    have HZ3 : Hid (Below w_6.heap.size w_6 z3) := by show Below _ _ _; rw [hq3]; exact HZ2.out.trans ((V.b_draws _ q3).mono HZ2.out.size)
    clear hq3
    refine hK.out _ _ (HS0.out _ HZ3.out) (fun hHeld => ?_)
    clear hK K
    (try simp only [Act.put, List.getElem_toArray, List.getElem_cons_zero, List.getElem_cons_succ, List.setIfInBounds_toArray, List.set_cons_zero, List.set_cons_succ])
    refine wpAnyH_take (i := 29) (v := (.bool false)) rfl (by kernel_rfl) (by kernel_rfl) (by kernel_rfl) (fun _ _ _ h => h) (Or.inl ⟨by rfl, ?hyr29⟩) (by assumption) ?restr29
    case hyr29 => (intro wy hSw; (try dsimp only at hSw); obtain ⟨s0, s1, s2⟩ := hSw; go_simp; try (first | with_reducible rfl | exact IntWalk.i64_left _ | simp [hcc, hdd, hee, hbb] | simp))
    (try simp only [Act.put, List.getElem_toArray, List.getElem_cons_zero, List.getElem_cons_succ, List.setIfInBounds_toArray, List.set_cons_zero, List.set_cons_succ])
    refine wpAnyH_take (i := 30) (v := (.bool false)) rfl (by kernel_rfl) (by kernel_rfl) (by kernel_rfl) (fun _ _ _ h => h) (Or.inl ⟨by rfl, ?hyr30⟩) (by assumption) ?restr30
    case hyr30 => (intro wy hSw; (try dsimp only at hSw); obtain ⟨s0, s1, s2⟩ := hSw; go_simp; try (first | with_reducible rfl | exact IntWalk.i64_left _ | simp [hcc, hdd, hee, hbb] | simp))
    (try simp only [Act.put, List.getElem_toArray, List.getElem_cons_zero, List.getElem_cons_succ, List.setIfInBounds_toArray, List.set_cons_zero, List.set_cons_succ])
    refine wpAnyH_take (i := 31) (v := ?vr31) rfl (by kernel_rfl) (by kernel_rfl) (by kernel_rfl) (fun _ _ _ h => h) (Or.inl ⟨by rfl, ?hyr31⟩) (by assumption) ?restr31
    case hyr31 => (intro wy hSw; (try dsimp only at hSw); obtain ⟨s0, s1, s2⟩ := hSw; go_simp; try with_reducible rfl)
    (try simp only [Act.put, List.getElem_toArray, List.getElem_cons_zero, List.getElem_cons_succ, List.setIfInBounds_toArray, List.set_cons_zero, List.set_cons_succ])
    refine wpAnyH_take (i := 32) (v := ?vr32) rfl (by kernel_rfl) (by kernel_rfl) (by kernel_rfl) (fun _ _ _ h => h) (Or.inl ⟨by rfl, ?hyr32⟩) (by assumption) ?restr32
    case hyr32 => (intro wy hSw; (try dsimp only at hSw); obtain ⟨s0, s1, s2⟩ := hSw; go_simp; try with_reducible rfl)
    (try simp only [Act.put, List.getElem_toArray, List.getElem_cons_zero, List.getElem_cons_succ, List.setIfInBounds_toArray, List.set_cons_zero, List.set_cons_succ])
    refine wpAnyH_take (i := 33) (v := ?vr33) rfl (by kernel_rfl) (by kernel_rfl) (by kernel_rfl) (fun _ _ _ h => h) (Or.inl ⟨by rfl, ?hyr33⟩) (by assumption) ?restr33
    case hyr33 => (intro wy hSw; (try dsimp only at hSw); obtain ⟨s0, s1, s2⟩ := hSw; go_simp; try with_reducible rfl)
    (try simp only [Act.put, List.getElem_toArray, List.getElem_cons_zero, List.getElem_cons_succ, List.setIfInBounds_toArray, List.set_cons_zero, List.set_cons_succ])
    refine wpAnyH_take (i := 35) (v := ?vr35) rfl (by kernel_rfl) (by kernel_rfl) (by kernel_rfl) (fun _ _ _ h => h) (Or.inl ⟨by rfl, ?hyr35⟩) (by assumption) ?restr35
    case hyr35 => (intro wy hSw; (try dsimp only at hSw); obtain ⟨s0, s1, s2⟩ := hSw; go_simp; try with_reducible rfl)
    (try simp only [Act.put, List.getElem_toArray, List.getElem_cons_zero, List.getElem_cons_succ, List.setIfInBounds_toArray, List.set_cons_zero, List.set_cons_succ])
    refine wpAnyH_take (i := 36) (v := ?vr36) rfl (by kernel_rfl) (by kernel_rfl) (by kernel_rfl) (fun _ _ _ h => h) (Or.inl ⟨by rfl, ?hyr36⟩) (by assumption) ?restr36
    case hyr36 => (intro wy hSw; (try dsimp only at hSw); obtain ⟨s0, s1, s2⟩ := hSw; go_simp; try with_reducible rfl)
    (try simp only [Act.put, List.getElem_toArray, List.getElem_cons_zero, List.getElem_cons_succ, List.setIfInBounds_toArray, List.set_cons_zero, List.set_cons_succ])
    refine wpAnyH_ready (rs := [34]) (by kernel_rfl) (by simp) (AllReadyH.cons rfl (fun K hK => ?_) AllReadyH.nil)
    go_simp
    refine (HIr.out _ ((HPl0.out.below HP_6.out).below HZ3.out) ((HFr0.out.below HP_6.out).below HZ3.out)).mono ?_
    rintro e z4 ⟨rfl, hb4⟩
    have HZ4 := Lib.hid (HZ3.out.trans (hb4.mono HZ3.out.size))
    clear hb4
    refine hK.out _ _ (HS0.out _ HZ4.out) (fun hHeld => ?_)
    clear hK K
    (try simp only [Act.put, List.getElem_toArray, List.getElem_cons_zero, List.getElem_cons_succ, List.setIfInBounds_toArray, List.set_cons_zero, List.set_cons_succ])
    refine wpAnyH_ready (rs := [37]) (by kernel_rfl) (by simp) (AllReadyH.cons rfl (fun K hK => ?_) AllReadyH.nil)
    go_simp
    refine (HIs.out _ ((HPl0.out.below HP_6.out).below HZ4.out) ((HFr0.out.below HP_6.out).below HZ4.out)).mono ?_
    rintro e z5 ⟨rfl, hb5⟩
    have HZ5 := Lib.hid (HZ4.out.trans (hb5.mono HZ4.out.size))
    clear hb5
    refine hK.out _ _ (HS0.out _ HZ5.out) (fun hHeld => ?_)
    clear hK K
    (try simp only [Act.put, List.getElem_toArray, List.getElem_cons_zero, List.getElem_cons_succ, List.setIfInBounds_toArray, List.set_cons_zero, List.set_cons_succ])
    refine wpAnyH_take (i := 38) (v := (.bool false)) rfl (by kernel_rfl) (by kernel_rfl) (by kernel_rfl) (fun _ _ _ h => h) (Or.inl ⟨by rfl, ?hyr38⟩) (by assumption) ?restr38
    case hyr38 => (intro wy hSw; (try dsimp only at hSw); obtain ⟨s0, s1, s2⟩ := hSw; go_simp; try (first | with_reducible rfl | exact IntWalk.i64_left _ | simp [hcc, hdd, hee, hbb] | simp))
    (try simp only [Act.put, List.getElem_toArray, List.getElem_cons_zero, List.getElem_cons_succ, List.setIfInBounds_toArray, List.set_cons_zero, List.set_cons_succ])
    refine wpAnyH_take (i := 39) (v := (.bool false)) rfl (by kernel_rfl) (by kernel_rfl) (by kernel_rfl) (fun _ _ _ h => h) (Or.inl ⟨by rfl, ?hyr39⟩) (by assumption) ?restr39
    case hyr39 => (intro wy hSw; (try dsimp only at hSw); obtain ⟨s0, s1, s2⟩ := hSw; go_simp; try (first | with_reducible rfl | exact IntWalk.i64_left _ | simp [hcc, hdd, hee, hbb] | simp))
    (try simp only [Act.put, List.getElem_toArray, List.getElem_cons_zero, List.getElem_cons_succ, List.setIfInBounds_toArray, List.set_cons_zero, List.set_cons_succ])
    refine wpAnyH_done (by kernel_rfl) ?_ _
    have HPz := Lib.hid (HP_6.out.trans (HZ5.out.mono HP_6.out.size))
    have JA := Lib.hid (IA_6.out.below HZ5.out)
    have JB := Lib.hid (IB_6.out.below HZ5.out)
    have JE := Lib.hid (IE_6.out.below HZ5.out)
    clear hcc hdd hee hbb HS0 HZ0 HZ1 HZ2 HZ3 HZ4
    have hnA := JA.out.2.1
    unfold maxLen at hnA
    go_wp2
    go_loopw [17] (fun iv wr => ∃ i : Nat, i ≤ nA ∧ iv = .int .i64 i ∧ (c1 = 0 ∨ i = 0) ∧ wr = z5) (fun iv _ => nA - (intOf iv).toNat)
    case atStart => exact ⟨0, Nat.zero_le _, rfl, .inr rfl, rfl⟩
    case round =>
      obtain ⟨i, hi, rfl, hci, rfl⟩ := hrel
      obtain ⟨z5, rfl⟩ : ∃ x, x = wr := ⟨_, rfl⟩
      by_cases hc0 : c1 = 0
      · have hcb : (c1 == 0) = true := by simp [hc0]
        by_cases hin : i < nA
        · have hii : (i : Int) < (nA : Int) := by omega
          obtain ⟨vb, vo, y, hve, -, hy, hyc⟩ := JA.out.at i hin
          subst hve
          have hy0 : 0 ≤ y := by rw [hy]; exact HPos.out hc0 i (by rw [JA.out.1]; exact hin)
          have hyn : ¬ y < 0 := by omega
          have hc0h := Lib.hid hc0
          clear hy hc0 hci
          go_wp2
          go_roundw
          case rel => exact ⟨i + 1, by omega, by go_num, .inl hc0h.out, by first | rfl | trivial⟩
          case measure => simp [intOf]; omega
        · have hii : ¬ (i : Int) < (nA : Int) := by omega
          clear hc0 hci
          by_cases hd0 : d2 = 0
          · obtain ⟨N, hxN, hg, hL2, hL3, htok⟩ := HEv.out hd0
            subst hxN
            have hdb : (d2 != 0) = false := by simp [hd0]
            have HG := Lib.hid hg
            obtain ⟨n1, n2, -⟩ := V.gr_NF hg
            have hnB : nB = n := by have := JB.out.1; rw [hL2, M.mrkL_len l R (by rw [HLl.out]; exact Nat.le_refl _)] at this; exact this.symm
            subst hnB
            have HL2 := Lib.hid hL2
            have HL3 := Lib.hid hL3
            have HTk := Lib.hid htok
            have hnB60 : nB ≤ 60 := hn60
            clear hd0 hg hL2 hL3 htok
            obtain ⟨g0, g1⟩ := HGb.out.below HPz.out
            go_wp2
            go_loopw [18, 19, 20] (fun kv _ _ wr => ∃ k : Nat, k ≤ N ∧ kv = .int .i64 k ∧ wr = z5) (fun kv _ _ _ => N - (intOf kv).toNat)
            case atStart => exact ⟨0, Nat.zero_le _, rfl, rfl⟩
            case round =>
              obtain ⟨k, hk, rfl, rfl⟩ := hrel
              obtain ⟨z6, rfl⟩ : ∃ x, x = wr := ⟨_, rfl⟩
              by_cases hkN : k < N
              · have hki : (k : Int) < (N : Int) := by omega
                go_wp2
                go_loopw [19, 20] (fun rv iv wr' => ∃ i : Nat, i ≤ nB ∧ iv = .int .i64 i ∧ rv = .bool (M.rdP l R k i) ∧ wr' = z6) (fun _ iv _ => nB - (intOf iv).toNat)
                case atStart => exact ⟨0, Nat.zero_le _, rfl, rfl, rfl⟩
                case round =>
                  obtain ⟨i, hi, rfl, rfl, rfl⟩ := hrel
                  obtain ⟨z6, rfl⟩ : ∃ x, x = wr := ⟨_, rfl⟩
                  by_cases hin : i < nB
                  · have hii : (i : Int) < (nB : Int) := by omega
                    obtain ⟨pb, off, p0, p1, p2, p3, hpe, -, hp, e0, e1, e2, e3⟩ := (HPl0.out.below HPz.out).at i hin
                    subst hpe
                    obtain ⟨mb, mo, y, hme, -, hy, hyc⟩ := JB.out.at i hin
                    subst hme
                    have hil : i < l.length := by rw [HLl.out]; exact hin
                    have hNx := M.rdP_next l R k hil
                    have hyt : y = M.tokF R (p0, p1, p2, p3) := by
                      have e1 : (M.mrkL l R nB).getD i 0 = M.tokF R (l.getD i M.pz) := by
                        unfold M.mrkL
                        rw [List.getD_eq_getElem?_getD, List.getD_eq_getElem?_getD, List.getElem?_map, List.getElem?_take, if_pos hin, List.getElem?_eq_getElem hil]
                        rfl
                      rw [hy, HL2.out, e1, hp]
                    rw [hp, ← hyt] at hNx
                    obtain ⟨b, hb⟩ : ∃ b, b = M.rdP l R k i := ⟨_, rfl⟩
                    rw [← hb] at hNx ⊢
                    have HN := Lib.hid hNx
                    clear hNx hp hy hyt hb e0 e2 e3
                    cases b with
                    | false =>
                      have HE : Hid (M.rdP l R k (i + 1) = false) := HN.out
                      go_wp2
                      go_roundw
                      case rel => exact ⟨i + 1, by omega, by go_num, by rw [HE.out], by first | rfl | trivial⟩
                      case measure => simp [intOf]; omega
                    | true =>
                      by_cases hpk : p1 = (k : Int)
                      · have hpb : (p1 != (k : Int)) = false := by simp [hpk]
                        have HE : Hid (M.rdP l R k (i + 1) = decide (0 < y)) := HN.out.trans (by rw [decide_eq_true hpk]; rfl)
                        clear hpk
                        by_cases hy0 : 0 < y
                        · have hyg : y > 0 := hy0
                          have HE2 : Hid (M.rdP l R k (i + 1) = true) := HE.out.trans (decide_eq_true hy0)
                          go_wp2
                          go_roundw
                          case rel => exact ⟨i + 1, by omega, by go_num, by rw [HE2.out], by first | rfl | trivial⟩
                          case measure => simp [intOf]; omega
                        · have hyg : ¬ y > 0 := hy0
                          have HE2 : Hid (M.rdP l R k (i + 1) = false) := HE.out.trans (decide_eq_false hy0)
                          go_wp2
                          go_roundw
                          case rel => exact ⟨i + 1, by omega, by go_num, by rw [HE2.out], by first | rfl | trivial⟩
                          case measure => simp [intOf]; omega
                      · have hpb : (p1 != (k : Int)) = true := by simpa using hpk
                        have HE : Hid (M.rdP l R k (i + 1) = true) := HN.out.trans (by rw [decide_eq_false hpk]; rfl)
                        clear hpk
                        go_wp2
                        go_roundw
                        case rel => exact ⟨i + 1, by omega, by go_num, by rw [HE.out], by first | rfl | trivial⟩
                        case measure => simp [intOf]; omega
                  · obtain rfl : i = nB := by omega
                    have hall : M.rdP l R k i = M.enB l R k := by
                      have := M.rdP_all (k := (k : Int)) HTk.out
                      rw [HLl.out] at this
                      exact this
                    rw [hall]
                    obtain ⟨b, hb⟩ : ∃ b, b = M.enB l R (k : Int) := ⟨_, rfl⟩
                    rw [← hb]
                    have HHas : Hid (∀ w', Below z6.heap.size z6 w' → Calls Try.prog 38 #[.slice bE nE kE, .int .i64 k] w' fun e w'' => e = .returned (.bool b) ∧ w' = w'') := fun w' hw => V.hasIntB _ _ _ L3 k b _ (JE.out.below hw) (by rw [HL3.out, M.mem_enL, hb]; exact ⟨fun q => q.2, fun q => ⟨hkN, q⟩⟩)
                    have hbx : (b != b) = false := by simp
                    clear hall hb
                    go_wp2_with fail
                    refine (HHas.out _ (Below.refl _ _)).mono ?_
                    rintro e w' ⟨rfl, rfl⟩
                    go_wp2
                    go_roundw
                    case rel => exact ⟨k + 1, by omega, by go_num, by first | rfl | trivial⟩
                    case measure => simp [intOf]; omega
              · obtain rfl : k = N := by omega
                go_wp2
                go_ret
                exact ⟨rfl, HW.out.trans (HPz.out.mono HW.out.size)⟩
          · have hdb : (d2 != 0) = true := by simpa using hd0
            clear hd0
            go_wp2
            go_ret
            exact ⟨rfl, HW.out.trans (HPz.out.mono HW.out.size)⟩
      · have hcb : (c1 == 0) = false := by simpa using hc0
        clear hc0 hci
        by_cases hd0 : d2 = 0
        · obtain ⟨N, hxN, hg, hL2, hL3, htok⟩ := HEv.out hd0
          subst hxN
          have hdb : (d2 != 0) = false := by simp [hd0]
          have HG := Lib.hid hg
          obtain ⟨n1, n2, -⟩ := V.gr_NF hg
          have hnB : nB = n := by have := JB.out.1; rw [hL2, M.mrkL_len l R (by rw [HLl.out]; exact Nat.le_refl _)] at this; exact this.symm
          subst hnB
          have HL2 := Lib.hid hL2
          have HL3 := Lib.hid hL3
          have HTk := Lib.hid htok
          have hnB60 : nB ≤ 60 := hn60
          clear hd0 hg hL2 hL3 htok
          obtain ⟨g0, g1⟩ := HGb.out.below HPz.out
          go_wp2
          go_loopw [18, 19, 20] (fun kv _ _ wr => ∃ k : Nat, k ≤ N ∧ kv = .int .i64 k ∧ wr = z5) (fun kv _ _ _ => N - (intOf kv).toNat)
          case atStart => exact ⟨0, Nat.zero_le _, rfl, rfl⟩
          case round =>
            obtain ⟨k, hk, rfl, rfl⟩ := hrel
            obtain ⟨z6, rfl⟩ : ∃ x, x = wr := ⟨_, rfl⟩
            by_cases hkN : k < N
            · have hki : (k : Int) < (N : Int) := by omega
              go_wp2
              go_loopw [19, 20] (fun rv iv wr' => ∃ i : Nat, i ≤ nB ∧ iv = .int .i64 i ∧ rv = .bool (M.rdP l R k i) ∧ wr' = z6) (fun _ iv _ => nB - (intOf iv).toNat)
              case atStart => exact ⟨0, Nat.zero_le _, rfl, rfl, rfl⟩
              case round =>
                obtain ⟨i, hi, rfl, rfl, rfl⟩ := hrel
                obtain ⟨z6, rfl⟩ : ∃ x, x = wr := ⟨_, rfl⟩
                by_cases hin : i < nB
                · have hii : (i : Int) < (nB : Int) := by omega
                  obtain ⟨pb, off, p0, p1, p2, p3, hpe, -, hp, e0, e1, e2, e3⟩ := (HPl0.out.below HPz.out).at i hin
                  subst hpe
                  obtain ⟨mb, mo, y, hme, -, hy, hyc⟩ := JB.out.at i hin
                  subst hme
                  have hil : i < l.length := by rw [HLl.out]; exact hin
                  have hNx := M.rdP_next l R k hil
                  have hyt : y = M.tokF R (p0, p1, p2, p3) := by
                    have e1 : (M.mrkL l R nB).getD i 0 = M.tokF R (l.getD i M.pz) := by
                      unfold M.mrkL
                      rw [List.getD_eq_getElem?_getD, List.getD_eq_getElem?_getD, List.getElem?_map, List.getElem?_take, if_pos hin, List.getElem?_eq_getElem hil]
                      rfl
                    rw [hy, HL2.out, e1, hp]
                  rw [hp, ← hyt] at hNx
                  obtain ⟨b, hb⟩ : ∃ b, b = M.rdP l R k i := ⟨_, rfl⟩
                  rw [← hb] at hNx ⊢
                  have HN := Lib.hid hNx
                  clear hNx hp hy hyt hb e0 e2 e3
                  cases b with
                  | false =>
                    have HE : Hid (M.rdP l R k (i + 1) = false) := HN.out
                    go_wp2
                    go_roundw
                    case rel => exact ⟨i + 1, by omega, by go_num, by rw [HE.out], by first | rfl | trivial⟩
                    case measure => simp [intOf]; omega
                  | true =>
                    by_cases hpk : p1 = (k : Int)
                    · have hpb : (p1 != (k : Int)) = false := by simp [hpk]
                      have HE : Hid (M.rdP l R k (i + 1) = decide (0 < y)) := HN.out.trans (by rw [decide_eq_true hpk]; rfl)
                      clear hpk
                      by_cases hy0 : 0 < y
                      · have hyg : y > 0 := hy0
                        have HE2 : Hid (M.rdP l R k (i + 1) = true) := HE.out.trans (decide_eq_true hy0)
                        go_wp2
                        go_roundw
                        case rel => exact ⟨i + 1, by omega, by go_num, by rw [HE2.out], by first | rfl | trivial⟩
                        case measure => simp [intOf]; omega
                      · have hyg : ¬ y > 0 := hy0
                        have HE2 : Hid (M.rdP l R k (i + 1) = false) := HE.out.trans (decide_eq_false hy0)
                        go_wp2
                        go_roundw
                        case rel => exact ⟨i + 1, by omega, by go_num, by rw [HE2.out], by first | rfl | trivial⟩
                        case measure => simp [intOf]; omega
                    · have hpb : (p1 != (k : Int)) = true := by simpa using hpk
                      have HE : Hid (M.rdP l R k (i + 1) = true) := HN.out.trans (by rw [decide_eq_false hpk]; rfl)
                      clear hpk
                      go_wp2
                      go_roundw
                      case rel => exact ⟨i + 1, by omega, by go_num, by rw [HE.out], by first | rfl | trivial⟩
                      case measure => simp [intOf]; omega
                · obtain rfl : i = nB := by omega
                  have hall : M.rdP l R k i = M.enB l R k := by
                    have := M.rdP_all (k := (k : Int)) HTk.out
                    rw [HLl.out] at this
                    exact this
                  rw [hall]
                  obtain ⟨b, hb⟩ : ∃ b, b = M.enB l R (k : Int) := ⟨_, rfl⟩
                  rw [← hb]
                  have HHas : Hid (∀ w', Below z6.heap.size z6 w' → Calls Try.prog 38 #[.slice bE nE kE, .int .i64 k] w' fun e w'' => e = .returned (.bool b) ∧ w' = w'') := fun w' hw => V.hasIntB _ _ _ L3 k b _ (JE.out.below hw) (by rw [HL3.out, M.mem_enL, hb]; exact ⟨fun q => q.2, fun q => ⟨hkN, q⟩⟩)
                  have hbx : (b != b) = false := by simp
                  clear hall hb
                  go_wp2_with fail
                  refine (HHas.out _ (Below.refl _ _)).mono ?_
                  rintro e w' ⟨rfl, rfl⟩
                  go_wp2
                  go_roundw
                  case rel => exact ⟨k + 1, by omega, by go_num, by first | rfl | trivial⟩
                  case measure => simp [intOf]; omega
            · obtain rfl : k = N := by omega
              go_wp2
              go_ret
              exact ⟨rfl, HW.out.trans (HPz.out.mono HW.out.size)⟩
        · have hdb : (d2 != 0) = true := by simpa using hd0
          clear hd0
          go_wp2
          go_ret
          exact ⟨rfl, HW.out.trans (HPz.out.mono HW.out.size)⟩
end Go.Proofs.Ytjbffpmelglegaa.fnRuns
