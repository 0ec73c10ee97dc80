/- The walk through the law: it returns true and writes nothing that was there. For every code: PlacesInto, PlacesFrom, ChangePlace and DropPlace answer as their models, each place leads from one event and to one event, and a place that is changed twice is as it was. -/
import Derived.Test.YtphobmddkphofaaRows
import Derived.Test.YtphobmddkphofaaQa1
import Derived.Test.YtphobmddkphofaaQa2
import Derived.Test.YtphobmddkphofaaQa30
import Derived.Test.YtphobmddkphofaaQa5
import Derived.Test.YtphobmddkphofaaQa29
import Derived.Test.YtphobmddkphofaaQa27
import Derived.Test.YtphobmddkphofaaQa28
import Derived.Test.YtphobmddkphofaaQa4
import Derived.Test.YtphobmddkphofaaQa31
import Derived.WalkKit
import Derived.ProofKit
import Derived.OpenShut
import Derived.ShutString
import Derived.ChangeOld
import Derived.Below
import Derived.Lib.SmallJoins
import Derived.Lib.Hide
import Derived.WalkSmall
import Derived.Deep.Draws
import Derived.Deep.QuietTactic
import Derived.BigQuiet
import Derived.Deep.OwnRows
import Derived.Deep.RegionWith
import Derived.Deep.RegionHeld3
set_option linter.unusedSimpArgs false
set_option linter.unusedVariables false
set_option linter.unusedSectionVars false
namespace Go.Proofs.Ytphobmddkphofaa.fnPlaces
open Go.ChangeShapes Go.WideShapes Go.ChangeAt Go.RowKit
open Go.ChangeMaps (open_string shut_string)
set_option linter.unusedVariables false

set_option maxRecDepth 100000 in
set_option maxHeartbeats 4000000 in
theorem walk (a0 : Option Addr) (len0 cap0 : Nat) (z0 : List Int) (w : World) (w0 : V.IsRow .u8 w a0 len0 cap0 z0) :
    Calls Try.prog 3 #[.slice a0 len0 cap0] w fun e w' => e = .returned (.bool true) ∧ Below w.heap.size w w' := by
  have hB := w0.bytes
  have hm := hB.1
  by_cases hbig : 4096 < len0
  · have hd : decide (4096 < len0) = true := by simpa using hbig
    clear hB w0
    go_enter Try.func3, Try.ntmps3
    go_wp2_with (first | (go_at_call 17; refine (V.big _ _ _ _ hm).mono ?_; rintro e w' ⟨rfl, rfl⟩))
    go_ret
    exact ⟨rfl, Below.refl _ _⟩
  · have hd : decide (4096 < len0) = false := by simpa using hbig
    clear w0
    have HB := Lib.hid hB
    clear hB
    go_enter Try.func3, Try.ntmps3
    go_wp2_with (go_at_call 17; refine (V.big _ _ _ _ hm).mono ?_; rintro e w' ⟨rfl, rfl⟩)
    refine (V.drawPlacesInto _ _ _ _ HB.out).mono ?_
    rintro e w_0 ⟨x, q, n, c, l, y, rfl, ho, hn60, hbd⟩
    have HW := Lib.hid hbd
    have HP_0 := Lib.hid (Below.refl w_0.heap.size w_0)
    have Pg_0 : Hid (V.Pls w_0 (some ⟨q, 0, none⟩) n l) := ho.pls
    have HLl : Hid (l.length = n) := ho.pls.1
    have HN60 := Lib.hid hn60
    clear ho hbd hn60
    obtain ⟨⟨L1, c1⟩, h1⟩ : ∃ r, r = M.plcRes M.pTo x l y := ⟨_, rfl⟩
    obtain ⟨⟨L2, c2⟩, h2⟩ : ∃ r, r = M.plcRes M.pFrom x l y := ⟨_, rfl⟩
    have HCA : Hid (∀ w, V.Pls w (some ⟨q, 0, none⟩) n l → Calls Try.prog 19 #[.agg #[.int .i64 x, .slice (some ⟨q, 0, none⟩) n c], .int .i64 y] w (V.VL L1 c1 w)) := fun w hh => by have := V.placesInto x _ n c l y w hh; rw [← h1] at this; exact this
    have HCB : Hid (∀ w, V.Pls w (some ⟨q, 0, none⟩) n l → Calls Try.prog 20 #[.agg #[.int .i64 x, .slice (some ⟨q, 0, none⟩) n c], .int .i64 y] w (V.VL L1 c1 w)) := fun w hh => by have := V.sPlacesIntoX x _ n c l y w hh; rw [← h1] at this; exact this
    have HCC : Hid (∀ w, V.Pls w (some ⟨q, 0, none⟩) n l → Calls Try.prog 21 #[.agg #[.int .i64 x, .slice (some ⟨q, 0, none⟩) n c], .int .i64 y] w (V.VL L2 c2 w)) := fun w hh => by have := V.placesFrom x _ n c l y w hh; rw [← h2] at this; exact this
    have HCD : Hid (∀ w, V.Pls w (some ⟨q, 0, none⟩) n l → Calls Try.prog 22 #[.agg #[.int .i64 x, .slice (some ⟨q, 0, none⟩) n c], .int .i64 y] w (V.VL L2 c2 w)) := fun w hh => by have := V.sPlacesFromX x _ n c l y w hh; rw [← h2] at this; exact this
    have H1 := Lib.hid h1
    clear h1 h2
    have hGb := V.gBox_new w_0 x (some ⟨q, 0, none⟩) n c 26
    have hba : Below w_0.heap.size w_0 (w_0.alloc (.cells #[.int .i64 x, .slice (some ⟨q, 0, none⟩) n c] 26)) := V.b_alloc w_0 _
    obtain ⟨w_1, hw0⟩ : ∃ z, z = (w_0.alloc (.cells #[.int .i64 x, .slice (some ⟨q, 0, none⟩) n c] 26)) := ⟨_, rfl⟩
    rw [← hw0] at hGb hba
    obtain ⟨kg, hgb⟩ : ∃ b, b = w_0.heap.size := ⟨_, rfl⟩
    rw [← hgb] at hGb
    have HWd_g := Lib.hid hw0.symm
    have HGd_g := Lib.hid hgb.symm
    clear hw0 hgb
    have HP_1 := Lib.hid (HP_0.out.trans (hba.mono HP_0.out.size))
    have Pg_1 := Lib.hid (Pg_0.out.below hba)
    clear HP_0 Pg_0
    have Gg_1 : Hid (V.GBox w_1 kg x (some ⟨q, 0, none⟩) n c) := hGb
    clear hGb hba
    have hal_g := Gg_1.out
    rw [← HWd_g.out] at hal_g
    obtain ⟨g0g, g1g⟩ := hal_g
    rw [← HGd_g.out] at g0g g1g
    go_wp2_with fail
    rw [HWd_g.out, HGd_g.out]
    refine (HCA.out _ Pg_1.out).mono ?_
    rintro e w_2 ⟨bA, nA, cA, rfl, ho, hb⟩
    clear g0g g1g
    have HP_2 := Lib.hid (HP_1.out.trans (hb.mono HP_1.out.size))
    have Pg_2 := Lib.hid (Pg_1.out.below hb)
    have Gg_2 := Lib.hid (Gg_1.out.below hb)
    clear HP_1 Pg_1 Gg_1
    have IA_2 : Hid (V.Ints .i64 w_2 bA nA L1) := ho.ints'
    clear ho hb
    have hal_g := Gg_2.out
    obtain ⟨g0g, g1g⟩ := hal_g
    go_wp2_with fail
    refine (HCB.out _ Pg_2.out).mono ?_
    rintro e w_3 ⟨bB, nB, cB, rfl, ho, hb⟩
    clear g0g g1g
    have HP_3 := Lib.hid (HP_2.out.trans (hb.mono HP_2.out.size))
    have Pg_3 := Lib.hid (Pg_2.out.below hb)
    have Gg_3 := Lib.hid (Gg_2.out.below hb)
    have IA_3 := Lib.hid (IA_2.out.below hb)
    clear HP_2 Pg_2 Gg_2 IA_2
    have IB_3 : Hid (V.Ints .i64 w_3 bB nB L1) := ho.ints'
    clear ho hb
    have hal_g := Gg_3.out
    obtain ⟨g0g, g1g⟩ := hal_g
    go_wp2_with fail
    refine (HCC.out _ Pg_3.out).mono ?_
    rintro e w_4 ⟨bC, nC, cC, rfl, ho, hb⟩
    clear g0g g1g
    have HP_4 := Lib.hid (HP_3.out.trans (hb.mono HP_3.out.size))
    have Pg_4 := Lib.hid (Pg_3.out.below hb)
    have Gg_4 := Lib.hid (Gg_3.out.below hb)
    have IA_4 := Lib.hid (IA_3.out.below hb)
    have IB_4 := Lib.hid (IB_3.out.below hb)
    clear HP_3 Pg_3 Gg_3 IA_3 IB_3
    have IC_4 : Hid (V.Ints .i64 w_4 bC nC L2) := ho.ints'
    clear ho hb
    have hal_g := Gg_4.out
    obtain ⟨g0g, g1g⟩ := hal_g
    go_wp2_with fail
    refine (HCD.out _ Pg_4.out).mono ?_
    rintro e w_5 ⟨bD, nD, cD, rfl, ho, hb⟩
    clear g0g g1g
    have HP_5 := Lib.hid (HP_4.out.trans (hb.mono HP_4.out.size))
    have Pg_5 := Lib.hid (Pg_4.out.below hb)
    have Gg_5 := Lib.hid (Gg_4.out.below hb)
    have IA_5 := Lib.hid (IA_4.out.below hb)
    have IB_5 := Lib.hid (IB_4.out.below hb)
    have IC_5 := Lib.hid (IC_4.out.below hb)
    clear HP_4 Pg_4 Gg_4 IA_4 IB_4 IC_4
    have ID_5 : Hid (V.Ints .i64 w_5 bD nD L2) := ho.ints'
    clear ho hb
    go_wp2_with fail
    refine (V.drawChangePlace _ _ _ _ (HB.out.below (HW.out.trans (HP_5.out.mono HW.out.size)))).mono ?_
    rintro e w_6 ⟨x2, q2, n2, cc2, l2, i2, y2, z2, rfl, ho, hn2, hb⟩
    have HP_6 := Lib.hid (HP_5.out.trans (hb.mono HP_5.out.size))
    have Pg_6 := Lib.hid (Pg_5.out.below hb)
    have Gg_6 := Lib.hid (Gg_5.out.below hb)
    have IA_6 := Lib.hid (IA_5.out.below hb)
    have IB_6 := Lib.hid (IB_5.out.below hb)
    have IC_6 := Lib.hid (IC_5.out.below hb)
    have ID_6 := Lib.hid (ID_5.out.below hb)
    clear HP_5 Pg_5 Gg_5 IA_5 IB_5 IC_5 ID_5
    have Ph_6 : Hid (V.Pls w_6 (some ⟨q2, 0, none⟩) n2 l2) := ho.pls
    have HL2 : Hid (l2.length = n2) := ho.pls.1
    obtain ⟨⟨e3, L3, c3⟩, h3⟩ : ∃ r, r = M.chgRes x2 l2 i2 y2 z2 := ⟨_, rfl⟩
    have HCE : Hid (∀ w, V.Pls w (some ⟨q2, 0, none⟩) n2 l2 → Calls Try.prog 24 #[.agg #[.int .i64 x2, .slice (some ⟨q2, 0, none⟩) n2 cc2], .int .i64 i2, .int .i64 y2, .int .i64 z2] w (V.GL e3 L3 c3 w)) := fun w hh => by have := V.changePlace x2 _ n2 cc2 l2 i2 y2 z2 w hh; rw [← h3] at this; exact this
    have HCF : Hid (∀ w, V.Pls w (some ⟨q2, 0, none⟩) n2 l2 → Calls Try.prog 25 #[.agg #[.int .i64 x2, .slice (some ⟨q2, 0, none⟩) n2 cc2], .int .i64 i2, .int .i64 y2, .int .i64 z2] w (V.GL e3 L3 c3 w)) := fun w hh => by have := V.sChangePlace x2 _ n2 cc2 l2 i2 y2 z2 w hh; rw [← h3] at this; exact this
    have H3 := Lib.hid h3
    clear h3 ho hb hn2
    have hGb := V.gBox_new w_6 x2 (some ⟨q2, 0, none⟩) n2 cc2 26
    have hba : Below w_6.heap.size w_6 (w_6.alloc (.cells #[.int .i64 x2, .slice (some ⟨q2, 0, none⟩) n2 cc2] 26)) := V.b_alloc w_6 _
    obtain ⟨w_7, hw0⟩ : ∃ z, z = (w_6.alloc (.cells #[.int .i64 x2, .slice (some ⟨q2, 0, none⟩) n2 cc2] 26)) := ⟨_, rfl⟩
    rw [← hw0] at hGb hba
    obtain ⟨kh, hgb⟩ : ∃ b, b = w_6.heap.size := ⟨_, rfl⟩
    rw [← hgb] at hGb
    have HWd_h := Lib.hid hw0.symm
    have HGd_h := Lib.hid hgb.symm
    clear hw0 hgb
    have HP_7 := Lib.hid (HP_6.out.trans (hba.mono HP_6.out.size))
    have Pg_7 := Lib.hid (Pg_6.out.below hba)
    have Gg_7 := Lib.hid (Gg_6.out.below hba)
    have IA_7 := Lib.hid (IA_6.out.below hba)
    have IB_7 := Lib.hid (IB_6.out.below hba)
    have IC_7 := Lib.hid (IC_6.out.below hba)
    have ID_7 := Lib.hid (ID_6.out.below hba)
    have Ph_7 := Lib.hid (Ph_6.out.below hba)
    clear HP_6 Pg_6 Gg_6 IA_6 IB_6 IC_6 ID_6 Ph_6
    have Gh_7 : Hid (V.GBox w_7 kh x2 (some ⟨q2, 0, none⟩) n2 cc2) := hGb
    clear hGb hba
    have hal_h := Gh_7.out
    rw [← HWd_h.out] at hal_h
    obtain ⟨g0h, g1h⟩ := hal_h
    rw [← HGd_h.out] at g0h g1h
    go_wp2_with fail
    rw [HWd_h.out, HGd_h.out]
    refine (HCE.out _ Ph_7.out).mono ?_
    rintro e w_8 ⟨bE, nE, cE, rfl, ho, hb⟩
    clear g0h g1h
    have HP_8 := Lib.hid (HP_7.out.trans (hb.mono HP_7.out.size))
    have Pg_8 := Lib.hid (Pg_7.out.below hb)
    have Gg_8 := Lib.hid (Gg_7.out.below hb)
    have IA_8 := Lib.hid (IA_7.out.below hb)
    have IB_8 := Lib.hid (IB_7.out.below hb)
    have IC_8 := Lib.hid (IC_7.out.below hb)
    have ID_8 := Lib.hid (ID_7.out.below hb)
    have Ph_8 := Lib.hid (Ph_7.out.below hb)
    have Gh_8 := Lib.hid (Gh_7.out.below hb)
    clear HP_7 Pg_7 Gg_7 IA_7 IB_7 IC_7 ID_7 Ph_7 Gh_7
    have hpl := ho.pls
    have PE_8 : Hid (V.Pls w_8 bE nE L3) := hpl
    clear ho hb hpl
    have hGb := V.gBox_new w_8 e3 bE nE cE 26
    have hba : Below w_8.heap.size w_8 (w_8.alloc (.cells #[.int .i64 e3, .slice bE nE cE] 26)) := V.b_alloc w_8 _
    obtain ⟨w_9, hw0⟩ : ∃ z, z = (w_8.alloc (.cells #[.int .i64 e3, .slice bE nE cE] 26)) := ⟨_, rfl⟩
    rw [← hw0] at hGb hba
    obtain ⟨kE, hgb⟩ : ∃ b, b = w_8.heap.size := ⟨_, rfl⟩
    rw [← hgb] at hGb
    have HWd_E := Lib.hid hw0.symm
    have HGd_E := Lib.hid hgb.symm
    clear hw0 hgb
    have HP_9 := Lib.hid (HP_8.out.trans (hba.mono HP_8.out.size))
    have Pg_9 := Lib.hid (Pg_8.out.below hba)
    have Gg_9 := Lib.hid (Gg_8.out.below hba)
    have IA_9 := Lib.hid (IA_8.out.below hba)
    have IB_9 := Lib.hid (IB_8.out.below hba)
    have IC_9 := Lib.hid (IC_8.out.below hba)
    have ID_9 := Lib.hid (ID_8.out.below hba)
    have Ph_9 := Lib.hid (Ph_8.out.below hba)
    have Gh_9 := Lib.hid (Gh_8.out.below hba)
    have PE_9 := Lib.hid (PE_8.out.below hba)
    clear HP_8 Pg_8 Gg_8 IA_8 IB_8 IC_8 ID_8 Ph_8 Gh_8 PE_8
    have GE_9 : Hid (V.GBox w_9 kE e3 bE nE cE) := hGb
    clear hGb hba
    have hal_h := Gh_9.out
    rw [← HWd_E.out] at hal_h
    obtain ⟨g0h, g1h⟩ := hal_h
    go_wp2_with fail
    rw [HWd_E.out, HGd_E.out]
    refine (HCF.out _ Ph_9.out).mono ?_
    rintro e w_10 ⟨bF, nF, cF, rfl, ho, hb⟩
    clear g0h g1h
    have HP_10 := Lib.hid (HP_9.out.trans (hb.mono HP_9.out.size))
    have Pg_10 := Lib.hid (Pg_9.out.below hb)
    have Gg_10 := Lib.hid (Gg_9.out.below hb)
    have IA_10 := Lib.hid (IA_9.out.below hb)
    have IB_10 := Lib.hid (IB_9.out.below hb)
    have IC_10 := Lib.hid (IC_9.out.below hb)
    have ID_10 := Lib.hid (ID_9.out.below hb)
    have Ph_10 := Lib.hid (Ph_9.out.below hb)
    have Gh_10 := Lib.hid (Gh_9.out.below hb)
    have PE_10 := Lib.hid (PE_9.out.below hb)
    have GE_10 := Lib.hid (GE_9.out.below hb)
    clear HP_9 Pg_9 Gg_9 IA_9 IB_9 IC_9 ID_9 Ph_9 Gh_9 PE_9 GE_9
    have hpl := ho.pls
    obtain rfl : nE = nF := by have q1 := hpl.1; have q2 := PE_10.out.1; omega
    have PF_10 : Hid (V.Pls w_10 bF nE L3) := hpl
    clear ho hb hpl
    have hGb := V.gBox_new w_10 e3 bF nE cF 26
    have hba : Below w_10.heap.size w_10 (w_10.alloc (.cells #[.int .i64 e3, .slice bF nE cF] 26)) := V.b_alloc w_10 _
    obtain ⟨w_11, hw0⟩ : ∃ z, z = (w_10.alloc (.cells #[.int .i64 e3, .slice bF nE cF] 26)) := ⟨_, rfl⟩
    rw [← hw0] at hGb hba
    obtain ⟨kF, hgb⟩ : ∃ b, b = w_10.heap.size := ⟨_, rfl⟩
    rw [← hgb] at hGb
    have HWd_F := Lib.hid hw0.symm
    have HGd_F := Lib.hid hgb.symm
    clear hw0 hgb
    have HP_11 := Lib.hid (HP_10.out.trans (hba.mono HP_10.out.size))
    have Pg_11 := Lib.hid (Pg_10.out.below hba)
    have Gg_11 := Lib.hid (Gg_10.out.below hba)
    have IA_11 := Lib.hid (IA_10.out.below hba)
    have IB_11 := Lib.hid (IB_10.out.below hba)
    have IC_11 := Lib.hid (IC_10.out.below hba)
    have ID_11 := Lib.hid (ID_10.out.below hba)
    have Ph_11 := Lib.hid (Ph_10.out.below hba)
    have Gh_11 := Lib.hid (Gh_10.out.below hba)
    have PE_11 := Lib.hid (PE_10.out.below hba)
    have GE_11 := Lib.hid (GE_10.out.below hba)
    have PF_11 := Lib.hid (PF_10.out.below hba)
    clear HP_10 Pg_10 Gg_10 IA_10 IB_10 IC_10 ID_10 Ph_10 Gh_10 PE_10 GE_10 PF_10
    have GF_11 : Hid (V.GBox w_11 kF e3 bF nE cF) := hGb
    clear hGb hba
    go_wp2_with fail
    rw [HWd_F.out, HGd_F.out]
    refine (V.drawDropPlace _ _ _ _ (HB.out.below (HW.out.trans (HP_11.out.mono HW.out.size)))).mono ?_
    rintro e w_12 ⟨x4, q4, n4, cc4, l4, k4, rfl, ho, hn4, hb⟩
    have HP_12 := Lib.hid (HP_11.out.trans (hb.mono HP_11.out.size))
    have Pg_12 := Lib.hid (Pg_11.out.below hb)
    have Gg_12 := Lib.hid (Gg_11.out.below hb)
    have IA_12 := Lib.hid (IA_11.out.below hb)
    have IB_12 := Lib.hid (IB_11.out.below hb)
    have IC_12 := Lib.hid (IC_11.out.below hb)
    have ID_12 := Lib.hid (ID_11.out.below hb)
    have Ph_12 := Lib.hid (Ph_11.out.below hb)
    have Gh_12 := Lib.hid (Gh_11.out.below hb)
    have PE_12 := Lib.hid (PE_11.out.below hb)
    have GE_12 := Lib.hid (GE_11.out.below hb)
    have PF_12 := Lib.hid (PF_11.out.below hb)
    have GF_12 := Lib.hid (GF_11.out.below hb)
    clear HP_11 Pg_11 Gg_11 IA_11 IB_11 IC_11 ID_11 Ph_11 Gh_11 PE_11 GE_11 PF_11 GF_11
    have Pd_12 : Hid (V.Pls w_12 (some ⟨q4, 0, none⟩) n4 l4) := ho.pls
    obtain ⟨hcap1, hcap2⟩ := V.ownPl_cap ho
    obtain ⟨⟨e5, L5, c5⟩, h5⟩ : ∃ r, r = M.dropRes x4 l4 k4 := ⟨_, rfl⟩
    have HCJ : Hid (∀ w, V.Pls w (some ⟨q4, 0, none⟩) n4 l4 → Calls Try.prog 27 #[.agg #[.int .i64 x4, .slice (some ⟨q4, 0, none⟩) n4 cc4], .int .i64 k4] w (V.GL e5 L5 c5 w)) := fun w hh => by have := V.dropPlaceX x4 _ n4 cc4 l4 k4 w hh hcap1 hcap2; rw [← h5] at this; exact this
    have HCK : Hid (∀ w, V.Pls w (some ⟨q4, 0, none⟩) n4 l4 → Calls Try.prog 28 #[.agg #[.int .i64 x4, .slice (some ⟨q4, 0, none⟩) n4 cc4], .int .i64 k4] w (V.GL e5 L5 c5 w)) := fun w hh => by have := V.sDropPlaceX x4 _ n4 cc4 l4 k4 w hh hcap1 hcap2; rw [← h5] at this; exact this
    clear h5 ho hb hn4 hcap1 hcap2
    have hGb := V.gBox_new w_12 x4 (some ⟨q4, 0, none⟩) n4 cc4 26
    have hba : Below w_12.heap.size w_12 (w_12.alloc (.cells #[.int .i64 x4, .slice (some ⟨q4, 0, none⟩) n4 cc4] 26)) := V.b_alloc w_12 _
    obtain ⟨w_13, hw0⟩ : ∃ z, z = (w_12.alloc (.cells #[.int .i64 x4, .slice (some ⟨q4, 0, none⟩) n4 cc4] 26)) := ⟨_, rfl⟩
    rw [← hw0] at hGb hba
    obtain ⟨kd, hgb⟩ : ∃ b, b = w_12.heap.size := ⟨_, rfl⟩
    rw [← hgb] at hGb
    have HWd_d := Lib.hid hw0.symm
    have HGd_d := Lib.hid hgb.symm
    clear hw0 hgb
    have HP_13 := Lib.hid (HP_12.out.trans (hba.mono HP_12.out.size))
    have Pg_13 := Lib.hid (Pg_12.out.below hba)
    have Gg_13 := Lib.hid (Gg_12.out.below hba)
    have IA_13 := Lib.hid (IA_12.out.below hba)
    have IB_13 := Lib.hid (IB_12.out.below hba)
    have IC_13 := Lib.hid (IC_12.out.below hba)
    have ID_13 := Lib.hid (ID_12.out.below hba)
    have Ph_13 := Lib.hid (Ph_12.out.below hba)
    have Gh_13 := Lib.hid (Gh_12.out.below hba)
    have PE_13 := Lib.hid (PE_12.out.below hba)
    have GE_13 := Lib.hid (GE_12.out.below hba)
    have PF_13 := Lib.hid (PF_12.out.below hba)
    have GF_13 := Lib.hid (GF_12.out.below hba)
    have Pd_13 := Lib.hid (Pd_12.out.below hba)
    clear HP_12 Pg_12 Gg_12 IA_12 IB_12 IC_12 ID_12 Ph_12 Gh_12 PE_12 GE_12 PF_12 GF_12 Pd_12
    have Gd_13 : Hid (V.GBox w_13 kd x4 (some ⟨q4, 0, none⟩) n4 cc4) := hGb
    clear hGb hba
    have hal_d := Gd_13.out
    rw [← HWd_d.out] at hal_d
    obtain ⟨g0d, g1d⟩ := hal_d
    rw [← HGd_d.out] at g0d g1d
    go_wp2_with fail
    rw [HWd_d.out, HGd_d.out]
    refine (HCJ.out _ Pd_13.out).mono ?_
    rintro e w_14 ⟨bJ, nJ, cJ, rfl, ho, hb⟩
    clear g0d g1d
    have HP_14 := Lib.hid (HP_13.out.trans (hb.mono HP_13.out.size))
    have Pg_14 := Lib.hid (Pg_13.out.below hb)
    have Gg_14 := Lib.hid (Gg_13.out.below hb)
    have IA_14 := Lib.hid (IA_13.out.below hb)
    have IB_14 := Lib.hid (IB_13.out.below hb)
    have IC_14 := Lib.hid (IC_13.out.below hb)
    have ID_14 := Lib.hid (ID_13.out.below hb)
    have Ph_14 := Lib.hid (Ph_13.out.below hb)
    have Gh_14 := Lib.hid (Gh_13.out.below hb)
    have PE_14 := Lib.hid (PE_13.out.below hb)
    have GE_14 := Lib.hid (GE_13.out.below hb)
    have PF_14 := Lib.hid (PF_13.out.below hb)
    have GF_14 := Lib.hid (GF_13.out.below hb)
    have Pd_14 := Lib.hid (Pd_13.out.below hb)
    have Gd_14 := Lib.hid (Gd_13.out.below hb)
    clear HP_13 Pg_13 Gg_13 IA_13 IB_13 IC_13 ID_13 Ph_13 Gh_13 PE_13 GE_13 PF_13 GF_13 Pd_13 Gd_13
    have hpl := ho.pls
    have PJ_14 : Hid (V.Pls w_14 bJ nJ L5) := hpl
    clear ho hb hpl
    have hGb := V.gBox_new w_14 e5 bJ nJ cJ 26
    have hba : Below w_14.heap.size w_14 (w_14.alloc (.cells #[.int .i64 e5, .slice bJ nJ cJ] 26)) := V.b_alloc w_14 _
    obtain ⟨w_15, hw0⟩ : ∃ z, z = (w_14.alloc (.cells #[.int .i64 e5, .slice bJ nJ cJ] 26)) := ⟨_, rfl⟩
    rw [← hw0] at hGb hba
    obtain ⟨kJ, hgb⟩ : ∃ b, b = w_14.heap.size := ⟨_, rfl⟩
    rw [← hgb] at hGb
    have HWd_J := Lib.hid hw0.symm
    have HGd_J := Lib.hid hgb.symm
    clear hw0 hgb
    have HP_15 := Lib.hid (HP_14.out.trans (hba.mono HP_14.out.size))
    have Pg_15 := Lib.hid (Pg_14.out.below hba)
    have Gg_15 := Lib.hid (Gg_14.out.below hba)
    have IA_15 := Lib.hid (IA_14.out.below hba)
    have IB_15 := Lib.hid (IB_14.out.below hba)
    have IC_15 := Lib.hid (IC_14.out.below hba)
    have ID_15 := Lib.hid (ID_14.out.below hba)
    have Ph_15 := Lib.hid (Ph_14.out.below hba)
    have Gh_15 := Lib.hid (Gh_14.out.below hba)
    have PE_15 := Lib.hid (PE_14.out.below hba)
    have GE_15 := Lib.hid (GE_14.out.below hba)
    have PF_15 := Lib.hid (PF_14.out.below hba)
    have GF_15 := Lib.hid (GF_14.out.below hba)
    have Pd_15 := Lib.hid (Pd_14.out.below hba)
    have Gd_15 := Lib.hid (Gd_14.out.below hba)
    have PJ_15 := Lib.hid (PJ_14.out.below hba)
    clear HP_14 Pg_14 Gg_14 IA_14 IB_14 IC_14 ID_14 Ph_14 Gh_14 PE_14 GE_14 PF_14 GF_14 Pd_14 Gd_14 PJ_14
    have GJ_15 : Hid (V.GBox w_15 kJ e5 bJ nJ cJ) := hGb
    clear hGb hba
    have hal_d := Gd_15.out
    rw [← HWd_J.out] at hal_d
    obtain ⟨g0d, g1d⟩ := hal_d
    go_wp2_with fail
    rw [HWd_J.out, HGd_J.out]
    refine (HCK.out _ Pd_15.out).mono ?_
    rintro e w_16 ⟨bK, nK, cK, rfl, ho, hb⟩
    clear g0d g1d
    have HP_16 := Lib.hid (HP_15.out.trans (hb.mono HP_15.out.size))
    have Pg_16 := Lib.hid (Pg_15.out.below hb)
    have Gg_16 := Lib.hid (Gg_15.out.below hb)
    have IA_16 := Lib.hid (IA_15.out.below hb)
    have IB_16 := Lib.hid (IB_15.out.below hb)
    have IC_16 := Lib.hid (IC_15.out.below hb)
    have ID_16 := Lib.hid (ID_15.out.below hb)
    have Ph_16 := Lib.hid (Ph_15.out.below hb)
    have Gh_16 := Lib.hid (Gh_15.out.below hb)
    have PE_16 := Lib.hid (PE_15.out.below hb)
    have GE_16 := Lib.hid (GE_15.out.below hb)
    have PF_16 := Lib.hid (PF_15.out.below hb)
    have GF_16 := Lib.hid (GF_15.out.below hb)
    have Pd_16 := Lib.hid (Pd_15.out.below hb)
    have Gd_16 := Lib.hid (Gd_15.out.below hb)
    have PJ_16 := Lib.hid (PJ_15.out.below hb)
    have GJ_16 := Lib.hid (GJ_15.out.below hb)
    clear HP_15 Pg_15 Gg_15 IA_15 IB_15 IC_15 ID_15 Ph_15 Gh_15 PE_15 GE_15 PF_15 GF_15 Pd_15 Gd_15 PJ_15 GJ_15
    have hpl := ho.pls
    obtain rfl : nJ = nK := by have q1 := hpl.1; have q2 := PJ_16.out.1; omega
    have PK_16 : Hid (V.Pls w_16 bK nJ L5) := hpl
    clear ho hb hpl
    have hGb := V.gBox_new w_16 e5 bK nJ cK 26
    have hba : Below w_16.heap.size w_16 (w_16.alloc (.cells #[.int .i64 e5, .slice bK nJ cK] 26)) := V.b_alloc w_16 _
    obtain ⟨w_17, hw0⟩ : ∃ z, z = (w_16.alloc (.cells #[.int .i64 e5, .slice bK nJ cK] 26)) := ⟨_, rfl⟩
    rw [← hw0] at hGb hba
    obtain ⟨kK, hgb⟩ : ∃ b, b = w_16.heap.size := ⟨_, rfl⟩
    rw [← hgb] at hGb
    have HWd_K := Lib.hid hw0.symm
    have HGd_K := Lib.hid hgb.symm
    clear hw0 hgb
    have HP_17 := Lib.hid (HP_16.out.trans (hba.mono HP_16.out.size))
    have Pg_17 := Lib.hid (Pg_16.out.below hba)
    have Gg_17 := Lib.hid (Gg_16.out.below hba)
    have IA_17 := Lib.hid (IA_16.out.below hba)
    have IB_17 := Lib.hid (IB_16.out.below hba)
    have IC_17 := Lib.hid (IC_16.out.below hba)
    have ID_17 := Lib.hid (ID_16.out.below hba)
    have Ph_17 := Lib.hid (Ph_16.out.below hba)
    have Gh_17 := Lib.hid (Gh_16.out.below hba)
    have PE_17 := Lib.hid (PE_16.out.below hba)
    have GE_17 := Lib.hid (GE_16.out.below hba)
    have PF_17 := Lib.hid (PF_16.out.below hba)
    have GF_17 := Lib.hid (GF_16.out.below hba)
    have Pd_17 := Lib.hid (Pd_16.out.below hba)
    have Gd_17 := Lib.hid (Gd_16.out.below hba)
    have PJ_17 := Lib.hid (PJ_16.out.below hba)
    have GJ_17 := Lib.hid (GJ_16.out.below hba)
    have PK_17 := Lib.hid (PK_16.out.below hba)
    clear HP_16 Pg_16 Gg_16 IA_16 IB_16 IC_16 ID_16 Ph_16 Gh_16 PE_16 GE_16 PF_16 GF_16 Pd_16 Gd_16 PJ_16 GJ_16 PK_16
    have GK_17 : Hid (V.GBox w_17 kK e5 bK nJ cK) := hGb
    clear hGb hba
    go_wp2_with fail
    rw [HWd_K.out, HGd_K.out]
    refine (V.likeInts _ _ _ L1 _ _ _ L1 _ IA_17.out IB_17.out rfl).mono ?_
    rintro e w_18 ⟨rfl, qd, hq⟩
    have hb : Below w_17.heap.size w_17 w_18 := by rw [hq]; exact V.b_draws _ _
    clear hq
    have HP_18 := Lib.hid (HP_17.out.trans (hb.mono HP_17.out.size))
    have Pg_18 := Lib.hid (Pg_17.out.below hb)
    have Gg_18 := Lib.hid (Gg_17.out.below hb)
    have IA_18 := Lib.hid (IA_17.out.below hb)
    have IB_18 := Lib.hid (IB_17.out.below hb)
    have IC_18 := Lib.hid (IC_17.out.below hb)
    have ID_18 := Lib.hid (ID_17.out.below hb)
    have Ph_18 := Lib.hid (Ph_17.out.below hb)
    have Gh_18 := Lib.hid (Gh_17.out.below hb)
    have PE_18 := Lib.hid (PE_17.out.below hb)
    have GE_18 := Lib.hid (GE_17.out.below hb)
    have PF_18 := Lib.hid (PF_17.out.below hb)
    have GF_18 := Lib.hid (GF_17.out.below hb)
    have Pd_18 := Lib.hid (Pd_17.out.below hb)
    have Gd_18 := Lib.hid (Gd_17.out.below hb)
    have PJ_18 := Lib.hid (PJ_17.out.below hb)
    have GJ_18 := Lib.hid (GJ_17.out.below hb)
    have PK_18 := Lib.hid (PK_17.out.below hb)
    have GK_18 := Lib.hid (GK_17.out.below hb)
    clear HP_17 Pg_17 Gg_17 IA_17 IB_17 IC_17 ID_17 Ph_17 Gh_17 PE_17 GE_17 PF_17 GF_17 Pd_17 Gd_17 PJ_17 GJ_17 PK_17 GK_17
    clear hb
    go_wp2_with fail
    refine (V.likeInts _ _ _ L2 _ _ _ L2 _ IC_18.out ID_18.out rfl).mono ?_
    rintro e w_19 ⟨rfl, qd, hq⟩
    have hb : Below w_18.heap.size w_18 w_19 := by rw [hq]; exact V.b_draws _ _
    clear hq
    have HP_19 := Lib.hid (HP_18.out.trans (hb.mono HP_18.out.size))
    have Pg_19 := Lib.hid (Pg_18.out.below hb)
    have Gg_19 := Lib.hid (Gg_18.out.below hb)
    have IA_19 := Lib.hid (IA_18.out.below hb)
    have IB_19 := Lib.hid (IB_18.out.below hb)
    have IC_19 := Lib.hid (IC_18.out.below hb)
    have ID_19 := Lib.hid (ID_18.out.below hb)
    have Ph_19 := Lib.hid (Ph_18.out.below hb)
    have Gh_19 := Lib.hid (Gh_18.out.below hb)
    have PE_19 := Lib.hid (PE_18.out.below hb)
    have GE_19 := Lib.hid (GE_18.out.below hb)
    have PF_19 := Lib.hid (PF_18.out.below hb)
    have GF_19 := Lib.hid (GF_18.out.below hb)
    have Pd_19 := Lib.hid (Pd_18.out.below hb)
    have Gd_19 := Lib.hid (Gd_18.out.below hb)
    have PJ_19 := Lib.hid (PJ_18.out.below hb)
    have GJ_19 := Lib.hid (GJ_18.out.below hb)
    have PK_19 := Lib.hid (PK_18.out.below hb)
    have GK_19 := Lib.hid (GK_18.out.below hb)
    clear HP_18 Pg_18 Gg_18 IA_18 IB_18 IC_18 ID_18 Ph_18 Gh_18 PE_18 GE_18 PF_18 GF_18 Pd_18 Gd_18 PJ_18 GJ_18 PK_18 GK_18
    clear hb
    have hal_E := GE_19.out
    obtain ⟨g0E, g1E⟩ := hal_E
    have hal_F := GF_19.out
    obtain ⟨g0F, g1F⟩ := hal_F
    go_wp2_with fail
    refine (V.likeGraphs e3 _ nE _ _ _ L3 _ PE_19.out PF_19.out).mono ?_
    rintro e w_20 ⟨rfl, hb⟩
    clear g0E g1E g0F g1F
    have HP_20 := Lib.hid (HP_19.out.trans (hb.mono HP_19.out.size))
    have Pg_20 := Lib.hid (Pg_19.out.below hb)
    have Gg_20 := Lib.hid (Gg_19.out.below hb)
    have IA_20 := Lib.hid (IA_19.out.below hb)
    have IB_20 := Lib.hid (IB_19.out.below hb)
    have IC_20 := Lib.hid (IC_19.out.below hb)
    have ID_20 := Lib.hid (ID_19.out.below hb)
    have Ph_20 := Lib.hid (Ph_19.out.below hb)
    have Gh_20 := Lib.hid (Gh_19.out.below hb)
    have PE_20 := Lib.hid (PE_19.out.below hb)
    have GE_20 := Lib.hid (GE_19.out.below hb)
    have PF_20 := Lib.hid (PF_19.out.below hb)
    have GF_20 := Lib.hid (GF_19.out.below hb)
    have Pd_20 := Lib.hid (Pd_19.out.below hb)
    have Gd_20 := Lib.hid (Gd_19.out.below hb)
    have PJ_20 := Lib.hid (PJ_19.out.below hb)
    have GJ_20 := Lib.hid (GJ_19.out.below hb)
    have PK_20 := Lib.hid (PK_19.out.below hb)
    have GK_20 := Lib.hid (GK_19.out.below hb)
    clear HP_19 Pg_19 Gg_19 IA_19 IB_19 IC_19 ID_19 Ph_19 Gh_19 PE_19 GE_19 PF_19 GF_19 Pd_19 Gd_19 PJ_19 GJ_19 PK_19 GK_19
    clear hb
    have hal_J := GJ_20.out
    obtain ⟨g0J, g1J⟩ := hal_J
    have hal_K := GK_20.out
    obtain ⟨g0K, g1K⟩ := hal_K
    go_wp2_with fail
    refine (V.likeGraphs e5 _ nJ _ _ _ L5 _ PJ_20.out PK_20.out).mono ?_
    rintro e w_21 ⟨rfl, hb⟩
    clear g0J g1J g0K g1K
    have HP_21 := Lib.hid (HP_20.out.trans (hb.mono HP_20.out.size))
    have Pg_21 := Lib.hid (Pg_20.out.below hb)
    have Gg_21 := Lib.hid (Gg_20.out.below hb)
    have IA_21 := Lib.hid (IA_20.out.below hb)
    have IB_21 := Lib.hid (IB_20.out.below hb)
    have IC_21 := Lib.hid (IC_20.out.below hb)
    have ID_21 := Lib.hid (ID_20.out.below hb)
    have Ph_21 := Lib.hid (Ph_20.out.below hb)
    have Gh_21 := Lib.hid (Gh_20.out.below hb)
    have PE_21 := Lib.hid (PE_20.out.below hb)
    have GE_21 := Lib.hid (GE_20.out.below hb)
    have PF_21 := Lib.hid (PF_20.out.below hb)
    have GF_21 := Lib.hid (GF_20.out.below hb)
    have Pd_21 := Lib.hid (Pd_20.out.below hb)
    have Gd_21 := Lib.hid (Gd_20.out.below hb)
    have PJ_21 := Lib.hid (PJ_20.out.below hb)
    have GJ_21 := Lib.hid (GJ_20.out.below hb)
    have PK_21 := Lib.hid (PK_20.out.below hb)
    have GK_21 := Lib.hid (GK_20.out.below hb)
    clear HP_20 Pg_20 Gg_20 IA_20 IB_20 IC_20 ID_20 Ph_20 Gh_20 PE_20 GE_20 PF_20 GF_20 Pd_20 Gd_20 PJ_20 GJ_20 PK_20 GK_20
    clear hb
    by_cases hc3 : c3 = 0
    · subst hc3
      obtain ⟨I, hi2, hIl, hback⟩ := V.chg_backR H3.out
      subst hi2
      obtain ⟨pb, off, p0, p1, p2, p3, hbb, hpl, hp, u0, u1, u2, u3⟩ := Ph_21.out.at I (by rw [← HL2.out]; exact hIl)
      injection hbb with hbb
      injection hbb with z1 z2
      subst z1 z2
      rw [hp] at hback
      rw [Nat.zero_add] at u2 u3
      have hIn : I < n2 := by rw [← HL2.out]; exact hIl
      have hIi : (I : Int) < (n2 : Int) := by omega
      have HCM : Hid (∀ w, V.Pls w bE nE L3 → Calls Try.prog 24 #[.agg #[.int .i64 e3, .slice bE nE cE], .int .i64 I, .int .i64 p2, .int .i64 p3] w (V.GL x2 l2 0 w)) := fun w hh => by have := V.changePlace e3 bE nE cE L3 I p2 p3 w hh; rw [hback] at this; exact this
      clear hp hback hpl u0 u1
      have HS0 : Hid (∀ w', Below w_21.heap.size w_21 w' → w'.cell? ⟨kE, 0, none⟩ = some (.int .i64 e3) ∧ w'.cell? ⟨kE, 1, none⟩ = some (.slice bE nE cE) ∧ w'.cell? ⟨kh, 1, none⟩ = some (.slice (some ⟨q2, 0, none⟩) n2 cc2) ∧ w'.cell? ⟨q2, I * 4 + 2, none⟩ = some (.int .i64 p2) ∧ w'.cell? ⟨q2, I * 4 + 3, none⟩ = some (.int .i64 p3) ∧ Below w_21.heap.size w_21 w') := fun w' hb' => ⟨(GE_21.out.below hb').1, (GE_21.out.below hb').2, (Gh_21.out.below hb').2, (hb'.cell (V.cell_lt u2)).trans u2, (hb'.cell (V.cell_lt u3)).trans u3, hb'⟩
      go_upto_region 17 with fail
      go_cut [27, 28] (fun s6 s7 wx => s7 = .int .i64 0 ∧ V.SRel w_21 wx s6 x2 l2)
      case first =>
        refine wp_region_held_drew (S := fun w' => w'.cell? ⟨kE, 0, none⟩ = some (.int .i64 e3) ∧ w'.cell? ⟨kE, 1, none⟩ = some (.slice bE nE cE) ∧ w'.cell? ⟨kh, 1, none⟩ = some (.slice (some ⟨q2, 0, none⟩) n2 cc2) ∧ w'.cell? ⟨q2, I * 4 + 2, none⟩ = some (.int .i64 p2) ∧ w'.cell? ⟨q2, I * 4 + 3, none⟩ = some (.int .i64 p3) ∧ Below w_21.heap.size w_21 w') (by kernel_rfl) ?hS (fun hHeld => ?_)
        case hS => exact HS0.out _ (V.b_draws w_21 1)
        refine wpAnyH_take (i := 0) (v := ?v0) rfl (by kernel_rfl) (by kernel_rfl) (by kernel_rfl) (fun _ _ _ h => h) (Or.inl ⟨by rfl, ?hy0⟩) (by assumption) ?rest0
        case hy0 => (intro wy hSw; (try dsimp only at hSw); obtain ⟨s0, s1, s2, s3, s4, s5⟩ := hSw; go_simp; try with_reducible rfl)
        (try simp only [Act.put, List.setIfInBounds_toArray, List.set_cons_zero, List.set_cons_succ])
        refine wpAnyH_take (i := 1) (v := ?v1) rfl (by kernel_rfl) (by kernel_rfl) (by kernel_rfl) (fun _ _ _ h => h) (Or.inl ⟨by rfl, ?hy1⟩) (by assumption) ?rest1
        case hy1 => (intro wy hSw; (try dsimp only at hSw); obtain ⟨s0, s1, s2, s3, s4, s5⟩ := hSw; go_simp; try with_reducible rfl)
        (try simp only [Act.put, List.setIfInBounds_toArray, List.set_cons_zero, List.set_cons_succ])
        refine wpAnyH_take (i := 2) (v := ?v2) rfl (by kernel_rfl) (by kernel_rfl) (by kernel_rfl) (fun _ _ _ h => h) (Or.inl ⟨by rfl, ?hy2⟩) (by assumption) ?rest2
        case hy2 => (intro wy hSw; (try dsimp only at hSw); obtain ⟨s0, s1, s2, s3, s4, s5⟩ := hSw; go_simp; try with_reducible rfl)
        (try simp only [Act.put, List.setIfInBounds_toArray, List.set_cons_zero, List.set_cons_succ])
        refine wpAnyH_take (i := 3) (v := ?v3) rfl (by kernel_rfl) (by kernel_rfl) (by kernel_rfl) (fun _ _ _ h => h) (Or.inl ⟨by rfl, ?hy3⟩) (by assumption) ?rest3
        case hy3 => (intro wy hSw; (try dsimp only at hSw); obtain ⟨s0, s1, s2, s3, s4, s5⟩ := hSw; go_simp; try with_reducible rfl)
        (try simp only [Act.put, List.setIfInBounds_toArray, List.set_cons_zero, List.set_cons_succ])
        refine wpAnyH_take (i := 4) (v := ?v4) rfl (by kernel_rfl) (by kernel_rfl) (by kernel_rfl) (fun _ _ _ h => h) (Or.inl ⟨by rfl, ?hy4⟩) (by assumption) ?rest4
        case hy4 => (intro wy hSw; (try dsimp only at hSw); obtain ⟨s0, s1, s2, s3, s4, s5⟩ := hSw; go_simp; try with_reducible rfl)
        (try simp only [Act.put, List.setIfInBounds_toArray, List.set_cons_zero, List.set_cons_succ])
        refine wpAnyH_take (i := 5) (v := ?v5) rfl (by kernel_rfl) (by kernel_rfl) (by kernel_rfl) (fun _ _ _ h => h) (Or.inl ⟨by rfl, ?hy5⟩) (by assumption) ?rest5
        case hy5 => (intro wy hSw; (try dsimp only at hSw); obtain ⟨s0, s1, s2, s3, s4, s5⟩ := hSw; go_simp; try with_reducible rfl)
        (try simp only [Act.put, List.setIfInBounds_toArray, List.set_cons_zero, List.set_cons_succ])
        refine wpAnyH_take (i := 6) (v := ?v6) rfl (by kernel_rfl) (by kernel_rfl) (by kernel_rfl) (fun _ _ _ h => h) (Or.inl ⟨by rfl, ?hy6⟩) (by assumption) ?rest6
        case hy6 => (intro wy hSw; (try dsimp only at hSw); obtain ⟨s0, s1, s2, s3, s4, s5⟩ := hSw; go_simp; try with_reducible rfl)
        (try simp only [Act.put, List.setIfInBounds_toArray, List.set_cons_zero, List.set_cons_succ])
        refine wpAnyH_take (i := 7) (v := ?v7) rfl (by kernel_rfl) (by kernel_rfl) (by kernel_rfl) (fun _ _ _ h => h) (Or.inl ⟨by rfl, ?hy7⟩) (by assumption) ?rest7
        case hy7 => (intro wy hSw; (try dsimp only at hSw); obtain ⟨s0, s1, s2, s3, s4, s5⟩ := hSw; go_simp; try with_reducible rfl)
        (try simp only [Act.put, List.setIfInBounds_toArray, List.set_cons_zero, List.set_cons_succ])
        refine wpAnyH_take (i := 8) (v := ?v8) rfl (by kernel_rfl) (by kernel_rfl) (by kernel_rfl) (fun _ _ _ h => h) (Or.inl ⟨by rfl, ?hy8⟩) (by assumption) ?rest8
        case hy8 => (intro wy hSw; (try dsimp only at hSw); obtain ⟨s0, s1, s2, s3, s4, s5⟩ := hSw; go_simp; try with_reducible rfl)
        (try simp only [Act.put, List.setIfInBounds_toArray, List.set_cons_zero, List.set_cons_succ])
        refine wpAnyH_take (i := 9) (v := ?v9) rfl (by kernel_rfl) (by kernel_rfl) (by kernel_rfl) (fun _ _ _ h => h) (Or.inl ⟨by rfl, ?hy9⟩) (by assumption) ?rest9
        case hy9 => (intro wy hSw; (try dsimp only at hSw); obtain ⟨s0, s1, s2, s3, s4, s5⟩ := hSw; go_simp; try with_reducible rfl)
        (try simp only [Act.put, List.setIfInBounds_toArray, List.set_cons_zero, List.set_cons_succ])
        refine wpAnyH_take (i := 10) (v := ?v10) rfl (by kernel_rfl) (by kernel_rfl) (by kernel_rfl) (fun _ _ _ h => h) (Or.inl ⟨by rfl, ?hy10⟩) (by assumption) ?rest10
        case hy10 => (intro wy hSw; (try dsimp only at hSw); obtain ⟨s0, s1, s2, s3, s4, s5⟩ := hSw; go_simp; try with_reducible rfl)
        (try simp only [Act.put, List.setIfInBounds_toArray, List.set_cons_zero, List.set_cons_succ])
        refine wpAnyH_take (i := 11) (v := ?v11) rfl (by kernel_rfl) (by kernel_rfl) (by kernel_rfl) (fun _ _ _ h => h) (Or.inl ⟨by rfl, ?hy11⟩) (by assumption) ?rest11
        case hy11 => (intro wy hSw; (try dsimp only at hSw); obtain ⟨s0, s1, s2, s3, s4, s5⟩ := hSw; go_simp; try with_reducible rfl)
        (try simp only [Act.put, List.setIfInBounds_toArray, List.set_cons_zero, List.set_cons_succ])
        refine wpAnyH_take (i := 12) (v := ?v12) rfl (by kernel_rfl) (by kernel_rfl) (by kernel_rfl) (fun _ _ _ h => h) (Or.inl ⟨by rfl, ?hy12⟩) (by assumption) ?rest12
        case hy12 => (intro wy hSw; (try dsimp only at hSw); obtain ⟨s0, s1, s2, s3, s4, s5⟩ := hSw; go_simp; try with_reducible rfl)
        (try simp only [Act.put, List.setIfInBounds_toArray, List.set_cons_zero, List.set_cons_succ])
        refine wpAnyH_take (i := 13) (v := ?v13) rfl (by kernel_rfl) (by kernel_rfl) (by kernel_rfl) (fun _ _ _ h => h) (Or.inl ⟨by rfl, ?hy13⟩) (by assumption) ?rest13
        case hy13 => (intro wy hSw; (try dsimp only at hSw); obtain ⟨s0, s1, s2, s3, s4, s5⟩ := hSw; go_simp; try with_reducible rfl)
        (try simp only [Act.put, List.setIfInBounds_toArray, List.set_cons_zero, List.set_cons_succ])
        refine wpAnyH_ready (rs := [14, 18]) (by kernel_rfl) (by simp) (AllReadyH.cons rfl (fun K hK => ?a14) (AllReadyH.cons rfl (fun K hK => ?a18) AllReadyH.nil))
        case a14 =>
          go_simp
          refine (HCM.out _ (PE_21.out.below (V.b_draws w_21 1))).mono ?_
          rintro e wv ⟨bM, nM, cM, rfl, ho3, hb3⟩
          have HZ3 := Lib.hid ((V.b_draws w_21 1).trans hb3)
          have y4 := hb3.size
          have HO3 := Lib.hid ho3
          clear ho3 hb3
          refine hK.out _ _ (HS0.out _ HZ3.out) (fun hHeld => ?_)
          clear hK K
          (try simp only [Act.put, List.setIfInBounds_toArray, List.set_cons_zero, List.set_cons_succ])
          refine wpAnyH_take (i := 15) (v := ?vb15) rfl (by kernel_rfl) (by kernel_rfl) (by kernel_rfl) (fun _ _ _ h => h) (Or.inl ⟨by rfl, ?hyb15⟩) (by assumption) ?restb15
          case hyb15 => (intro wy hSw; (try dsimp only at hSw); obtain ⟨s0, s1, s2, s3, s4, s5⟩ := hSw; go_simp; try with_reducible rfl)
          (try simp only [Act.put, List.setIfInBounds_toArray, List.set_cons_zero, List.set_cons_succ])
          refine wpAnyH_take (i := 16) (v := ?vb16) rfl (by kernel_rfl) (by kernel_rfl) (by kernel_rfl) (fun _ _ _ h => h) (Or.inl ⟨by rfl, ?hyb16⟩) (by assumption) ?restb16
          case hyb16 => (intro wy hSw; (try dsimp only at hSw); obtain ⟨s0, s1, s2, s3, s4, s5⟩ := hSw; go_simp; try with_reducible rfl)
          (try simp only [Act.put, List.setIfInBounds_toArray, List.set_cons_zero, List.set_cons_succ])
          refine wpAnyH_take (i := 17) (v := ?vb17) rfl (by kernel_rfl) (by kernel_rfl) (by kernel_rfl) (fun _ _ _ h => h) (Or.inl ⟨by rfl, ?hyb17⟩) (by assumption) ?restb17
          case hyb17 => (intro wy hSw; (try dsimp only at hSw); obtain ⟨s0, s1, s2, s3, s4, s5⟩ := hSw; go_simp; try with_reducible rfl)
          (try simp only [Act.put, List.setIfInBounds_toArray, List.set_cons_zero, List.set_cons_succ])
          refine wpAnyH_ready (rs := [18]) (by kernel_rfl) (by simp) (AllReadyH.cons rfl (fun K hK => ?_) AllReadyH.nil)
          go_simp
          refine hK.out _ _ (HS0.out _ (HZ3.out.trans ((V.b_alloc wv _).mono HZ3.out.size))) (fun hHeld => ?_)
          clear hK K
          (try simp only [Act.put, List.setIfInBounds_toArray, List.set_cons_zero, List.set_cons_succ])
          refine wpAnyH_ready (rs := [19]) (by kernel_rfl) (by simp) (AllReadyH.cons rfl (fun K hK => ?_) AllReadyH.nil)
          go_simp
          refine hK.out _ _ (HS0.out _ (HZ3.out.trans ((V.b_alloc wv _).mono HZ3.out.size))) (fun hHeld => ?_)
          clear hK K
          (try simp only [Act.put, List.setIfInBounds_toArray, List.set_cons_zero, List.set_cons_succ])
          refine wpAnyH_ready (rs := [20]) (by kernel_rfl) (by simp) (AllReadyH.cons rfl (fun K hK => ?_) AllReadyH.nil)
          go_simp
          refine hK.out _ _ (HS0.out _ (HZ3.out.trans ((V.b_alloc wv _).mono HZ3.out.size))) (fun hHeld => ?_)
          clear hK K
          (try simp only [Act.put, List.setIfInBounds_toArray, List.set_cons_zero, List.set_cons_succ])
          refine wpAnyH_done (by kernel_rfl) ?_ _
          go_wp2_with fail
          go_meet
          exact ⟨rfl, V.sRel_new HO3.out (by first | omega | (simp; done) | (simp; omega)) y4 HZ3.out⟩
        case a18 =>
          go_simp
          have hal0 : Below w_21.heap.size w_21 (w_21.drew.alloc (.cells #[.int .i64 0, .slice none 0 0] 26)) := (V.b_draws w_21 1).trans (V.b_alloc w_21.drew _)
          refine hK.out _ _ (HS0.out _ hal0) (fun hHeld => ?_)
          clear hK K
          (try simp only [Act.put, List.setIfInBounds_toArray, List.set_cons_zero, List.set_cons_succ])
          refine wpAnyH_ready (rs := [14]) (by kernel_rfl) (by simp) (AllReadyH.cons rfl (fun K hK => ?_) AllReadyH.nil)
          go_simp
          refine (HCM.out _ (PE_21.out.below hal0)).mono ?_
          rintro e wv ⟨bM, nM, cM, rfl, ho3, hb3⟩
          have hk3 : V.ResG wv w_21.heap.size := V.ResG.below (V.resG_new w_21.drew 26) hb3
          obtain ⟨kd0, kd1, kd2, kd3⟩ := hk3
          have HZ3 := Lib.hid (hal0.trans (hb3.mono hal0.size))
          have y4 := hb3.size
          have HO3 := Lib.hid ho3
          clear ho3 hb3 hal0
          refine hK.out _ _ (HS0.out _ HZ3.out) (fun hHeld => ?_)
          clear hK K
          (try simp only [Act.put, List.setIfInBounds_toArray, List.set_cons_zero, List.set_cons_succ])
          refine wpAnyH_take (i := 15) (v := ?vc15) rfl (by kernel_rfl) (by kernel_rfl) (by kernel_rfl) (fun _ _ _ h => h) (Or.inl ⟨by rfl, ?hyc15⟩) (by assumption) ?restc15
          case hyc15 => (intro wy hSw; (try dsimp only at hSw); obtain ⟨s0, s1, s2, s3, s4, s5⟩ := hSw; go_simp; try with_reducible rfl)
          (try simp only [Act.put, List.setIfInBounds_toArray, List.set_cons_zero, List.set_cons_succ])
          refine wpAnyH_take (i := 16) (v := ?vc16) rfl (by kernel_rfl) (by kernel_rfl) (by kernel_rfl) (fun _ _ _ h => h) (Or.inl ⟨by rfl, ?hyc16⟩) (by assumption) ?restc16
          case hyc16 => (intro wy hSw; (try dsimp only at hSw); obtain ⟨s0, s1, s2, s3, s4, s5⟩ := hSw; go_simp; try with_reducible rfl)
          (try simp only [Act.put, List.setIfInBounds_toArray, List.set_cons_zero, List.set_cons_succ])
          refine wpAnyH_take (i := 17) (v := ?vc17) rfl (by kernel_rfl) (by kernel_rfl) (by kernel_rfl) (fun _ _ _ h => h) (Or.inl ⟨by rfl, ?hyc17⟩) (by assumption) ?restc17
          case hyc17 => (intro wy hSw; (try dsimp only at hSw); obtain ⟨s0, s1, s2, s3, s4, s5⟩ := hSw; go_simp; try with_reducible rfl)
          (try simp only [Act.put, List.setIfInBounds_toArray, List.set_cons_zero, List.set_cons_succ])
          refine wpAnyH_ready (rs := [19]) (by kernel_rfl) (by simp) (AllReadyH.cons rfl (fun K hK => ?_) AllReadyH.nil)
          go_simp
          refine hK.out _ _ (HS0.out _ ((HZ3.out.setCell (p := ⟨w_21.heap.size, 0, none⟩) (Nat.le_refl _) _).setCell (p := ⟨w_21.heap.size, 1, none⟩) (Nat.le_refl _) _)) (fun hHeld => ?_)
          clear hK K
          (try simp only [Act.put, List.setIfInBounds_toArray, List.set_cons_zero, List.set_cons_succ])
          refine wpAnyH_ready (rs := [20]) (by kernel_rfl) (by simp) (AllReadyH.cons rfl (fun K hK => ?_) AllReadyH.nil)
          go_simp
          refine hK.out _ _ (HS0.out _ ((HZ3.out.setCell (p := ⟨w_21.heap.size, 0, none⟩) (Nat.le_refl _) _).setCell (p := ⟨w_21.heap.size, 1, none⟩) (Nat.le_refl _) _)) (fun hHeld => ?_)
          clear hK K
          (try simp only [Act.put, List.setIfInBounds_toArray, List.set_cons_zero, List.set_cons_succ])
          refine wpAnyH_done (by kernel_rfl) ?_ _
          go_wp2_with fail
          go_meet
          exact ⟨rfl, V.sRel_old ⟨kd0, kd1, kd2, kd3⟩ (by omega) (by first | omega | (simp; done) | (simp; omega)) y4 HO3.out HZ3.out⟩
      case rest =>
        obtain ⟨w_22, hw_22⟩ : ∃ z, z = wc := ⟨_, rfl⟩
        subst hw_22
        obtain ⟨rfl, hS⟩ := hcut
        obtain ⟨kM, bM, nM, cM, MB, Mw, rfl, hbx, hs1, hB, hB2, hO, hz, hSm, hnb, hbM⟩ := hS
        have hplM := (hO.keep hSm).pls
        clear hs1 hB hB2 hO hz hSm hnb HS0
        have HP_22 := Lib.hid (HP_21.out.trans (hbM.mono HP_21.out.size))
        have Pg_22 := Lib.hid (Pg_21.out.below hbM)
        have Gg_22 := Lib.hid (Gg_21.out.below hbM)
        have IA_22 := Lib.hid (IA_21.out.below hbM)
        have IB_22 := Lib.hid (IB_21.out.below hbM)
        have IC_22 := Lib.hid (IC_21.out.below hbM)
        have ID_22 := Lib.hid (ID_21.out.below hbM)
        have Ph_22 := Lib.hid (Ph_21.out.below hbM)
        have Gh_22 := Lib.hid (Gh_21.out.below hbM)
        have PE_22 := Lib.hid (PE_21.out.below hbM)
        have GE_22 := Lib.hid (GE_21.out.below hbM)
        have PF_22 := Lib.hid (PF_21.out.below hbM)
        have GF_22 := Lib.hid (GF_21.out.below hbM)
        have Pd_22 := Lib.hid (Pd_21.out.below hbM)
        have Gd_22 := Lib.hid (Gd_21.out.below hbM)
        have PJ_22 := Lib.hid (PJ_21.out.below hbM)
        have GJ_22 := Lib.hid (GJ_21.out.below hbM)
        have PK_22 := Lib.hid (PK_21.out.below hbM)
        have GK_22 := Lib.hid (GK_21.out.below hbM)
        clear HP_21 Pg_21 Gg_21 IA_21 IB_21 IC_21 ID_21 Ph_21 Gh_21 PE_21 GE_21 PF_21 GF_21 Pd_21 Gd_21 PJ_21 GJ_21 PK_21 GK_21
        have PM_22 : Hid (V.Pls w_22 bM nM l2) := hplM
        have GM_22 : Hid (V.GBox w_22 kM x2 bM nM cM) := hbx
        clear hbM hplM hbx
        clear u2 u3 hIl hIn hIi
        obtain rfl : nM = n2 := by have q1 := PM_22.out.1; have q2 := HL2.out; omega
        have hal_M := GM_22.out
        obtain ⟨g0M, g1M⟩ := hal_M
        have hal_h := Gh_22.out
        obtain ⟨g0h, g1h⟩ := hal_h
        go_wp2_with fail
        refine (V.likeGraphs x2 _ _ _ _ _ l2 _ PM_22.out Ph_22.out).mono ?_
        rintro e w_23 ⟨rfl, hb⟩
        clear g0M g1M g0h g1h
        have HP_23 := Lib.hid (HP_22.out.trans (hb.mono HP_22.out.size))
        have Pg_23 := Lib.hid (Pg_22.out.below hb)
        have Gg_23 := Lib.hid (Gg_22.out.below hb)
        have IA_23 := Lib.hid (IA_22.out.below hb)
        have IB_23 := Lib.hid (IB_22.out.below hb)
        have IC_23 := Lib.hid (IC_22.out.below hb)
        have ID_23 := Lib.hid (ID_22.out.below hb)
        have Ph_23 := Lib.hid (Ph_22.out.below hb)
        have Gh_23 := Lib.hid (Gh_22.out.below hb)
        have PE_23 := Lib.hid (PE_22.out.below hb)
        have GE_23 := Lib.hid (GE_22.out.below hb)
        have PF_23 := Lib.hid (PF_22.out.below hb)
        have GF_23 := Lib.hid (GF_22.out.below hb)
        have Pd_23 := Lib.hid (Pd_22.out.below hb)
        have Gd_23 := Lib.hid (Gd_22.out.below hb)
        have PJ_23 := Lib.hid (PJ_22.out.below hb)
        have GJ_23 := Lib.hid (GJ_22.out.below hb)
        have PK_23 := Lib.hid (PK_22.out.below hb)
        have GK_23 := Lib.hid (GK_22.out.below hb)
        have PM_23 := Lib.hid (PM_22.out.below hb)
        have GM_23 := Lib.hid (GM_22.out.below hb)
        clear HP_22 Pg_22 Gg_22 IA_22 IB_22 IC_22 ID_22 Ph_22 Gh_22 PE_22 GE_22 PF_22 GF_22 Pd_22 Gd_22 PJ_22 GJ_22 PK_22 GK_22 PM_22 GM_22
        clear hb
        by_cases hc1 : c1 = 0
        · subst hc1
          obtain ⟨N, hxN, hgr, hn30⟩ := V.plc_gr H1.out
          subst hxN
          have HN30 : Hid (l.length ≤ 30) := hn30
          have HGr := Lib.hid hgr
          have HN10 := Lib.hid (V.gr_N hgr).2.1
          have HCA := Lib.hid (fun (e : Nat) (he : e < N) (w : World) (hh : V.Pls w (some ⟨q, 0, none⟩) n l) => V.placesInto_in c hgr he hh)
          have HCC := Lib.hid (fun (e : Nat) (he : e < N) (w : World) (hh : V.Pls w (some ⟨q, 0, none⟩) n l) => V.placesFrom_in c hgr he hh)
          clear hgr hn30
          obtain ⟨g0g, g1g⟩ := Gg_23.out
          go_wp2
          clear g0g g1g
          go_loopw [29, 30] (fun sv kv wr => ∃ e : Nat, e ≤ N ∧ kv = .int .i64 e ∧ sv = .int .i64 ((M.evS M.pTo l n e + M.evS M.pFrom l n e : Nat) : Int) ∧ Hid (Below w_23.heap.size w_23 wr)) (fun _ kv _ => N - (intOf kv).toNat)
          case atStart => exact ⟨0, Nat.zero_le _, rfl, rfl, Below.refl _ _⟩
          case round =>
            obtain ⟨e, he, rfl, rfl, HBk⟩ := hrel
            obtain ⟨wo, rfl⟩ : ∃ x, x = wr := ⟨_, rfl⟩
            obtain ⟨g0, g1⟩ := Gg_23.out.below HBk.out
            have HPk := Lib.hid (Pg_23.out.below HBk.out)
            by_cases heN : e < N
            · have hei : (e : Int) < (N : Int) := by omega
              have hN10 := HN10.out
              have HS : Hid (M.evS M.pTo l n (e + 1) = M.evS M.pTo l n e + (M.plcL M.pTo l (e : Int) l.length).length ∧ M.evS M.pFrom l n (e + 1) = M.evS M.pFrom l n e + (M.plcL M.pFrom l (e : Int) l.length).length) := by have q := HLl.out; show _ ∧ _; rw [q]; exact ⟨rfl, rfl⟩
              obtain ⟨s1, hs1⟩ : ∃ s, s = M.evS M.pTo l n e := ⟨_, rfl⟩
              obtain ⟨s2, hs2⟩ : ∃ s, s = M.evS M.pFrom l n e := ⟨_, rfl⟩
              have hs1b : s1 ≤ 30 * e := by have q := M.evS_le M.pTo l n e; have q2 := HN30.out; have q3 := HLl.out; rw [hs1]; exact Nat.le_trans q (Nat.mul_le_mul_right e (by omega))
              have hs2b : s2 ≤ 30 * e := by have q := M.evS_le M.pFrom l n e; have q2 := HN30.out; have q3 := HLl.out; rw [hs2]; exact Nat.le_trans q (Nat.mul_le_mul_right e (by omega))
              rw [← hs1, ← hs2] at HS ⊢
              clear hs1 hs2
              obtain ⟨M1, hM1⟩ : ∃ s, s = M.plcL M.pTo l (e : Int) l.length := ⟨_, rfl⟩
              obtain ⟨M2, hM2⟩ : ∃ s, s = M.plcL M.pFrom l (e : Int) l.length := ⟨_, rfl⟩
              have HD1 := Lib.hid (HCA.out e heN)
              have HD2 := Lib.hid (HCC.out e heN)
              have hm1b : M1.length ≤ 30 := by rw [hM1]; exact Nat.le_trans (M.plcL_len _ _ _ _) HN30.out
              have hm2b : M2.length ≤ 30 := by rw [hM2]; exact Nat.le_trans (M.plcL_len _ _ _ _) HN30.out
              rw [← hM1] at HS HD1
              rw [← hM2] at HS HD2
              clear hM1 hM2
              have HM := Lib.hid (show M1.length ≤ 30 ∧ M2.length ≤ 30 ∧ s1 ≤ 300 ∧ s2 ≤ 300 by have q := HN10.out; exact ⟨hm1b, hm2b, by omega, by omega⟩)
              clear hm1b hm2b hs1b hs2b
              go_wp2_with fail
              refine (HD1.out _ HPk.out).mono ?_
              rintro _ w_a ⟨ba, na, ca, rfl, ho, hb⟩
              have HBa := Lib.hid (HBk.out.trans (hb.mono HBk.out.size))
              have HPa := Lib.hid (HPk.out.below hb)
              have HLa : Hid (na = M1.length) := ho.len
              clear ho hb g0 g1
              obtain ⟨g0, g1⟩ := Gg_23.out.below HBa.out
              go_wp2_with fail
              refine (HD2.out _ HPa.out).mono ?_
              rintro _ w_b ⟨bb, nb, cb, rfl, ho, hb⟩
              have HBb := Lib.hid (HBa.out.trans (hb.mono HBa.out.size))
              have HLb : Hid (nb = M2.length) := ho.len
              clear ho hb g0 g1
              obtain ⟨t1, t2, t3, t4⟩ := HM.out
              have hna : na ≤ 30 := by have q := HLa.out; omega
              have hnb : nb ≤ 30 := by have q := HLb.out; omega
              clear t1 t2
              have hw1 : wrap64 (((s1 + s2 : Nat) : Int) + (na : Int)) = ((s1 + s2 + na : Nat) : Int) := by rw [IntWalk.wrap64_in _ ⟨by omega, by omega⟩]; omega
              have hw2 : wrap64 (((s1 + s2 + na : Nat) : Int) + (nb : Int)) = ((s1 + s2 + na + nb : Nat) : Int) := by rw [IntWalk.wrap64_in _ ⟨by omega, by omega⟩]; omega
              go_wp2
              go_roundw
              case rel =>
                refine ⟨e + 1, by omega, by go_num, ?_, HBb⟩
                rw [HS.out.1, HS.out.2, ← HLa.out, ← HLb.out]
                first
                  | (congr 1; omega)
                  | (go_num; omega)
              case measure => simp [intOf]; omega
            · obtain rfl : e = N := by omega
              have HE : Hid (M.evS M.pTo l n e + M.evS M.pFrom l n e = 2 * n) := by have q := HLl.out; have q2 := M.evS_gr HGr.out; rw [q] at q2; exact q2
              rw [HE.out]
              have hn30 : n ≤ 30 := by have q := HLl.out; have q2 := HN30.out; omega
              go_wp2
              go_ret
              exact ⟨by first | rfl | simp | (congr 2; simp), (HW.out.trans (HP_23.out.mono HW.out.size)).trans (HBk.out.mono (Nat.le_trans HW.out.size HP_23.out.size))⟩
        · have hc1' : (c1 == 0) = false := by simpa using hc1
          have hc2' : (c1 != 0) = true := by simpa using hc1
          go_wp2
          go_ret
          exact ⟨rfl, HW.out.trans (HP_23.out.mono HW.out.size)⟩
    · have hc3' : (c3 == 0) = false := by simpa using hc3
      by_cases hc1 : c1 = 0
      · subst hc1
        obtain ⟨N, hxN, hgr, hn30⟩ := V.plc_gr H1.out
        subst hxN
        have HN30 : Hid (l.length ≤ 30) := hn30
        have HGr := Lib.hid hgr
        have HN10 := Lib.hid (V.gr_N hgr).2.1
        have HCA := Lib.hid (fun (e : Nat) (he : e < N) (w : World) (hh : V.Pls w (some ⟨q, 0, none⟩) n l) => V.placesInto_in c hgr he hh)
        have HCC := Lib.hid (fun (e : Nat) (he : e < N) (w : World) (hh : V.Pls w (some ⟨q, 0, none⟩) n l) => V.placesFrom_in c hgr he hh)
        clear hgr hn30
        obtain ⟨g0g, g1g⟩ := Gg_21.out
        go_wp2
        clear g0g g1g
        go_loopw [29, 30] (fun sv kv wr => ∃ e : Nat, e ≤ N ∧ kv = .int .i64 e ∧ sv = .int .i64 ((M.evS M.pTo l n e + M.evS M.pFrom l n e : Nat) : Int) ∧ Hid (Below w_21.heap.size w_21 wr)) (fun _ kv _ => N - (intOf kv).toNat)
        case atStart => exact ⟨0, Nat.zero_le _, rfl, rfl, Below.refl _ _⟩
        case round =>
          obtain ⟨e, he, rfl, rfl, HBk⟩ := hrel
          obtain ⟨wo, rfl⟩ : ∃ x, x = wr := ⟨_, rfl⟩
          obtain ⟨g0, g1⟩ := Gg_21.out.below HBk.out
          have HPk := Lib.hid (Pg_21.out.below HBk.out)
          by_cases heN : e < N
          · have hei : (e : Int) < (N : Int) := by omega
            have hN10 := HN10.out
            have HS : Hid (M.evS M.pTo l n (e + 1) = M.evS M.pTo l n e + (M.plcL M.pTo l (e : Int) l.length).length ∧ M.evS M.pFrom l n (e + 1) = M.evS M.pFrom l n e + (M.plcL M.pFrom l (e : Int) l.length).length) := by have q := HLl.out; show _ ∧ _; rw [q]; exact ⟨rfl, rfl⟩
            obtain ⟨s1, hs1⟩ : ∃ s, s = M.evS M.pTo l n e := ⟨_, rfl⟩
            obtain ⟨s2, hs2⟩ : ∃ s, s = M.evS M.pFrom l n e := ⟨_, rfl⟩
            have hs1b : s1 ≤ 30 * e := by have q := M.evS_le M.pTo l n e; have q2 := HN30.out; have q3 := HLl.out; rw [hs1]; exact Nat.le_trans q (Nat.mul_le_mul_right e (by omega))
            have hs2b : s2 ≤ 30 * e := by have q := M.evS_le M.pFrom l n e; have q2 := HN30.out; have q3 := HLl.out; rw [hs2]; exact Nat.le_trans q (Nat.mul_le_mul_right e (by omega))
            rw [← hs1, ← hs2] at HS ⊢
            clear hs1 hs2
            obtain ⟨M1, hM1⟩ : ∃ s, s = M.plcL M.pTo l (e : Int) l.length := ⟨_, rfl⟩
            obtain ⟨M2, hM2⟩ : ∃ s, s = M.plcL M.pFrom l (e : Int) l.length := ⟨_, rfl⟩
            have HD1 := Lib.hid (HCA.out e heN)
            have HD2 := Lib.hid (HCC.out e heN)
            have hm1b : M1.length ≤ 30 := by rw [hM1]; exact Nat.le_trans (M.plcL_len _ _ _ _) HN30.out
            have hm2b : M2.length ≤ 30 := by rw [hM2]; exact Nat.le_trans (M.plcL_len _ _ _ _) HN30.out
            rw [← hM1] at HS HD1
            rw [← hM2] at HS HD2
            clear hM1 hM2
            have HM := Lib.hid (show M1.length ≤ 30 ∧ M2.length ≤ 30 ∧ s1 ≤ 300 ∧ s2 ≤ 300 by have q := HN10.out; exact ⟨hm1b, hm2b, by omega, by omega⟩)
            clear hm1b hm2b hs1b hs2b
            go_wp2_with fail
            refine (HD1.out _ HPk.out).mono ?_
            rintro _ w_a ⟨ba, na, ca, rfl, ho, hb⟩
            have HBa := Lib.hid (HBk.out.trans (hb.mono HBk.out.size))
            have HPa := Lib.hid (HPk.out.below hb)
            have HLa : Hid (na = M1.length) := ho.len
            clear ho hb g0 g1
            obtain ⟨g0, g1⟩ := Gg_21.out.below HBa.out
            go_wp2_with fail
            refine (HD2.out _ HPa.out).mono ?_
            rintro _ w_b ⟨bb, nb, cb, rfl, ho, hb⟩
            have HBb := Lib.hid (HBa.out.trans (hb.mono HBa.out.size))
            have HLb : Hid (nb = M2.length) := ho.len
            clear ho hb g0 g1
            obtain ⟨t1, t2, t3, t4⟩ := HM.out
            have hna : na ≤ 30 := by have q := HLa.out; omega
            have hnb : nb ≤ 30 := by have q := HLb.out; omega
            clear t1 t2
            have hw1 : wrap64 (((s1 + s2 : Nat) : Int) + (na : Int)) = ((s1 + s2 + na : Nat) : Int) := by rw [IntWalk.wrap64_in _ ⟨by omega, by omega⟩]; omega
            have hw2 : wrap64 (((s1 + s2 + na : Nat) : Int) + (nb : Int)) = ((s1 + s2 + na + nb : Nat) : Int) := by rw [IntWalk.wrap64_in _ ⟨by omega, by omega⟩]; omega
            go_wp2
            go_roundw
            case rel =>
              refine ⟨e + 1, by omega, by go_num, ?_, HBb⟩
              rw [HS.out.1, HS.out.2, ← HLa.out, ← HLb.out]
              first
                | (congr 1; omega)
                | (go_num; omega)
            case measure => simp [intOf]; omega
          · obtain rfl : e = N := by omega
            have HE : Hid (M.evS M.pTo l n e + M.evS M.pFrom l n e = 2 * n) := by have q := HLl.out; have q2 := M.evS_gr HGr.out; rw [q] at q2; exact q2
            rw [HE.out]
            have hn30 : n ≤ 30 := by have q := HLl.out; have q2 := HN30.out; omega
            go_wp2
            go_ret
            exact ⟨by first | rfl | simp | (congr 2; simp), (HW.out.trans (HP_21.out.mono HW.out.size)).trans (HBk.out.mono (Nat.le_trans HW.out.size HP_21.out.size))⟩
      · have hc1' : (c1 == 0) = false := by simpa using hc1
        have hc2' : (c1 != 0) = true := by simpa using hc1
        go_wp2
        go_ret
        exact ⟨rfl, HW.out.trans (HP_21.out.mono HW.out.size)⟩
end Go.Proofs.Ytphobmddkphofaa.fnPlaces
