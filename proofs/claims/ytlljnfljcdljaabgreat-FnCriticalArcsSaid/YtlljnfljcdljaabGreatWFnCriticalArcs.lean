/- The walk through the law: it returns true and writes nothing that was there. For every code: critical arcs, nodes and matrices, and whether a cycle is critical, are those of their models; a cycle is critical exactly if all of its arcs are, and critical arcs join critical nodes with their entry. -/
import Derived.Test.YtlljnfljcdljaabGreatRows
import Derived.Test.YtlljnfljcdljaabGreatQz2
import Derived.Test.YtlljnfljcdljaabGreatQz4
import Derived.Test.YtlljnfljcdljaabGreatQz5
import Derived.Test.YtlljnfljcdljaabGreatQz58
import Derived.Test.YtlljnfljcdljaabGreatQz53
import Derived.WalkKit
import Derived.ProofKit
import Derived.OpenShut
import Derived.ShutString
import Derived.ChangeOld
import Derived.Below
import Derived.Lib.SmallJoins
import Derived.Lib.Hide
import Derived.WalkSmall
import Derived.Deep.Draws
import Derived.Deep.QuietTactic
import Derived.BigQuiet
import Derived.Deep.OwnRows
import Derived.Deep.RegionWith
import Derived.Deep.RegionHeld3
set_option linter.unusedSimpArgs false
set_option linter.unusedVariables false
set_option linter.unusedSectionVars false
namespace Go.Proofs.YtlljnfljcdljaabGreat.fnCriticalArcs
open Go.ChangeShapes Go.WideShapes Go.ChangeAt Go.RowKit
open Go.ChangeMaps (open_string shut_string)
set_option linter.unusedVariables false

set_option maxRecDepth 100000 in
set_option maxHeartbeats 4000000 in
theorem walk (a0 : Option Addr) (len0 cap0 : Nat) (z0 : List Int) (w : World) (w0 : V.IsRow .u8 w a0 len0 cap0 z0) :
    Calls Tryz.prog 4 #[.slice a0 len0 cap0] w fun e w' => e = .returned (.bool true) ∧ Below w.heap.size w w' := by
  have hB := w0.bytes
  have hm := hB.1
  by_cases hbig : 4096 < len0
  · have hd : decide (4096 < len0) = true := by simpa using hbig
    clear hB w0
    go_enter Tryz.func4, Tryz.ntmps4
    go_wp2_with (first | (go_at_call 12; refine (V.big _ _ _ _ hm).mono ?_; rintro e w' ⟨rfl, rfl⟩))
    go_ret
    exact ⟨rfl, Below.refl _ _⟩
  · have hd : decide (4096 < len0) = false := by simpa using hbig
    clear w0
    have HB := Lib.hid hB
    clear hB
    go_enter Tryz.func4, Tryz.ntmps4
    go_wp2_with (go_at_call 12; refine (V.big _ _ _ _ hm).mono ?_; rintro e w' ⟨rfl, rfl⟩)
    refine (V.drawCriticalArcs _ _ _ _ HB.out).mono ?_
    rintro e w1 ⟨a, n, cap, R, rfl, hA, hb⟩
    have HA_1 := Lib.hid hA
    have HP_1 := Lib.hid hb
    clear hb hA
    obtain ⟨lv, hlv⟩ : ∃ v, v = M.arcsRes R := ⟨_, rfl⟩
    have HARC := Lib.hid hlv
    obtain ⟨nv, hnv⟩ : ∃ v, v = M.nodesRes R := ⟨_, rfl⟩
    have HNOD := Lib.hid hnv
    obtain ⟨xv, hxv⟩ : ∃ v, v = M.matRes R := ⟨_, rfl⟩
    have HMAT := Lib.hid hxv
    have hal := M.arcsRes_ok R
    rw [← hlv] at hal
    have HAL := Lib.hid hal.2
    clear hal hlv hnv hxv
    obtain ⟨L, lc⟩ := lv
    obtain ⟨N, nc⟩ := nv
    obtain ⟨X, xc⟩ := xv
    have hlw : lc = 0 → _ := fun h => M.ca_law (R := R) (L := L) (N := N) (X := X) (by rw [← h]; exact HARC.out.symm) HNOD.out.symm HMAT.out.symm
    have HLaw := Lib.hid hlw
    clear hlw
    go_wp2_with fail
    refine (V.criticalArcsX _ _ _ R _ HA_1.out).mono ?_
    rintro e w2 ⟨la, ln, lcap, rfl, ho, hb⟩
    rw [← HARC.out] at ho ⊢
    have hln : ln = L.length := ho.len
    have HLn := Lib.hid hln
    clear hln
    have HL_2 := Lib.hid (ho.mat)
    have HA_2 := Lib.hid (HA_1.out.below hb)
    have HP_2 := Lib.hid (V.bnext HP_1.out hb)
    clear HA_1 HP_1
    clear hb ho
    go_wp2_with fail
    refine (V.sCriticalArcs _ _ _ R _ HA_2.out).mono ?_
    rintro e w3 ⟨la2, ln2, lcap2, rfl, ho, hb⟩
    rw [← HARC.out] at ho ⊢
    have HM_3 := Lib.hid (ho.mat)
    have HA_3 := Lib.hid (HA_2.out.below hb)
    have HL_3 := Lib.hid (HL_2.out.below hb)
    have HP_3 := Lib.hid (V.bnext HP_2.out hb)
    clear HA_2 HL_2 HP_2
    clear hb ho
    go_wp2_with fail
    refine (V.criticalNodesX _ _ _ R _ HA_3.out).mono ?_
    rintro e w4 ⟨na, nn, ncap, rfl, ho, hb⟩
    rw [← HNOD.out] at ho ⊢
    have HN_4 := Lib.hid (ho.ints')
    have HA_4 := Lib.hid (HA_3.out.below hb)
    have HL_4 := Lib.hid (HL_3.out.below hb)
    have HM_4 := Lib.hid (HM_3.out.below hb)
    have HP_4 := Lib.hid (V.bnext HP_3.out hb)
    clear HA_3 HL_3 HM_3 HP_3
    clear hb ho
    go_wp2_with fail
    refine (V.sCriticalNodes _ _ _ R _ HA_4.out).mono ?_
    rintro e w5 ⟨na2, nn2, ncap2, rfl, ho, hb⟩
    rw [← HNOD.out] at ho ⊢
    have HO_5 := Lib.hid (ho.ints')
    have HA_5 := Lib.hid (HA_4.out.below hb)
    have HL_5 := Lib.hid (HL_4.out.below hb)
    have HM_5 := Lib.hid (HM_4.out.below hb)
    have HN_5 := Lib.hid (HN_4.out.below hb)
    have HP_5 := Lib.hid (V.bnext HP_4.out hb)
    clear HA_4 HL_4 HM_4 HN_4 HP_4
    clear hb ho
    go_wp2_with fail
    refine (V.criticalMatrix _ _ _ R _ HA_5.out).mono ?_
    rintro e w6 ⟨xa, xn, xcap, rfl, ho, hb⟩
    rw [← HMAT.out] at ho ⊢
    have HX_6 := Lib.hid (ho.mat)
    have HA_6 := Lib.hid (HA_5.out.below hb)
    have HL_6 := Lib.hid (HL_5.out.below hb)
    have HM_6 := Lib.hid (HM_5.out.below hb)
    have HN_6 := Lib.hid (HN_5.out.below hb)
    have HO_6 := Lib.hid (HO_5.out.below hb)
    have HP_6 := Lib.hid (V.bnext HP_5.out hb)
    clear HA_5 HL_5 HM_5 HN_5 HO_5 HP_5
    clear hb ho
    go_wp2_with fail
    refine (V.sCriticalMatrix _ _ _ R _ HA_6.out).mono ?_
    rintro e w7 ⟨xa2, xn2, xcap2, rfl, ho, hb⟩
    rw [← HMAT.out] at ho ⊢
    have HZ_7 := Lib.hid (ho.mat)
    have HA_7 := Lib.hid (HA_6.out.below hb)
    have HL_7 := Lib.hid (HL_6.out.below hb)
    have HM_7 := Lib.hid (HM_6.out.below hb)
    have HN_7 := Lib.hid (HN_6.out.below hb)
    have HO_7 := Lib.hid (HO_6.out.below hb)
    have HX_7 := Lib.hid (HX_6.out.below hb)
    have HP_7 := Lib.hid (V.bnext HP_6.out hb)
    clear HA_6 HL_6 HM_6 HN_6 HO_6 HX_6 HP_6
    clear hb ho
    go_wp2_with fail
    refine (V.drawIsCriticalCycle _ _ _ _ (HB.out.below HP_7.out)).mono ?_
    rintro e w8 ⟨ba, bn, bc, b, ya, yn, yc, y, rfl, hm, hi, hc1, hc2, hb⟩
    have HC1 := Lib.hid hc1
    have HC2 := Lib.hid hc2
    clear hc1 hc2
    have HBm_8 := Lib.hid (hm)
    have HY_8 := Lib.hid (hi)
    have HA_8 := Lib.hid (HA_7.out.below hb)
    have HL_8 := Lib.hid (HL_7.out.below hb)
    have HM_8 := Lib.hid (HM_7.out.below hb)
    have HN_8 := Lib.hid (HN_7.out.below hb)
    have HO_8 := Lib.hid (HO_7.out.below hb)
    have HX_8 := Lib.hid (HX_7.out.below hb)
    have HZ_8 := Lib.hid (HZ_7.out.below hb)
    have HP_8 := Lib.hid (V.bnext HP_7.out hb)
    clear HA_7 HL_7 HM_7 HN_7 HO_7 HX_7 HZ_7 HP_7
    clear hb hm hi
    obtain ⟨cv, hcv⟩ : ∃ v, v = M.isCritRes b y := ⟨_, rfl⟩
    have HCR := Lib.hid hcv
    clear hcv
    obtain ⟨ok, kc⟩ := cv
    go_wp2_with fail
    refine (V.isCriticalCycle _ _ _ b _ _ _ y _ HBm_8.out HY_8.out HC1.out HC2.out).mono ?_
    rintro e w9 ⟨rfl, hb⟩
    rw [← HCR.out]
    have HA_9 := Lib.hid (HA_8.out.below hb)
    have HL_9 := Lib.hid (HL_8.out.below hb)
    have HM_9 := Lib.hid (HM_8.out.below hb)
    have HN_9 := Lib.hid (HN_8.out.below hb)
    have HO_9 := Lib.hid (HO_8.out.below hb)
    have HX_9 := Lib.hid (HX_8.out.below hb)
    have HZ_9 := Lib.hid (HZ_8.out.below hb)
    have HBm_9 := Lib.hid (HBm_8.out.below hb)
    have HY_9 := Lib.hid (HY_8.out.below hb)
    have HP_9 := Lib.hid (V.bnext HP_8.out hb)
    clear HA_8 HL_8 HM_8 HN_8 HO_8 HX_8 HZ_8 HBm_8 HY_8 HP_8
    clear hb 
    go_wp2_with fail
    refine (V.sIsCriticalCycle _ _ _ b _ _ _ y _ HBm_9.out HY_9.out HC1.out HC2.out).mono ?_
    rintro e w10 ⟨rfl, hb⟩
    rw [← HCR.out]
    have HA_10 := Lib.hid (HA_9.out.below hb)
    have HL_10 := Lib.hid (HL_9.out.below hb)
    have HM_10 := Lib.hid (HM_9.out.below hb)
    have HN_10 := Lib.hid (HN_9.out.below hb)
    have HO_10 := Lib.hid (HO_9.out.below hb)
    have HX_10 := Lib.hid (HX_9.out.below hb)
    have HZ_10 := Lib.hid (HZ_9.out.below hb)
    have HBm_10 := Lib.hid (HBm_9.out.below hb)
    have HY_10 := Lib.hid (HY_9.out.below hb)
    have HP_10 := Lib.hid (V.bnext HP_9.out hb)
    clear HA_9 HL_9 HM_9 HN_9 HO_9 HX_9 HZ_9 HBm_9 HY_9 HP_9
    clear hb 
    have hoo : (ok != ok) = false := by simp
    go_wp2_with fail
    refine (V.likeM _ _ _ L _ _ _ _ HL_10.out HM_10.out).mono ?_
    rintro e w11 ⟨rfl, hb⟩
    have HA_11 := Lib.hid (HA_10.out.below hb)
    have HL_11 := Lib.hid (HL_10.out.below hb)
    have HM_11 := Lib.hid (HM_10.out.below hb)
    have HN_11 := Lib.hid (HN_10.out.below hb)
    have HO_11 := Lib.hid (HO_10.out.below hb)
    have HX_11 := Lib.hid (HX_10.out.below hb)
    have HZ_11 := Lib.hid (HZ_10.out.below hb)
    have HBm_11 := Lib.hid (HBm_10.out.below hb)
    have HY_11 := Lib.hid (HY_10.out.below hb)
    have HP_11 := Lib.hid (V.bnext HP_10.out hb)
    clear HA_10 HL_10 HM_10 HN_10 HO_10 HX_10 HZ_10 HBm_10 HY_10 HP_10
    clear hb 
    clear HM_11
    go_wp2_with fail
    refine (V.likeV _ _ _ N _ _ _ _ HN_11.out HO_11.out).mono ?_
    rintro e w12 ⟨rfl, hb⟩
    have HA_12 := Lib.hid (HA_11.out.below hb)
    have HL_12 := Lib.hid (HL_11.out.below hb)
    have HN_12 := Lib.hid (HN_11.out.below hb)
    have HO_12 := Lib.hid (HO_11.out.below hb)
    have HX_12 := Lib.hid (HX_11.out.below hb)
    have HZ_12 := Lib.hid (HZ_11.out.below hb)
    have HBm_12 := Lib.hid (HBm_11.out.below hb)
    have HY_12 := Lib.hid (HY_11.out.below hb)
    have HP_12 := Lib.hid (V.bnext HP_11.out hb)
    clear HA_11 HL_11 HN_11 HO_11 HX_11 HZ_11 HBm_11 HY_11 HP_11
    clear hb 
    clear HO_12
    go_wp2_with fail
    refine (V.likeM _ _ _ X _ _ _ _ HX_12.out HZ_12.out).mono ?_
    rintro e w13 ⟨rfl, hb⟩
    have HA_13 := Lib.hid (HA_12.out.below hb)
    have HL_13 := Lib.hid (HL_12.out.below hb)
    have HN_13 := Lib.hid (HN_12.out.below hb)
    have HX_13 := Lib.hid (HX_12.out.below hb)
    have HZ_13 := Lib.hid (HZ_12.out.below hb)
    have HBm_13 := Lib.hid (HBm_12.out.below hb)
    have HY_13 := Lib.hid (HY_12.out.below hb)
    have HP_13 := Lib.hid (V.bnext HP_12.out hb)
    clear HA_12 HL_12 HN_12 HX_12 HZ_12 HBm_12 HY_12 HP_12
    clear hb 
    clear HZ_13
    by_cases hkc : kc = 0
    · subst hkc
      obtain ⟨v1, hv1⟩ : ∃ v, v = M.isCycB b y := ⟨_, rfl⟩
      have HV1 := Lib.hid hv1.symm
      clear hv1
      cases v1 with
      | false =>
        go_wp2_with fail
        refine (V.isCycle_b _ _ _ b _ _ _ y _ false HV1.out HBm_13.out HY_13.out HC1.out HC2.out).mono ?_
        rintro e w14 ⟨rfl, hb⟩
        have HA_14 := Lib.hid (HA_13.out.below hb)
        have HL_14 := Lib.hid (HL_13.out.below hb)
        have HN_14 := Lib.hid (HN_13.out.below hb)
        have HX_14 := Lib.hid (HX_13.out.below hb)
        have HBm_14 := Lib.hid (HBm_13.out.below hb)
        have HY_14 := Lib.hid (HY_13.out.below hb)
        have HP_14 := Lib.hid (V.bnext HP_13.out hb)
        clear HA_13 HL_13 HN_13 HX_13 HBm_13 HY_13 HP_13
        clear hb 
        have hl100 : ln ≤ 100 := by have := HLn.out; have := HAL.out; omega
        have hli : ∀ j : Nat, ¬ j < ln → ¬ (j : Int) < (ln : Int) := fun j h => by omega
        go_wp2
        go_loopw [28] (fun iv wr => ∃ j : Nat, j ≤ ln ∧ iv = .int .i64 j ∧ Hid (Below w14.heap.size w14 wr)) (fun iv _ => ln - (intOf iv).toNat)
        case atStart => exact ⟨0, Nat.zero_le _, rfl, Below.refl _ _⟩
        case round =>
          obtain ⟨j, hj, rfl, HBj⟩ := hrel
          obtain ⟨wo, rfl⟩ : ∃ x, x = wr := ⟨_, rfl⟩
          by_cases hlc : lc = 0
          · subst hlc
            by_cases hlt : j < ln
            · have hji : (j : Int) < (ln : Int) := by omega
              obtain ⟨f, t, hf, ht, he, m1, m2, e1, e2, e3, e4⟩ := HLaw.out (by first | rfl | trivial) j (by have := HLn.out; omega)
              obtain ⟨lb, lo, ra, rc, Ln, l, rfl, -, hl, hcl, hIl⟩ := (HL_14.out.below HBj.out).at j hlt
              rw [he] at hl
              subst hl
              obtain rfl : Ln = 2 := hIl.1.symm
              obtain ⟨rb, ro, c0, rfl, -, h0, hc0⟩ := hIl.at 0 (by omega)
              obtain ⟨rb2, ro2, c1, hrb, -, h1, hc1⟩ := hIl.at 1 (by omega)
              injection hrb with hrb
              injection hrb with q1 q2
              subst q1 q2
              rw [Nat.add_zero] at hc0
              replace h0 : c0 = (f : Int) := h0
              replace h1 : c1 = (t : Int) := h1
              subst h0 h1
              have hxn : xn = R.length := by have := HX_14.out.1; omega
              have han : n = R.length := HA_14.out.1.symm
              obtain ⟨xb, xo, xra, xrc, Xn, xl, rfl, -, hxl, hcx, hIx⟩ := (HX_14.out.below HBj.out).at t (by omega)
              have hXn : Xn = R.length := by have := hIx.1; rw [hxl, e2] at this; exact this.symm
              obtain ⟨xq, xr, v, rfl, -, hv, hcv⟩ := hIx.at f (by omega)
              obtain ⟨ab, ao, ara, arc, An, al, rfl, -, hal, hca, hIa⟩ := (HA_14.out.below HBj.out).at t (by omega)
              have hAn : An = R.length := by have := hIa.1; rw [hal, e3] at this; exact this.symm
              obtain ⟨aq, ar, v2, rfl, -, hv2, hcv2⟩ := hIa.at f (by omega)
              obtain rfl : v = v2 := by rw [hv, hv2, hxl, hal]; exact e4
              have HNo := Lib.hid (HN_14.out.below HBj.out)
              have HM1 := Lib.hid m1
              have HM2 := Lib.hid m2
              have ht1 : (t : Int) < (xn : Int) := by omega
              have ht2 : (t : Int) < (n : Int) := by omega
              have hf1 : (f : Int) < (Xn : Int) := by omega
              have hf2 : (f : Int) < (An : Int) := by omega
              clear he m1 m2 e1 e2 e3 e4 hIl hIx hIa hv hv2 hxl hal hXn hAn hxn han hf ht hli
              go_wp2
              go_quiet ((go_at_call 24; first | exact V.q_one_s (V.hasInt _ _ _ N _ _ HNo.out HM1.out) | exact V.q_one_s (V.hasInt _ _ _ N _ _ HNo.out HM2.out) | exact V.q_more_s (V.hasInt _ _ _ N _ _ HNo.out HM1.out) | exact V.q_more_s (V.hasInt _ _ _ N _ _ HNo.out HM2.out)))
              go_wp2
              go_roundw
              case rel => exact ⟨j + 1, by omega, by go_num, V.bnext HBj.out (V.b_draws _ _)⟩
              case measure => simp [intOf]; omega
            · have hjn := hli j hlt
              go_wp2
              go_ret
              exact ⟨rfl, V.bnext HP_14.out HBj.out⟩
          · have hlcb : (lc == 0) = false := by simpa using hlc
            go_wp2
            go_ret
            exact ⟨rfl, V.bnext HP_14.out HBj.out⟩
      | true =>
        obtain ⟨O, hO, f1, f2, f3, f4, f5⟩ := M.cb_law HCR.out.symm HV1.out
        have HOO := Lib.hid hO
        have HF4 := Lib.hid f4
        have HF5 := Lib.hid f5
        clear hO f4 f5
        go_wp2_with fail
        refine (V.isCycle_b _ _ _ b _ _ _ y _ true HV1.out HBm_13.out HY_13.out HC1.out HC2.out).mono ?_
        rintro e w14 ⟨rfl, hb⟩
        have HA_14 := Lib.hid (HA_13.out.below hb)
        have HL_14 := Lib.hid (HL_13.out.below hb)
        have HN_14 := Lib.hid (HN_13.out.below hb)
        have HX_14 := Lib.hid (HX_13.out.below hb)
        have HBm_14 := Lib.hid (HBm_13.out.below hb)
        have HY_14 := Lib.hid (HY_13.out.below hb)
        have HP_14 := Lib.hid (V.bnext HP_13.out hb)
        clear HA_13 HL_13 HN_13 HX_13 HBm_13 HY_13 HP_13
        clear hb 
        go_wp2_with fail
        refine (V.criticalArcsX _ _ _ b _ HBm_14.out).mono ?_
        rintro e w15 ⟨oa, on, ocap, rfl, ho, hb⟩
        rw [HOO.out] at ho ⊢
        have hon : on = O.length := ho.len
        have HO_15 := Lib.hid (ho.mat)
        have HA_15 := Lib.hid (HA_14.out.below hb)
        have HL_15 := Lib.hid (HL_14.out.below hb)
        have HN_15 := Lib.hid (HN_14.out.below hb)
        have HX_15 := Lib.hid (HX_14.out.below hb)
        have HBm_15 := Lib.hid (HBm_14.out.below hb)
        have HY_15 := Lib.hid (HY_14.out.below hb)
        have HP_15 := Lib.hid (V.bnext HP_14.out hb)
        clear HA_14 HL_14 HN_14 HX_14 HBm_14 HY_14 HP_14
        clear hb ho
        have hyn : yn = y.length := HY_15.out.1.symm
        have HYn := Lib.hid hyn
        have hyn10 : yn ≤ 10 := by omega
        have hyn1 : 1 ≤ yn := by omega
        have HOn := Lib.hid hon
        have hon100 : on ≤ 100 := by omega
        clear hyn hon f1 f2 f3
        go_wp2
        go_loopw [24, 25] (fun av kv wr => ∃ (k : Nat) (ab : Bool), k ≤ yn ∧ kv = .int .i64 k ∧ av = .bool ab ∧ Hid (ab = true ↔ ∀ u, u < k → ∃ q, q < O.length ∧ O.getD q [] = [y.getD u 0, y.getD ((u + 1) % y.length) 0]) ∧ Hid (Below w15.heap.size w15 wr)) (fun _ kv _ => yn - (intOf kv).toNat)
        case atStart => exact ⟨0, true, Nat.zero_le _, rfl, rfl, by show _ ↔ _; simp, Below.refl _ _⟩
        case round =>
          obtain ⟨u, ab, hu, rfl, rfl, HAB, HBu⟩ := hrel
          obtain ⟨wu, rfl⟩ : ∃ x, x = wr := ⟨_, rfl⟩
          by_cases hlu : u < yn
          · have hui : (u : Int) < (yn : Int) := by omega
            obtain ⟨m, hm⟩ : ∃ m, m = (u + 1) % yn := ⟨_, rfl⟩
            have hmn : m < yn := by rw [hm]; exact Nat.mod_lt _ (by omega)
            have hmi : (m : Int) < (yn : Int) := by omega
            have hmod : ((u : Int) + 1) % (yn : Int) = (m : Int) := by rw [hm]; first | (push_cast; rfl) | simp | (rw [Int.natCast_emod]; rfl)
            have hmod2 : ((u : Int) + 1).tmod (yn : Int) = (m : Int) := by rw [Int.tmod_eq_emod_of_nonneg (by omega)]; exact hmod
            obtain ⟨yb, yo, x1, rfl, hyb, hx1, hcx1⟩ := HY_15.out.at u hlu
            obtain ⟨yb2, yo2, x2, hyy, -, hx2, hcx2⟩ := HY_15.out.at m hmn
            injection hyy with hyy
            injection hyy with q1 q2
            subst q1 q2
            have HCY : Hid (∀ W, Below w15.heap.size w15 W → W.cell? ⟨yb, yo + u, none⟩ = some (.int .i64 x1) ∧ W.cell? ⟨yb, yo + m, none⟩ = some (.int .i64 x2)) := fun W hW => ⟨V.ck hcx1 hW, V.ck hcx2 hW⟩
            have HPair : Hid ([y.getD u 0, y.getD ((u + 1) % y.length) 0] = [x1, x2]) := by show _ = _; rw [hx1, hx2, hm, HYn.out]
            clear hx1 hx2 hcx1 hcx2 hm hyb
            go_wp2
            go_loopw [26, 27] (fun fv iv wr => ∃ (i : Nat) (fb : Bool), i ≤ on ∧ iv = .int .i64 i ∧ fv = .bool fb ∧ Hid (fb = true ↔ ∃ q, q < i ∧ O.getD q [] = [x1, x2]) ∧ Hid (Below w15.heap.size w15 wr)) (fun _ iv _ => on - (intOf iv).toNat)
            case atStart => exact ⟨0, false, Nat.zero_le _, rfl, rfl, by show _ ↔ _; simp, HBu.out⟩
            case round =>
              obtain ⟨i, fb, hi, rfl, rfl, HFB, HBi⟩ := hrel
              obtain ⟨wi, rfl⟩ : ∃ x, x = wr := ⟨_, rfl⟩
              by_cases hli : i < on
              · have hii : (i : Int) < (on : Int) := by omega
                have hstep : (∃ q, q < i + 1 ∧ O.getD q [] = [x1, x2]) ↔ ((∃ q, q < i ∧ O.getD q [] = [x1, x2]) ∨ O.getD i [] = [x1, x2]) := by
                  constructor
                  · rintro ⟨q, h1, h2⟩
                    rcases Nat.lt_or_ge q i with e | e
                    · exact .inl ⟨q, e, h2⟩
                    · obtain rfl : q = i := by omega
                      exact .inr h2
                  · rintro (⟨q, h1, h2⟩ | h2)
                    · exact ⟨q, by omega, h2⟩
                    · exact ⟨i, by omega, h2⟩
                rw [← HFB.out] at hstep
                have HStep := Lib.hid hstep
                clear hstep
                cases fb with
                | true =>
                  have HF2 : Hid (true = true ↔ ∃ q, q < i + 1 ∧ O.getD q [] = [x1, x2]) := ⟨fun _ => HStep.out.2 (.inl rfl), fun _ => rfl⟩
                  go_wp2
                  go_quiet (fail)
                  go_wp2
                  go_roundw
                  case rel => exact ⟨i + 1, true, by omega, by go_num, rfl, (by show _ ↔ _; first | exact HF2.out | simpa using HF2.out), V.bnext HBi.out (V.b_draws _ _)⟩
                  case measure => simp [intOf]; omega
                | false =>
                  obtain ⟨f, t, he⟩ := HF4.out i (by have := HOn.out; omega)
                  obtain ⟨lb, lo, ra, rc, Ln, l, rfl, -, hl, hcl, hIl⟩ := (HO_15.out.below HBi.out).at i hli
                  rw [he] at hl
                  subst hl
                  obtain rfl : Ln = 2 := hIl.1.symm
                  obtain ⟨rb, ro, c0, rfl, -, h0, hc0⟩ := hIl.at 0 (by omega)
                  obtain ⟨rb2, ro2, c1, hrb, -, h1, hc1⟩ := hIl.at 1 (by omega)
                  injection hrb with hrb
                  injection hrb with q1 q2
                  subst q1 q2
                  rw [Nat.add_zero] at hc0
                  replace h0 : c0 = (f : Int) := h0
                  replace h1 : c1 = (t : Int) := h1
                  rw [he] at HStep
                  rw [← h0, ← h1] at HStep
                  obtain ⟨d1, d2⟩ := HCY.out _ HBi.out
                  clear h0 h1 he hIl
                  by_cases e1 : c0 = x1
                  · by_cases e2 : c1 = x2
                    · subst e1 e2
                      have HF2 : Hid (true = true ↔ ∃ q, q < i + 1 ∧ O.getD q [] = [c0, c1]) := ⟨fun _ => HStep.out.2 (.inr rfl), fun _ => rfl⟩
                      go_wp2
                      go_quiet (fail)
                      go_wp2
                      go_roundw
                      case rel => exact ⟨i + 1, true, by omega, by go_num, rfl, (by show _ ↔ _; first | exact HF2.out | simpa using HF2.out), V.bnext HBi.out (V.b_draws _ _)⟩
                      case measure => simp [intOf]; omega
                    · subst e1
                      have e3 : (c1 == x2) = false := by simpa using e2
                      have HF2 : Hid (false = true ↔ ∃ q, q < i + 1 ∧ O.getD q [] = [c0, x2]) := ⟨fun h => (Bool.noConfusion h), fun h => (HStep.out.1 h).elim id (fun q => absurd (List.cons.inj (List.cons.inj q).2).1 e2)⟩
                      go_wp2
                      go_quiet (fail)
                      go_wp2
                      go_roundw
                      case rel => exact ⟨i + 1, false, by omega, by go_num, rfl, (by show _ ↔ _; first | exact HF2.out | simpa using HF2.out), V.bnext HBi.out (V.b_draws _ _)⟩
                      case measure => simp [intOf]; omega
                  · have e3 : (c0 == x1) = false := by simpa using e1
                    have HF2 : Hid (false = true ↔ ∃ q, q < i + 1 ∧ O.getD q [] = [x1, x2]) := ⟨fun h => (Bool.noConfusion h), fun h => (HStep.out.1 h).elim id (fun q => absurd (List.cons.inj q).1 e1)⟩
                    go_wp2
                    go_quiet (fail)
                    go_wp2
                    go_roundw
                    case rel => exact ⟨i + 1, false, by omega, by go_num, rfl, (by show _ ↔ _; first | exact HF2.out | simpa using HF2.out), V.bnext HBi.out (V.b_draws _ _)⟩
                    case measure => simp [intOf]; omega
              · have hin : i = on := by omega
                have HAB2 : Hid ((ab && fb) = true ↔ ∀ v, v < u + 1 → ∃ q, q < O.length ∧ O.getD q [] = [y.getD v 0, y.getD ((v + 1) % y.length) 0]) := by
                  show _ ↔ _
                  rw [Bool.and_eq_true, HAB.out, HFB.out, hin, HOn.out, ← HPair.out]
                  constructor
                  · rintro ⟨h1, h2⟩ v hv
                    rcases Nat.lt_or_ge v u with e | e
                    · exact h1 v e
                    · obtain rfl : v = u := by omega
                      exact h2
                  · exact fun h => ⟨fun v hv => h v (by omega), h u (by omega)⟩
                clear HAB HFB HPair
                cases ab with
                | true =>
                  go_wp2
                  go_roundw
                  case rel => exact ⟨u + 1, fb, by omega, by go_num, by simp, (by show _ ↔ _; simpa using HAB2.out), HBi.out⟩
                  case measure => simp [intOf]; omega
                | false =>
                  go_wp2
                  go_roundw
                  case rel => exact ⟨u + 1, false, by omega, by go_num, by simp, (by show _ ↔ _; simpa using HAB2.out), HBi.out⟩
                  case measure => simp [intOf]; omega
          · have huy : u = yn := by omega
            have hab : ab = ok := by
              have h1 := HAB.out
              rw [huy, HYn.out, ← HF5.out] at h1
              cases ab <;> cases ok <;> simp_all
            subst hab
            have hb := HBu.out
            have HA_16 := Lib.hid (HA_15.out.below hb)
            have HL_16 := Lib.hid (HL_15.out.below hb)
            have HN_16 := Lib.hid (HN_15.out.below hb)
            have HX_16 := Lib.hid (HX_15.out.below hb)
            have HBm_16 := Lib.hid (HBm_15.out.below hb)
            have HY_16 := Lib.hid (HY_15.out.below hb)
            have HO_16 := Lib.hid (HO_15.out.below hb)
            have HP_16 := Lib.hid (V.bnext HP_15.out hb)
            clear HA_15 HL_15 HN_15 HX_15 HBm_15 HY_15 HO_15 HP_15
            clear hb HAB HF5 HF4 HOO
            have hl100 : ln ≤ 100 := by have := HLn.out; have := HAL.out; omega
            have hli : ∀ j : Nat, ¬ j < ln → ¬ (j : Int) < (ln : Int) := fun j h => by omega
            go_wp2
            go_loopw [28] (fun iv wr => ∃ j : Nat, j ≤ ln ∧ iv = .int .i64 j ∧ Hid (Below wu.heap.size wu wr)) (fun iv _ => ln - (intOf iv).toNat)
            case atStart => exact ⟨0, Nat.zero_le _, rfl, Below.refl _ _⟩
            case round =>
              obtain ⟨j, hj, rfl, HBj⟩ := hrel
              obtain ⟨wo, rfl⟩ : ∃ x, x = wr := ⟨_, rfl⟩
              by_cases hlc : lc = 0
              · subst hlc
                by_cases hlt : j < ln
                · have hji : (j : Int) < (ln : Int) := by omega
                  obtain ⟨f, t, hf, ht, he, m1, m2, e1, e2, e3, e4⟩ := HLaw.out (by first | rfl | trivial) j (by have := HLn.out; omega)
                  obtain ⟨lb, lo, ra, rc, Ln, l, rfl, -, hl, hcl, hIl⟩ := (HL_16.out.below HBj.out).at j hlt
                  rw [he] at hl
                  subst hl
                  obtain rfl : Ln = 2 := hIl.1.symm
                  obtain ⟨rb, ro, c0, rfl, -, h0, hc0⟩ := hIl.at 0 (by omega)
                  obtain ⟨rb2, ro2, c1, hrb, -, h1, hc1⟩ := hIl.at 1 (by omega)
                  injection hrb with hrb
                  injection hrb with q1 q2
                  subst q1 q2
                  rw [Nat.add_zero] at hc0
                  replace h0 : c0 = (f : Int) := h0
                  replace h1 : c1 = (t : Int) := h1
                  subst h0 h1
                  have hxn : xn = R.length := by have := HX_16.out.1; omega
                  have han : n = R.length := HA_16.out.1.symm
                  obtain ⟨xb, xo, xra, xrc, Xn, xl, rfl, -, hxl, hcx, hIx⟩ := (HX_16.out.below HBj.out).at t (by omega)
                  have hXn : Xn = R.length := by have := hIx.1; rw [hxl, e2] at this; exact this.symm
                  obtain ⟨xq, xr, v, rfl, -, hv, hcv⟩ := hIx.at f (by omega)
                  obtain ⟨ab, ao, ara, arc, An, al, rfl, -, hal, hca, hIa⟩ := (HA_16.out.below HBj.out).at t (by omega)
                  have hAn : An = R.length := by have := hIa.1; rw [hal, e3] at this; exact this.symm
                  obtain ⟨aq, ar, v2, rfl, -, hv2, hcv2⟩ := hIa.at f (by omega)
                  obtain rfl : v = v2 := by rw [hv, hv2, hxl, hal]; exact e4
                  have HNo := Lib.hid (HN_16.out.below HBj.out)
                  have HM1 := Lib.hid m1
                  have HM2 := Lib.hid m2
                  have ht1 : (t : Int) < (xn : Int) := by omega
                  have ht2 : (t : Int) < (n : Int) := by omega
                  have hf1 : (f : Int) < (Xn : Int) := by omega
                  have hf2 : (f : Int) < (An : Int) := by omega
                  clear he m1 m2 e1 e2 e3 e4 hIl hIx hIa hv hv2 hxl hal hXn hAn hxn han hf ht hli
                  go_wp2
                  go_quiet ((go_at_call 24; first | exact V.q_one_s (V.hasInt _ _ _ N _ _ HNo.out HM1.out) | exact V.q_one_s (V.hasInt _ _ _ N _ _ HNo.out HM2.out) | exact V.q_more_s (V.hasInt _ _ _ N _ _ HNo.out HM1.out) | exact V.q_more_s (V.hasInt _ _ _ N _ _ HNo.out HM2.out)))
                  go_wp2
                  go_roundw
                  case rel => exact ⟨j + 1, by omega, by go_num, V.bnext HBj.out (V.b_draws _ _)⟩
                  case measure => simp [intOf]; omega
                · have hjn := hli j hlt
                  go_wp2
                  go_ret
                  exact ⟨rfl, V.bnext HP_16.out HBj.out⟩
              · have hlcb : (lc == 0) = false := by simpa using hlc
                go_wp2
                go_ret
                exact ⟨rfl, V.bnext HP_16.out HBj.out⟩
    · have hkb : (kc == 0) = false := by simpa using hkc
      have hl100 : ln ≤ 100 := by have := HLn.out; have := HAL.out; omega
      have hli : ∀ j : Nat, ¬ j < ln → ¬ (j : Int) < (ln : Int) := fun j h => by omega
      go_wp2
      go_loopw [28] (fun iv wr => ∃ j : Nat, j ≤ ln ∧ iv = .int .i64 j ∧ Hid (Below w13.heap.size w13 wr)) (fun iv _ => ln - (intOf iv).toNat)
      case atStart => exact ⟨0, Nat.zero_le _, rfl, Below.refl _ _⟩
      case round =>
        obtain ⟨j, hj, rfl, HBj⟩ := hrel
        obtain ⟨wo, rfl⟩ : ∃ x, x = wr := ⟨_, rfl⟩
        by_cases hlc : lc = 0
        · subst hlc
          by_cases hlt : j < ln
          · have hji : (j : Int) < (ln : Int) := by omega
            obtain ⟨f, t, hf, ht, he, m1, m2, e1, e2, e3, e4⟩ := HLaw.out (by first | rfl | trivial) j (by have := HLn.out; omega)
            obtain ⟨lb, lo, ra, rc, Ln, l, rfl, -, hl, hcl, hIl⟩ := (HL_13.out.below HBj.out).at j hlt
            rw [he] at hl
            subst hl
            obtain rfl : Ln = 2 := hIl.1.symm
            obtain ⟨rb, ro, c0, rfl, -, h0, hc0⟩ := hIl.at 0 (by omega)
            obtain ⟨rb2, ro2, c1, hrb, -, h1, hc1⟩ := hIl.at 1 (by omega)
            injection hrb with hrb
            injection hrb with q1 q2
            subst q1 q2
            rw [Nat.add_zero] at hc0
            replace h0 : c0 = (f : Int) := h0
            replace h1 : c1 = (t : Int) := h1
            subst h0 h1
            have hxn : xn = R.length := by have := HX_13.out.1; omega
            have han : n = R.length := HA_13.out.1.symm
            obtain ⟨xb, xo, xra, xrc, Xn, xl, rfl, -, hxl, hcx, hIx⟩ := (HX_13.out.below HBj.out).at t (by omega)
            have hXn : Xn = R.length := by have := hIx.1; rw [hxl, e2] at this; exact this.symm
            obtain ⟨xq, xr, v, rfl, -, hv, hcv⟩ := hIx.at f (by omega)
            obtain ⟨ab, ao, ara, arc, An, al, rfl, -, hal, hca, hIa⟩ := (HA_13.out.below HBj.out).at t (by omega)
            have hAn : An = R.length := by have := hIa.1; rw [hal, e3] at this; exact this.symm
            obtain ⟨aq, ar, v2, rfl, -, hv2, hcv2⟩ := hIa.at f (by omega)
            obtain rfl : v = v2 := by rw [hv, hv2, hxl, hal]; exact e4
            have HNo := Lib.hid (HN_13.out.below HBj.out)
            have HM1 := Lib.hid m1
            have HM2 := Lib.hid m2
            have ht1 : (t : Int) < (xn : Int) := by omega
            have ht2 : (t : Int) < (n : Int) := by omega
            have hf1 : (f : Int) < (Xn : Int) := by omega
            have hf2 : (f : Int) < (An : Int) := by omega
            clear he m1 m2 e1 e2 e3 e4 hIl hIx hIa hv hv2 hxl hal hXn hAn hxn han hf ht hli
            go_wp2
            go_quiet ((go_at_call 24; first | exact V.q_one_s (V.hasInt _ _ _ N _ _ HNo.out HM1.out) | exact V.q_one_s (V.hasInt _ _ _ N _ _ HNo.out HM2.out) | exact V.q_more_s (V.hasInt _ _ _ N _ _ HNo.out HM1.out) | exact V.q_more_s (V.hasInt _ _ _ N _ _ HNo.out HM2.out)))
            go_wp2
            go_roundw
            case rel => exact ⟨j + 1, by omega, by go_num, V.bnext HBj.out (V.b_draws _ _)⟩
            case measure => simp [intOf]; omega
          · have hjn := hli j hlt
            go_wp2
            go_ret
            exact ⟨rfl, V.bnext HP_13.out HBj.out⟩
        · have hlcb : (lc == 0) = false := by simpa using hlc
          go_wp2
          go_ret
          exact ⟨rfl, V.bnext HP_13.out HBj.out⟩
end Go.Proofs.YtlljnfljcdljaabGreat.fnCriticalArcs
