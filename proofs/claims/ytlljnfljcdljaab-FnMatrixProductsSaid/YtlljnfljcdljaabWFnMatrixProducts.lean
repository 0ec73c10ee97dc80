/- The walk through the law: it returns true and writes nothing that was there. For every code: multiplication distributes over sums, as the model has it, and is associative with a vector. -/
import Derived.Test.YtlljnfljcdljaabRows
import Derived.Test.YtlljnfljcdljaabQb1
import Derived.Test.YtlljnfljcdljaabQb2
import Derived.Test.YtlljnfljcdljaabQb4
import Derived.Test.YtlljnfljcdljaabQb5
import Derived.Test.YtlljnfljcdljaabQb7
import Derived.Test.YtlljnfljcdljaabQb3
import Derived.Test.YtlljnfljcdljaabQb8
import Derived.Test.YtlljnfljcdljaabQb9
import Derived.WalkKit
import Derived.ProofKit
import Derived.OpenShut
import Derived.ShutString
import Derived.ChangeOld
import Derived.Below
import Derived.Lib.SmallJoins
import Derived.Lib.Hide
import Derived.WalkSmall
import Derived.Deep.Draws
import Derived.Deep.QuietTactic
import Derived.BigQuiet
import Derived.Deep.OwnRows
import Derived.Deep.RegionWith
import Derived.Deep.RegionHeld3
set_option linter.unusedSimpArgs false
set_option linter.unusedVariables false
set_option linter.unusedSectionVars false
namespace Go.Proofs.Ytlljnfljcdljaab.fnMatrixProducts
open Go.ChangeShapes Go.WideShapes Go.ChangeAt Go.RowKit
open Go.ChangeMaps (open_string shut_string)
set_option linter.unusedVariables false

set_option maxRecDepth 100000 in
set_option maxHeartbeats 4000000 in
theorem walk (a0 : Option Addr) (len0 cap0 : Nat) (z0 : List Int) (w : World) (w0 : V.IsRow .u8 w a0 len0 cap0 z0) :
    Calls Try.prog 4 #[.slice a0 len0 cap0] w fun e w' => e = .returned (.bool true) ∧ Below w.heap.size w w' := by
  have hB := w0.bytes
  have hm := hB.1
  by_cases hbig : 4096 < len0
  · have hd : decide (4096 < len0) = true := by simpa using hbig
    clear hB w0
    go_enter Try.func4, Try.ntmps4
    go_wp2_with (first | (go_at_call 12; refine (V.big _ _ _ _ hm).mono ?_; rintro e w' ⟨rfl, rfl⟩))
    go_ret
    exact ⟨rfl, Below.refl _ _⟩
  · have hd : decide (4096 < len0) = false := by simpa using hbig
    clear w0
    have HBy := Lib.hid hB
    clear hB
    go_enter Try.func4, Try.ntmps4
    go_wp2_with (go_at_call 12; refine (V.big _ _ _ _ hm).mono ?_; rintro e w' ⟨rfl, rfl⟩)
    refine (V.drawMultiplyMatrices _ _ _ _ HBy.out).mono ?_
    rintro e w_1 ⟨a, na, cap, R, a', N, cap', R', rfl, hA, hA', hb⟩
    have HA_1 := Lib.hid hA
    have HC_1 := Lib.hid hA'
    have HB_1 := Lib.hid hb
    clear hb hA hA'
    obtain ⟨r, hr⟩ : ∃ r, r = M.mulRes R R' := ⟨_, rfl⟩
    have HR := Lib.hid hr
    clear hr
    go_wp2_with fail
    refine (V.multiplyMatrices _ _ _ R _ _ _ R' _ HA_1.out HC_1.out).mono ?_
    rintro e w_2 ⟨_, _, _, rfl, ho, hb⟩
    rw [← HR.out] at ho ⊢
    have HX_2 := Lib.hid ho.mat
    clear ho
    have HA_2 := Lib.hid (HA_1.out.below hb)
    have HC_2 := Lib.hid (HC_1.out.below hb)
    have HB_2 := Lib.hid (V.bnext HB_1.out hb)
    clear hb HA_1 HC_1 HB_1
    go_wp2_with fail
    refine (V.sMultiplyMatrices _ _ _ R _ _ _ R' _ HA_2.out HC_2.out).mono ?_
    rintro e w_3 ⟨_, _, _, rfl, ho, hb⟩
    rw [← HR.out] at ho ⊢
    have HM_3 := Lib.hid ho.mat
    clear ho
    have HA_3 := Lib.hid (HA_2.out.below hb)
    have HC_3 := Lib.hid (HC_2.out.below hb)
    have HX_3 := Lib.hid (HX_2.out.below hb)
    have HB_3 := Lib.hid (V.bnext HB_2.out hb)
    clear hb HA_2 HC_2 HX_2 HB_2
    go_wp2_with fail
    refine (V.drawAddMatrices _ _ _ _ (HBy.out.below HB_3.out)).mono ?_
    rintro e w_4 ⟨ca, cn, ccap, C, da, dn, dcap, D, rfl, hA, hA', hb⟩
    have HC1_4 := Lib.hid hA
    have HC2_4 := Lib.hid hA'
    clear hA hA'
    have HA_4 := Lib.hid (HA_3.out.below hb)
    have HC_4 := Lib.hid (HC_3.out.below hb)
    have HX_4 := Lib.hid (HX_3.out.below hb)
    have HM_4 := Lib.hid (HM_3.out.below hb)
    have HB_4 := Lib.hid (V.bnext HB_3.out hb)
    clear hb HA_3 HC_3 HX_3 HM_3 HB_3
    obtain ⟨ra, hra⟩ : ∃ ra, ra = M.addRes C D := ⟨_, rfl⟩
    have HRA := Lib.hid hra
    clear hra
    go_wp2_with fail
    refine (V.addMatrices _ _ _ C _ _ _ D _ HC1_4.out HC2_4.out).mono ?_
    rintro e w_5 ⟨_, _, _, rfl, ho, hb⟩
    rw [← HRA.out] at ho ⊢
    have HY_5 := Lib.hid ho.mat
    clear ho
    have HA_5 := Lib.hid (HA_4.out.below hb)
    have HC_5 := Lib.hid (HC_4.out.below hb)
    have HX_5 := Lib.hid (HX_4.out.below hb)
    have HM_5 := Lib.hid (HM_4.out.below hb)
    have HC1_5 := Lib.hid (HC1_4.out.below hb)
    have HC2_5 := Lib.hid (HC2_4.out.below hb)
    have HB_5 := Lib.hid (V.bnext HB_4.out hb)
    clear hb HA_4 HC_4 HX_4 HM_4 HC1_4 HC2_4 HB_4
    go_wp2_with fail
    refine (V.sAddMatrices _ _ _ C _ _ _ D _ HC1_5.out HC2_5.out).mono ?_
    rintro e w_6 ⟨_, _, _, rfl, ho, hb⟩
    rw [← HRA.out] at ho ⊢
    have HZ_6 := Lib.hid ho.mat
    clear ho
    have HA_6 := Lib.hid (HA_5.out.below hb)
    have HC_6 := Lib.hid (HC_5.out.below hb)
    have HX_6 := Lib.hid (HX_5.out.below hb)
    have HM_6 := Lib.hid (HM_5.out.below hb)
    have HC1_6 := Lib.hid (HC1_5.out.below hb)
    have HC2_6 := Lib.hid (HC2_5.out.below hb)
    have HY_6 := Lib.hid (HY_5.out.below hb)
    have HB_6 := Lib.hid (V.bnext HB_5.out hb)
    clear hb HA_5 HC_5 HX_5 HM_5 HC1_5 HC2_5 HY_5 HB_5
    clear HC1_6
    clear HC2_6
    go_wp2_with fail
    refine (V.likeM _ _ _ r.1 _ _ _ _ HX_6.out HM_6.out).mono ?_
    rintro e w_7 ⟨rfl, hb⟩
    have HA_7 := Lib.hid (HA_6.out.below hb)
    have HC_7 := Lib.hid (HC_6.out.below hb)
    have HX_7 := Lib.hid (HX_6.out.below hb)
    have HM_7 := Lib.hid (HM_6.out.below hb)
    have HY_7 := Lib.hid (HY_6.out.below hb)
    have HZ_7 := Lib.hid (HZ_6.out.below hb)
    have HB_7 := Lib.hid (V.bnext HB_6.out hb)
    clear hb HA_6 HC_6 HX_6 HM_6 HY_6 HZ_6 HB_6
    clear HM_7
    go_wp2_with fail
    refine (V.likeM _ _ _ ra.1 _ _ _ _ HY_7.out HZ_7.out).mono ?_
    rintro e w_8 ⟨rfl, hb⟩
    have HA_8 := Lib.hid (HA_7.out.below hb)
    have HC_8 := Lib.hid (HC_7.out.below hb)
    have HX_8 := Lib.hid (HX_7.out.below hb)
    have HY_8 := Lib.hid (HY_7.out.below hb)
    have HZ_8 := Lib.hid (HZ_7.out.below hb)
    have HB_8 := Lib.hid (V.bnext HB_7.out hb)
    clear hb HA_7 HC_7 HX_7 HY_7 HZ_7 HB_7
    clear HY_8
    clear HZ_8
    obtain ⟨bR, hbR⟩ : ∃ bR, M.isMat R = bR := ⟨_, rfl⟩
    have HbR := Lib.hid hbR
    clear hbR
    go_wp2_with fail
    refine (V.isMatrix_b _ _ _ R _ bR HbR.out HA_8.out).mono ?_
    rintro e w' ⟨rfl, rfl⟩
    go_wp2_with fail
    refine (V.sIsMatrixB_b _ _ _ R _ bR HbR.out HA_8.out).mono ?_
    rintro e w_9 ⟨rfl, hb⟩
    have HA_9 := Lib.hid (HA_8.out.below hb)
    have HC_9 := Lib.hid (HC_8.out.below hb)
    have HX_9 := Lib.hid (HX_8.out.below hb)
    have HB_9 := Lib.hid (V.bnext HB_8.out hb)
    clear hb HA_8 HC_8 HX_8 HB_8
    have hbb : (bR != bR) = false := by simp
    by_cases hz : r.2 = 0
    · have h0 := hz
      rw [HR.out] at h0
      obtain ⟨hR, hR', h1, hM, he⟩ := M.mulRes_t h0
      have HE : Hid (r = (M.mulM R R', 0)) := by show _ = _; rw [HR.out]; exact he
      have HXX := HX_9.out
      rw [HE.out] at HXX
      have HP_9 := Lib.hid HXX
      have hr2 := HE.out
      subst hr2
      obtain ⟨m1, m2, l1, l2, -, -⟩ := M.isMat_t hR'
      have HT : Hid (V.Rect R' N (M.wid R')) := by have := V.rect_mat hR'; rw [HC_9.out.1] at this; exact this
      rw [HC_9.out.1] at m1 m2
      obtain ⟨L, hL⟩ : ∃ L, L = M.wid R' := ⟨_, rfl⟩
      rw [← hL] at l1 l2 HT
      have HL := Lib.hid hL
      have HMR := Lib.hid hR
      have HMR' := Lib.hid hR'
      have HW := Lib.hid h1
      have HMM := Lib.hid hM
      obtain ⟨bb, bo, bra, brc, rfl, hbb2, hbc⟩ := HC_9.out.rect_first HT.out (by omega)
      have HBC := Lib.hid hbc
      clear h0 he hR hR' h1 hM hz HX_9 HXX HE HR hL hbc hbb
      go_wp2_with fail
      refine (V.roll _ _ _ _ _ (HBy.out.below HB_9.out)).mono ?_
      rintro e wd ⟨rfl, hdice, hbd⟩
      have HD := Lib.hid hdice
      have HBD := Lib.hid hbd
      have hzd : w_9.heap.size < wd.heap.size := by
        obtain ⟨_, _, _, _, _, q1, _⟩ := hdice
        exact q1.lt
      clear hdice hbd
      have HO0 : Hid (V.Own (wd.alloc (.cells #[] 2)) wd.heap.size (.slice (some ⟨wd.heap.size, 0, none⟩) 0 0) []) := V.own_lit0 wd _ (Nat.le_refl _)
      have HD0 : Hid (V.Dice (wd.alloc (.cells #[] 2)) w_9.heap.size) := HD.out.then (V.b_alloc wd _) hzd
      have HBD0 := Lib.hid (HBD.out.trans ((V.b_alloc wd (.cells #[] 2)).mono (Nat.le_of_lt hzd)))
      have HV0 : Hid (∀ j, j < ([] : List Int).length → -10 ≤ ([] : List Int).getD j 0 ∧ ([] : List Int).getD j 0 ≤ 10) := fun j hj => absurd hj (Nat.not_lt_zero j)
      have hc0 : (wd.alloc (.cells #[] 2)).cell? ⟨bb, bo, none⟩ = some (.slice bra L brc) := by rw [HBD0.out.cell (p := ⟨bb, bo, none⟩) hbb2]; exact HBC.out
      go_wp2
      clear hc0
      go_loopw [16, 17] (fun out i wr => ∃ (k : Nat) (b : Option Addr) (c : Nat) (l : List Int), k ≤ L ∧ i = .int .i64 k ∧ out = .slice b k c ∧ V.Own wr wd.heap.size (.slice b k c) l ∧ Hid (∀ j, j < l.length → -10 ≤ l.getD j 0 ∧ l.getD j 0 ≤ 10) ∧ wd.heap.size ≤ wr.heap.size ∧ V.Dice wr w_9.heap.size ∧ Below w_9.heap.size w_9 wr) (fun _ i _ => L - (intOf i).toNat)
      case atStart => exact ⟨0, _, _, [], Nat.zero_le _, rfl, rfl, HO0.out, HV0, by simp, HD0.out, HBD0.out⟩
      case round =>
        obtain ⟨k, b, c, l, hk, rfl, rfl, hO, HV, hzr', hD, hb⟩ := hrel
        have HO := Lib.hid hO
        have HDk := Lib.hid hD
        have HBk := Lib.hid hb
        have hzr : wd.heap.size ≤ wr.heap.size := hzr'
        have hcb : wr.cell? ⟨bb, bo, none⟩ = some (.slice bra L brc) := by rw [hb.cell (p := ⟨bb, bo, none⟩) hbb2]; exact HBC.out
        clear hO hD hb HO0 HV0 HD0 HBD0 HD
        by_cases hlt : k < L
        · have hki : (k : Int) < (L : Int) := by omega
          go_wp2_with fail
          refine (V.below_ _ 21 _ HDk.out (by omega) (by omega)).mono ?_
          rintro e w2 ⟨x, rfl, hx0, hx1, hD2, ht2⟩
          have HD2 := Lib.hid hD2
          have HO2 := Lib.hid (HO.out.thr ht2 hzd)
          have HB2 := Lib.hid (HBk.out.trans ht2.below)
          have hz2 : wd.heap.size ≤ w2.heap.size := by have := ht2.below.size; omega
          have hlen := HO2.out.len
          have HLn := Lib.hid hlen
          clear hD2 ht2 hlen
          go_wp2_with (at_builtin; refine V.append1 _ rfl (.tmp 100) (.tmp 104) rfl wd.heap.size _ _ _ k HO2.out.len.symm rfl HO2.out rfl (by rw [← HLn.out]; omega) hz2 ?_)
          intro b2 c2 w3 hO3 hb3 _
          have HO3 := Lib.hid hO3
          have HD3 := Lib.hid (HD2.out.then hb3 hzd)
          have hz3 := hb3.size
          have HB3 := Lib.hid (HB2.out.trans (hb3.mono (Nat.le_of_lt hzd)))
          have HV3 : Hid (∀ j, j < (l ++ [x - 10]).length → -10 ≤ (l ++ [x - 10]).getD j 0 ∧ (l ++ [x - 10]).getD j 0 ≤ 10) := by
            intro j hj
            by_cases e : j < l.length
            · have := HV.out j e
              simpa [List.getD_eq_getElem?_getD, List.getElem?_append_left, e] using this
            · have e2 : j = l.length := by simp at hj; omega
              subst e2
              simp [List.getD_eq_getElem?_getD]
              omega
          clear hO3 hb3
          go_wp2
          go_roundw
          case rel => exact ⟨k + 1, _, _, _, by omega, by go_num, rfl, HO3.out, HV3, by omega, HD3.out, HB3.out⟩
          case measure => simp [intOf]; omega
        · obtain rfl : k = L := by omega
          have hvec : M.isVec l = true := M.isVec_of (by rw [← HO.out.len]; exact l1) (by rw [← HO.out.len]; exact l2) (fun j hj => by
            have := HV.out j hj
            apply M.isVal_of_fin
            simp only [M.isFin, Bool.and_eq_true, decide_eq_true_eq]
            omega)
          have HLV := Lib.hid (M.prod_law HMR.out HMR'.out HW.out HMM.out hvec (by rw [← HL.out]; exact HO.out.len))
          have HI := Lib.hid HO.out.ints'
          have HAr := Lib.hid (HA_9.out.below HBk.out)
          have HCr := Lib.hid (HC_9.out.below HBk.out)
          have HPr := Lib.hid (HP_9.out.below HBk.out)
          have HBr := Lib.hid (HB_9.out.trans (HBk.out.mono HB_9.out.size))
          have HN0 : Hid (M.vecRes R [] = ([], 1)) := by
            show _ = _
            unfold M.vecRes
            rw [show M.isVec [] = false from rfl, Bool.and_false, if_neg (by simp)]
          obtain ⟨r5, hr5⟩ : ∃ r5, r5 = M.vecRes (M.mulM R R') l := ⟨_, rfl⟩
          have HR5 := Lib.hid hr5
          clear hvec HV HO HDk hr5
          go_wp2_with fail
          refine (V.timesVector _ _ _ R' _ _ _ l _ HCr.out HI.out).mono ?_
          rintro e w3 ⟨pa, pn, pc, rfl, ho, hb⟩
          have HA3 := Lib.hid (HAr.out.below hb)
          have HP3 := Lib.hid (HPr.out.below hb)
          have HI3 := Lib.hid (HI.out.below hb)
          have HB3 := Lib.hid (V.bnext HBr.out hb)
          have hlv := HLV.out
          rcases hlv with h | ⟨pv, h, h2⟩ | ⟨pv, qv, h, h2, h3⟩
          · rw [h] at ho ⊢
            have HQ3 := Lib.hid ho.ints'
            clear ho hb h HAr HPr HI HBr HCr
            go_wp2_with fail
            refine (V.timesVector _ _ _ R _ _ _ [] _ HA3.out HQ3.out).mono ?_
            rintro e w4 ⟨qa, qn, qc, rfl, ho, hb⟩
            rw [HN0.out]
            have HP4 := Lib.hid (HP3.out.below hb)
            have HI4 := Lib.hid (HI3.out.below hb)
            have HB4 := Lib.hid (V.bnext HB3.out hb)
            clear ho hb
            go_wp2_with fail
            refine (V.timesVector _ _ _ (M.mulM R R') _ _ _ l _ HP4.out HI4.out).mono ?_
            rintro e w5 ⟨ta, tn, tc, rfl, ho, hb⟩
            rw [← HR5.out]
            have HB5 := Lib.hid (V.bnext HB4.out hb)
            clear ho hb
            go_wp2
            go_ret
            exact ⟨rfl, HB5.out⟩
          · rw [h] at ho ⊢
            have HQ3 := Lib.hid ho.ints'
            have H2 := Lib.hid h2
            clear ho hb h h2 HAr HPr HI HBr HCr
            go_wp2_with fail
            refine (V.timesVector _ _ _ R _ _ _ pv _ HA3.out HQ3.out).mono ?_
            rintro e w4 ⟨qa, qn, qc, rfl, ho, hb⟩
            rw [H2.out]
            have HP4 := Lib.hid (HP3.out.below hb)
            have HI4 := Lib.hid (HI3.out.below hb)
            have HB4 := Lib.hid (V.bnext HB3.out hb)
            clear ho hb
            go_wp2_with fail
            refine (V.timesVector _ _ _ (M.mulM R R') _ _ _ l _ HP4.out HI4.out).mono ?_
            rintro e w5 ⟨ta, tn, tc, rfl, ho, hb⟩
            rw [← HR5.out]
            have HB5 := Lib.hid (V.bnext HB4.out hb)
            clear ho hb
            go_wp2
            go_ret
            exact ⟨rfl, HB5.out⟩
          · rw [h] at ho ⊢
            have HQ3 := Lib.hid ho.ints'
            have H2 := Lib.hid h2
            have H3 := Lib.hid h3
            clear ho hb h h2 h3 HAr HPr HI HBr HCr
            go_wp2_with fail
            refine (V.timesVector _ _ _ R _ _ _ pv _ HA3.out HQ3.out).mono ?_
            rintro e w4 ⟨qa, qn, qc, rfl, ho, hb⟩
            rw [H2.out] at ho ⊢
            have HQ4 := Lib.hid ho.ints'
            have HP4 := Lib.hid (HP3.out.below hb)
            have HI4 := Lib.hid (HI3.out.below hb)
            have HB4 := Lib.hid (V.bnext HB3.out hb)
            clear ho hb
            go_wp2_with fail
            refine (V.timesVector _ _ _ (M.mulM R R') _ _ _ l _ HP4.out HI4.out).mono ?_
            rintro e w5 ⟨ta, tn, tc, rfl, ho, hb⟩
            have HQ5 := Lib.hid (HQ4.out.below hb)
            have HB5 := Lib.hid (V.bnext HB4.out hb)
            rcases H3.out with h3 | h3
            · rw [h3]
              clear ho hb h3
              go_wp2
              go_ret
              exact ⟨rfl, HB5.out⟩
            · rw [h3] at ho ⊢
              have HT5 := Lib.hid ho.ints'
              clear ho hb h3
              go_wp2_with fail
              refine (V.likeV _ _ _ qv _ _ _ _ HQ5.out HT5.out).mono ?_
              rintro e w6 ⟨rfl, hb⟩
              have HB6 := Lib.hid (V.bnext HB5.out hb)
              clear hb
              go_wp2
              go_ret
              exact ⟨rfl, HB6.out⟩
    · have hz1 : (r.2 == 0) = false := by simpa using hz
      have hz2 : (r.2 != 0) = true := by simpa using hz
      clear hz
      go_wp2
      go_ret
      exact ⟨rfl, HB_9.out⟩
end Go.Proofs.Ytlljnfljcdljaab.fnMatrixProducts
