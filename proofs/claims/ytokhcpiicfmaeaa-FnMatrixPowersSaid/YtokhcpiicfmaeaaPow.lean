/- Powers of matrices, in the program and in the model. -/
import Derived.Test.YtokhcpiicfmaeaaRows
import Derived.Test.YtokhcpiicfmaeaaMath1
import Derived.Test.YtokhcpiicfmaeaaList
import Derived.Test.YtokhcpiicfmaeaaMatM
import Derived.Test.YtokhcpiicfmaeaaHelp
import Derived.Test.YtokhcpiicfmaeaaRows0
import Derived.Test.YtokhcpiicfmaeaaOwn
import Derived.Test.YtokhcpiicfmaeaaMat0
import Derived.WalkKit
import Derived.ProofKit
import Derived.WalkSmall
import Derived.Deep.QuietTactic
import Derived.BigQuiet
import Derived.BigRegion
import Derived.Deep.Draws
import Derived.Lib.Hide
import Derived.OpenShut
import Derived.Deep.OwnRows
import Derived.Test.YtokhcpiicfmaeaaVals0
import Derived.Test.YtokhcpiicfmaeaaApp
import Derived.Test.YtokhcpiicfmaeaaSBot
import Derived.Test.YtokhcpiicfmaeaaVec
import Derived.Test.YtokhcpiicfmaeaaIsMat
import Derived.Test.YtokhcpiicfmaeaaSMul
import Derived.Test.YtokhcpiicfmaeaaIAdd
import Derived.StillTailTactics
import Derived.Test.YtokhcpiicfmaeaaIMul
import Derived.Test.YtokhcpiicfmaeaaIBot
namespace Go.Proofs.Ytokhcpiicfmaeaa.V
open Go.RowKit

set_option maxRecDepth 100000 in
set_option maxHeartbeats 4000000 in
theorem powerMatrix_ok (a : Option Addr) (n cap : Nat) (R : List (List Int)) (m : Nat) (w : World) (h : Mat w a n R) (hR : M.isMat R = true) (hs : M.wid R = n) (hm : m ≤ 100) :
    Calls Try.prog 30 #[.slice a n cap, .int .i64 m] w (MRes (M.pwRes R m) w) := by
  have HA := Lib.hid h
  have HL := Lib.hid h.1
  have HR := Lib.hid hR
  have HS := Lib.hid hs
  obtain ⟨m1, m2, -, -, -, -⟩ := M.isMat_t hR
  have HT : Hid (Rect R n n) := by
    have := rect_mat hR
    rw [h.1, hs] at this
    exact this
  rw [h.1] at m1 m2
  obtain ⟨b, off, ra, rc, rfl, -, hc⟩ := h.rect_first HT.out (by omega)
  clear h hR hs
  go_enter Try.func30, Try.ntmps30
  go_wp2_with fail
  refine (isMatrix_b _ _ _ R _ true HR.out HA.out).mono ?_
  rintro e w' ⟨rfl, rfl⟩
  go_wp2_with fail
  refine (unitOf n _ m1 m2).mono ?_
  rintro e w1 ⟨a1, cap1, rfl, ho, hb⟩
  have HO0 : Hid (OwnM w1 w.heap.size (.slice a1 n cap1) (M.powN R 0).1) := by
    show OwnM _ _ _ (M.unitM R.length)
    rw [HL.out]; exact ho
  have HB0 := Lib.hid hb
  clear ho hb hc
  go_wp2
  go_loopw [6, 27] (fun p i wr => ∃ (k : Nat) (a2 : Option Addr) (c2 : Nat), k ≤ m ∧ i = .int .i64 k ∧ p = .slice a2 n c2 ∧ OwnM wr w.heap.size (.slice a2 n c2) (M.powN R k).1 ∧ Hid ((M.powN R k).2 = true) ∧ Below w.heap.size w wr) (fun _ i _ => m - (intOf i).toNat)
  case atStart => exact ⟨0, _, _, Nat.zero_le _, rfl, rfl, HO0.out, rfl, HB0.out⟩
  case round =>
    obtain ⟨k, a2, c2, hk, rfl, rfl, hO, HP, hb⟩ := hrel
    have HO := Lib.hid hO
    have HB := Lib.hid hb
    clear hO hb HO0 HB0
    by_cases hlt : k < m
    · have hki : (k : Int) < (m : Int) := by omega
      have HPM : Hid (M.isMat (M.powN R k).1 = true) := M.powN_ok (by rw [HL.out]; exact m1) (by rw [HL.out]; exact m2) k HP.out
      have HPT : Hid (Rect (M.powN R k).1 n n) := by
        have := rect_mat HPM.out
        rw [M.powN_len HP.out, HL.out, M.powN_wid (by rw [HL.out]; exact m1) (by rw [HL.out, HS.out]) HP.out, HL.out] at this
        exact this
      have HST := Lib.hid (M.powN_step HP.out)
      have HF : Hid (M.mulM (M.powN R k).1 R = M.mk n n (fun i j => M.dot (M.powN R k).1 R i j n)) := by
        show _ = _; unfold M.mulM; rw [M.powN_len HP.out, HL.out, HS.out]
      go_wp2_with fail
      refine (maxPlus _).mono ?_
      rintro e w2 ⟨rfl, hb2⟩
      have HB2 := Lib.hid hb2
      have hsz := HB.out.size
      clear hb2
      go_wp2_with fail
      refine (multiplied _ _ _ n (M.powN R k).1 _ _ n R _ (HO.out.below HB2.out).mat (HA.out.below (HB.out.trans (HB2.out.mono hsz))) HPT.out HT.out HPM.out HR.out m1 m2 m1 m2 m1 m2).mono ?_
      rintro e w3 ⟨a3, c3, rfl, ho, hb3⟩
      have HB3 := Lib.hid (bnext (bnext HB.out HB2.out) hb3)
      have HO3 : Hid (OwnM w3 w.heap.size (.slice a3 n c3) (M.mulM (M.powN R k).1 R)) := by
        show OwnM _ _ _ _
        rw [HF.out]
        exact ho.mono (by have := HB2.out.size; omega)
      clear ho hb3
      by_cases hM : M.isMat (M.mulM (M.powN R k).1 R) = true
      · have HM := Lib.hid hM
        have HP2 : Hid ((M.powN R (k + 1)).2 = true) := by show _ = _; rw [HST.out]; exact HM.out
        have HO4 : Hid (OwnM w3 w.heap.size (.slice a3 n c3) (M.powN R (k + 1)).1) := by
          show OwnM _ _ _ _; rw [HST.out]; exact HO3.out
        clear hM
        go_wp2_with fail
        refine (isMatrix_b _ _ _ (M.mulM (M.powN R k).1 R) _ true HM.out HO3.out.mat).mono ?_
        rintro e w' ⟨rfl, rfl⟩
        go_wp2
        go_roundw
        case rel => exact ⟨k + 1, _, _, by omega, by go_num, rfl, HO4.out, HP2, HB3.out⟩
        case measure => simp [intOf]; omega
      · simp only [Bool.not_eq_true] at hM
        have HM := Lib.hid hM
        have HE : Hid (M.pwRes R m = ([], 3)) := by
          show _ = _
          unfold M.pwRes
          rw [M.powN_false (show (M.powN R (k + 1)).2 = false by rw [HST.out]; exact HM.out) (by omega)]
          rfl
        clear hM
        go_wp2_with fail
        refine (isMatrix_b _ _ _ (M.mulM (M.powN R k).1 R) _ false HM.out HO3.out.mat).mono ?_
        rintro e w' ⟨rfl, rfl⟩
        go_wp2
        go_ret2
        exact MRes.nil HE.out HB3.out
    · obtain rfl : k = m := by omega
      have HE : Hid (M.pwRes R k = ((M.powN R k).1, 0)) := by
        show _ = _; unfold M.pwRes; rw [HP.out]; rfl
      go_wp2
      go_ret2
      rw [HE.out]
      exact ⟨_, _, _, rfl, HO.out, HB.out⟩

set_option maxRecDepth 100000 in
set_option maxHeartbeats 4000000 in
theorem sPower (a : Option Addr) (n cap : Nat) (R : List (List Int)) (m : Nat) (w : World) (h : Mat w a n R) (hR : M.isMat R = true) (hs : M.wid R = n) (hm : m ≤ 100) :
    Calls Try.prog 68 #[.slice a n cap, .int .i64 m] w (MRes (M.pwRes R m) w) := by
  have HA := Lib.hid h
  have HL := Lib.hid h.1
  have HR := Lib.hid hR
  have HS := Lib.hid hs
  obtain ⟨m1, m2, -, -, -, -⟩ := M.isMat_t hR
  have HT : Hid (Rect R n n) := by
    have := rect_mat hR
    rw [h.1, hs] at this
    exact this
  rw [h.1] at m1 m2
  have m3 : n ≤ 100 := by omega
  clear h hR hs
  go_enter Try.func68, Try.ntmps68
  go_wp2_with fail
  refine (sUnit n _ m3).mono ?_
  rintro e w1 ⟨a1, cap1, rfl, ho, hb⟩
  have HO0 : Hid (OwnM w1 w.heap.size (.slice a1 n cap1) (M.powN R 0).1) := by
    show OwnM _ _ _ (M.unitM R.length)
    rw [HL.out]; exact ho
  have HB0 := Lib.hid hb
  clear ho hb
  go_wp2
  go_loopw [1, 6] (fun i p wr => ∃ (k j : Nat) (a2 : Option Addr) (c2 : Nat), k + j = m ∧ i = .int .i64 j ∧ p = .slice a2 n c2 ∧ OwnM wr w.heap.size (.slice a2 n c2) (M.powN R k).1 ∧ Hid ((M.powN R k).2 = true) ∧ Below w.heap.size w wr) (fun i _ _ => (intOf i).toNat)
  case atStart => exact ⟨0, m, _, _, by omega, rfl, rfl, HO0.out, rfl, HB0.out⟩
  case round =>
    obtain ⟨k, j, a2, c2, hkj, rfl, rfl, hO, HP, hb⟩ := hrel
    have HKJ := Lib.hid hkj
    have hj100 : j ≤ 100 := by omega
    have HO := Lib.hid hO
    have HB := Lib.hid hb
    clear hO hb HO0 HB0 hkj
    by_cases hlt : 0 < j
    · have hki : (0 : Int) < (j : Int) := by omega
      have HPM : Hid (M.isMat (M.powN R k).1 = true) := M.powN_ok (by rw [HL.out]; exact m1) (by rw [HL.out]; exact m2) k HP.out
      have HPT : Hid (Rect (M.powN R k).1 n n) := by
        have := rect_mat HPM.out
        rw [M.powN_len HP.out, HL.out, M.powN_wid (by rw [HL.out]; exact m1) (by rw [HL.out, HS.out]) HP.out, HL.out] at this
        exact this
      have HST := Lib.hid (M.powN_step HP.out)
      have HF : Hid (M.mulM (M.powN R k).1 R = M.mk n n (fun i j => M.dot (M.powN R k).1 R i j n)) := by
        show _ = _; unfold M.mulM; rw [M.powN_len HP.out, HL.out, HS.out]
      have hsz := HB.out.size
      go_wp2_with fail
      refine (sMultiply _ _ _ n (M.powN R k).1 _ _ n R _ HO.out.mat (HA.out.below HB.out) HPT.out HT.out HPM.out HR.out m1 m2 m1 m2 m1 m2).mono ?_
      rintro e w3 ⟨a3, c3, rfl, ho, hb3⟩
      have HB3 := Lib.hid (bnext HB.out hb3)
      have HO3 : Hid (OwnM w3 w.heap.size (.slice a3 n c3) (M.mulM (M.powN R k).1 R)) := by
        show OwnM _ _ _ _
        rw [HF.out]
        exact ho.mono hsz
      clear ho hb3
      by_cases hM : M.isMat (M.mulM (M.powN R k).1 R) = true
      · have HM := Lib.hid hM
        have HP2 : Hid ((M.powN R (k + 1)).2 = true) := by show _ = _; rw [HST.out]; exact HM.out
        have HO4 : Hid (OwnM w3 w.heap.size (.slice a3 n c3) (M.powN R (k + 1)).1) := by
          show OwnM _ _ _ _; rw [HST.out]; exact HO3.out
        clear hM
        go_wp2_with fail
        refine (sIsMatrixB_b _ _ _ (M.mulM (M.powN R k).1 R) _ true HM.out HO3.out.mat).mono ?_
        rintro e w4 ⟨rfl, hb4⟩
        have HB4 := Lib.hid (bnext HB3.out hb4)
        have HO5 := Lib.hid (HO4.out.below hb4)
        clear hb4
        go_wp2
        go_roundw
        case rel => exact ⟨k + 1, j - 1, _, _, by have := HKJ.out; omega, by go_num, rfl, HO5.out, HP2, HB4.out⟩
        case measure => simp [intOf]; omega
      · simp only [Bool.not_eq_true] at hM
        have HM := Lib.hid hM
        have HE : Hid (M.pwRes R m = ([], 3)) := by
          show _ = _
          unfold M.pwRes
          rw [M.powN_false (show (M.powN R (k + 1)).2 = false by rw [HST.out]; exact HM.out) (by have := HKJ.out; omega)]
          rfl
        clear hM
        go_wp2_with fail
        refine (sIsMatrixB_b _ _ _ (M.mulM (M.powN R k).1 R) _ false HM.out HO3.out.mat).mono ?_
        rintro e w4 ⟨rfl, hb4⟩
        have HB4 := Lib.hid (bnext HB3.out hb4)
        clear hb4
        go_wp2
        go_ret2
        exact MRes.nil HE.out HB4.out
    · have hkm := HKJ.out
      obtain rfl : j = 0 := by omega
      obtain rfl : m = k := by omega
      have HE : Hid (M.pwRes R m = ((M.powN R m).1, 0)) := by
        show _ = _; unfold M.pwRes; rw [HP.out]; rfl
      clear hkm
      go_wp2
      go_ret2
      rw [HE.out]
      exact ⟨_, _, _, rfl, HO.out, HB.out⟩

set_option maxHeartbeats 1000000 in
theorem powerMatrix (a : Option Addr) (n cap : Nat) (R : List (List Int)) (m : Int) (w : World) (h : Mat w a n R) :
    Calls Try.prog 30 #[.slice a n cap, .int .i64 m] w (MRes (M.powRes R m) w) := by
  by_cases hR : M.isMat R = true
  · by_cases hm : 0 ≤ m ∧ m ≤ 100
    · by_cases hs : M.wid R = n
      · obtain ⟨k, rfl⟩ := Int.eq_ofNat_of_zero_le hm.1
        have e : M.powRes R (k : Int) = M.pwRes R k := by
          unfold M.powRes; rw [if_pos hR, if_pos hm, if_pos (by rw [h.1, hs])]; rfl
        rw [e]
        exact powerMatrix_ok _ _ _ _ _ _ h hR hs (by omega)
      · have HE : Hid (M.powRes R m = ([], 5)) := by
          show _ = _; unfold M.powRes; rw [if_pos hR, if_pos hm, if_neg (by rw [h.1]; exact fun e => hs e.symm)]
        have HA := Lib.hid h
        have HR := Lib.hid hR
        obtain ⟨m1, m2, c1, c2, -, -⟩ := M.isMat_t hR
        rw [h.1] at m1 m2
        obtain ⟨b, off, ra, L, rc, rfl, hL, hc⟩ := h.first (by omega)
        rw [← hL] at hs
        obtain ⟨hm1, hm2⟩ := hm
        have hne : (n == L) = false := by simp; omega
        have hne2 : (n != L) = true := by simp; omega
        have hne3 : ((n : Int) != (L : Int)) = true := by simp; omega
        clear h hR hL
        go_enter Try.func30, Try.ntmps30
        go_wp2_with fail
        refine (isMatrix_b _ _ _ R _ true HR.out HA.out).mono ?_
        rintro e w' ⟨rfl, rfl⟩
        go_wp2
        go_ret2
        exact MRes.nil HE.out (Below.refl _ _)
    · have HE : Hid (M.powRes R m = ([], 2)) := by
        show _ = _; unfold M.powRes; rw [if_pos hR, if_neg hm]
      have HA := Lib.hid h
      have HR := Lib.hid hR
      clear h hR
      by_cases h0 : m < 0
      · go_enter Try.func30, Try.ntmps30
        go_wp2_with fail
        refine (isMatrix_b _ _ _ R _ true HR.out HA.out).mono ?_
        rintro e w' ⟨rfl, rfl⟩
        go_wp2
        go_ret2
        exact MRes.nil HE.out (Below.refl _ _)
      · have h1 : 100 < m := by omega
        go_enter Try.func30, Try.ntmps30
        go_wp2_with fail
        refine (isMatrix_b _ _ _ R _ true HR.out HA.out).mono ?_
        rintro e w' ⟨rfl, rfl⟩
        go_wp2
        go_ret2
        exact MRes.nil HE.out (Below.refl _ _)
  · simp only [Bool.not_eq_true] at hR
    have HE : Hid (M.powRes R m = ([], 1)) := by
      show _ = _; unfold M.powRes; rw [hR, if_neg (by simp)]
    have HA := Lib.hid h
    have HR := Lib.hid hR
    clear h hR
    go_enter Try.func30, Try.ntmps30
    go_wp2_with fail
    refine (isMatrix_b _ _ _ R _ false HR.out HA.out).mono ?_
    rintro e w' ⟨rfl, rfl⟩
    go_wp2
    go_ret2
    exact MRes.nil HE.out (Below.refl _ _)

set_option maxHeartbeats 1000000 in
theorem sPowerMatrix (a : Option Addr) (n cap : Nat) (R : List (List Int)) (m : Int) (w : World) (h : Mat w a n R) :
    Calls Try.prog 31 #[.slice a n cap, .int .i64 m] w (MRes (M.powRes R m) w) := by
  have HA := Lib.hid h
  by_cases hR : M.isMat R = true
  · have HR := Lib.hid hR
    by_cases hm : 0 ≤ m ∧ m ≤ 100
    · have hd : (decide ((0 : Int) ≤ m) && decide ((m : Int) ≤ 100)) = true := by simp; omega
      obtain ⟨m1, m2, c1, c2, -, -⟩ := M.isMat_t hR
      rw [h.1] at m1 m2
      obtain ⟨b, off, ra, L, rc, rfl, hL, hc⟩ := h.first (by omega)
      by_cases hs : M.wid R = n
      · obtain ⟨k, rfl⟩ := Int.eq_ofNat_of_zero_le hm.1
        have HE : Hid (M.powRes R (k : Int) = M.pwRes R k) := by
          show _ = _; unfold M.powRes; rw [if_pos hR, if_pos hm, if_pos (by rw [h.1, hs])]; rfl
        have HS := Lib.hid hs
        have hk : k ≤ 100 := by omega
        have hd2 : decide ((k : Int) ≤ 100) = true := by simp; omega
        obtain rfl : n = L := by rw [hL, hs]
        clear h hR hm hL hs
        go_enter Try.func31, Try.ntmps31
        go_wp2_with fail
        refine (sIsMatrix_b _ _ _ R _ true HR.out HA.out).mono ?_
        rintro e w' ⟨rfl, q, rfl⟩
        go_wp2_with (go_at_call 67; refine (sIn _ _ _ _).mono ?_; rintro e w' ⟨rfl, rfl⟩)
        refine (sPower _ _ _ R k _ (by exact HA.out) HR.out HS.out hk).mono ?_
        rintro e w1 ⟨a1, n1, c1, rfl, ho, hb⟩
        have HO : Hid (OwnM w1 w.heap.size (.slice a1 n1 c1) (M.pwRes R k).1) := ho
        have HB : Hid (Below w.heap.size w w1) := (b_draws w _).trans hb
        clear ho hb
        go_wp2
        go_ret2
        rw [HE.out]
        exact ⟨_, _, _, rfl, HO.out, HB.out⟩
      · have HE : Hid (M.powRes R m = ([], 5)) := by
          show _ = _; unfold M.powRes; rw [if_pos hR, if_pos hm, if_neg (by rw [h.1]; exact fun e => hs e.symm)]
        rw [← hL] at hs
        have hne : (n == L) = false := by simp; omega
        have hne2 : (n != L) = true := by simp; omega
        have hne3 : ((n : Int) != (L : Int)) = true := by simp; omega
        clear h hR hL hm
        go_enter Try.func31, Try.ntmps31
        go_wp2_with fail
        refine (sIsMatrix_b _ _ _ R _ true HR.out HA.out).mono ?_
        rintro e w' ⟨rfl, q, rfl⟩
        go_wp2_with (go_at_call 67; refine (sIn _ _ _ _).mono ?_; rintro e w' ⟨rfl, rfl⟩)
        go_ret2
        exact MRes.nil HE.out (b_draws _ _)
    · have HE : Hid (M.powRes R m = ([], 2)) := by
        show _ = _; unfold M.powRes; rw [if_pos hR, if_neg hm]
      have hd : (decide ((0 : Int) ≤ m) && decide ((m : Int) ≤ 100)) = false := by rw [Bool.and_eq_false_iff]; simp; omega
      clear h hR
      go_enter Try.func31, Try.ntmps31
      go_wp2_with fail
      refine (sIsMatrix_b _ _ _ R _ true HR.out HA.out).mono ?_
      rintro e w' ⟨rfl, q, rfl⟩
      go_wp2_with (go_at_call 67; refine (sIn _ _ _ _).mono ?_; rintro e w' ⟨rfl, rfl⟩)
      go_ret2
      exact MRes.nil HE.out (b_draws _ _)
  · simp only [Bool.not_eq_true] at hR
    have HE : Hid (M.powRes R m = ([], 1)) := by
      show _ = _; unfold M.powRes; rw [hR, if_neg (by simp)]
    have HR := Lib.hid hR
    clear h hR
    go_enter Try.func31, Try.ntmps31
    go_wp2_with fail
    refine (sIsMatrix_b _ _ _ R _ false HR.out HA.out).mono ?_
    rintro e w' ⟨rfl, q, rfl⟩
    go_wp2
    go_ret2
    exact MRes.nil HE.out (b_draws _ _)
end Go.Proofs.Ytokhcpiicfmaeaa.V
