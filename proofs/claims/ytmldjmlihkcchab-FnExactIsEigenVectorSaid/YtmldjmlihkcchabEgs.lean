/- IsEigenVector and IsSubEigen in the model; StretchMatrix in the program and in the model. -/
import Derived.Test.YtmldjmlihkcchabCpe
import Derived.Test.YtmldjmlihkcchabClo5
namespace Go.Proofs.Ytmldjmlihkcchab
namespace M
def strRes (R : List (List Int)) (k : Int) : List (List Int) × Int := if sqB R then (if 1 ≤ k ∧ k ≤ 1000000 then (if isMat (shM R 0 k) then (shM R 0 k, 0) else ([], 3)) else ([], 2)) else ([], 1)
theorem strRes_ok (R : List (List Int)) (k : Int) : okM (strRes R k).1 := by
  unfold strRes
  split
  · split
    · split
      · next h => exact .inr h
      · exact .inl rfl
    · exact .inl rfl
  · exact .inl rfl
end M
namespace V
open Go.RowKit
set_option maxRecDepth 100000 in
set_option maxHeartbeats 400000 in
theorem sIsEigenVector (a : Option Addr) (n cap : Nat) (R : List (List Int)) (num den : Int) (a' : Option Addr) (N cap' : Nat) (l : List Int) (w : World) (h : Mat w a n R) (h' : Ints .i64 w a' N l) :
    Calls Try.prog 25 #[.slice a n cap, .agg #[.int .i64 num, .int .i64 den], .slice a' N cap'] w fun e w' => e = .returned (.bool (M.eigB R num den l)) ∧ Below w.heap.size w w' := by
  obtain ⟨wb, hwb⟩ : ∃ x, x = w.alloc (rbox num den) := ⟨_, rfl⟩
  have HX : Hid (Boxed w wb num den) := by show Boxed _ _ _ _; rw [hwb]; exact boxed _ _ _
  have HA := Lib.hid (h.below HX.out.below)
  have HI := Lib.hid (h'.below HX.out.below)
  obtain ⟨c0, c1⟩ := HX.out.cells (Below.refl _ _)
  have hz := HX.out.size
  obtain ⟨k, hk⟩ : ∃ k, k = M.cmpE R num den l := ⟨_, rfl⟩
  have HK := Lib.hid hk
  have HE : Hid (M.eigB R num den l = (k == 0)) := by show _ = _; rw [M.eig_cmp, hk]; rfl
  clear h h' hk
  go_enter Try.func25, Try.ntmps25
  go_wp2_with fail
  simp only [← hwb] at *
  clear hwb
  refine (sCompareE _ _ _ R num den _ _ _ l _ HA.out HI.out).mono ?_
  rintro e w1 ⟨rfl, hb⟩
  rw [← HK.out]
  have HB := Lib.hid (HX.out.trans hb)
  clear hb
  go_wp2
  go_ret
  exact ⟨retB HE.out.symm, HB.out⟩
set_option maxRecDepth 100000 in
set_option maxHeartbeats 400000 in
theorem sIsSubEigen (a : Option Addr) (n cap : Nat) (R : List (List Int)) (num den : Int) (a' : Option Addr) (N cap' : Nat) (l : List Int) (w : World) (h : Mat w a n R) (h' : Ints .i64 w a' N l) :
    Calls Try.prog 30 #[.slice a n cap, .agg #[.int .i64 num, .int .i64 den], .slice a' N cap'] w fun e w' => e = .returned (.bool (M.subB R num den l)) ∧ Below w.heap.size w w' := by
  obtain ⟨wb, hwb⟩ : ∃ x, x = w.alloc (rbox num den) := ⟨_, rfl⟩
  have HX : Hid (Boxed w wb num den) := by show Boxed _ _ _ _; rw [hwb]; exact boxed _ _ _
  have HA := Lib.hid (h.below HX.out.below)
  have HI := Lib.hid (h'.below HX.out.below)
  obtain ⟨c0, c1⟩ := HX.out.cells (Below.refl _ _)
  have hz := HX.out.size
  obtain ⟨k, hk⟩ : ∃ k, k = M.cmpE R num den l := ⟨_, rfl⟩
  have HK := Lib.hid hk
  have HE : Hid (M.subB R num den l = decide (k ≤ 0)) := by show _ = _; rw [M.sub_cmp, hk]
  clear h h' hk
  go_enter Try.func30, Try.ntmps30
  go_wp2_with fail
  simp only [← hwb] at *
  clear hwb
  refine (sCompareE _ _ _ R num den _ _ _ l _ HA.out HI.out).mono ?_
  rintro e w1 ⟨rfl, hb⟩
  rw [← HK.out]
  have HB := Lib.hid (HX.out.trans hb)
  clear hb
  go_wp2
  go_ret
  exact ⟨retB HE.out.symm, HB.out⟩
set_option maxRecDepth 100000 in
set_option maxHeartbeats 1000000 in
theorem stretchMatrix (a : Option Addr) (n cap : Nat) (R : List (List Int)) (k : Int) (w : World) (h : Mat w a n R) :
    Calls Try.prog 33 #[.slice a n cap, .int .i64 k] w (MRes (M.strRes R k) w) := by
  have HA := Lib.hid h
  have HRn := Lib.hid h.1
  by_cases hs : M.sqB R = true
  · have HS := Lib.hid hs
    by_cases hk : 1 ≤ k ∧ k ≤ 1000000
    · obtain ⟨r1, n1, n2, r4⟩ := sq_parts HA.out hs
      have HQ := Lib.hid r1
      have HSm := Lib.hid r4
      obtain ⟨k1, k2⟩ := hk
      obtain ⟨b, hb⟩ : ∃ b, b = M.isMat (M.shM R 0 k) := ⟨_, rfl⟩
      have HM := Lib.hid hb.symm
      have HE : Hid (M.strRes R k = if b then (M.shM R 0 k, 0) else ([], 3)) := by
        show _ = _; rw [hb]; unfold M.strRes; rw [if_pos hs, if_pos ⟨k1, k2⟩]
      have HSh : Hid (M.mk n n (M.shf (M.ent R) 0 k) = M.shM R 0 k) := by show _ = _; unfold M.shM; rw [HRn.out]
      have HNr : Hid (M.Near 0 k) := by show M.Near 0 k; unfold M.Near; omega
      clear h hs hb r1 r4
      go_enter Try.func33, Try.ntmps33
      go_wp2_with fail
      refine (isSquare_b _ _ _ R _ true HS.out HA.out).mono ?_
      rintro e w' ⟨rfl, rfl⟩
      go_wp2_with fail
      refine (shiftedBy _ _ _ R _ _ _ HA.out HQ.out n1 n2 HSm.out HNr.out).mono ?_
      rintro e w2 ⟨a2, cap2, rfl, hO, hb⟩
      rw [HSh.out] at hO
      have HO := Lib.hid hO
      have HB2 := Lib.hid hb
      clear hO hb
      cases b with
      | true =>
        go_wp2_with fail
        refine (isMatrix_b _ _ _ _ _ true HM.out HO.out.mat).mono ?_
        rintro e w' ⟨rfl, rfl⟩
        go_wp2
        go_ret2
        rw [HE.out]
        exact ⟨_, _, _, rfl, HO.out, HB2.out⟩
      | false =>
        go_wp2_with fail
        refine (isMatrix_b _ _ _ _ _ false HM.out HO.out.mat).mono ?_
        rintro e w' ⟨rfl, rfl⟩
        go_wp2
        go_ret2
        exact MRes.nil HE.out HB2.out
    · have HE : Hid (M.strRes R k = ([], 2)) := by show _ = _; unfold M.strRes; rw [if_pos hs, if_neg hk]
      have hk' : k < 1 ∨ 1000000 < k := by omega
      clear h hs hk
      rcases hk' with hk | hk
      · go_enter Try.func33, Try.ntmps33
        go_wp2_with fail
        refine (isSquare_b _ _ _ R _ true HS.out HA.out).mono ?_
        rintro e w' ⟨rfl, rfl⟩
        go_wp2
        go_ret2
        exact MRes.nil HE.out (Below.refl _ _)
      · have hk1 : ¬ k < 1 := by omega
        go_enter Try.func33, Try.ntmps33
        go_wp2_with fail
        refine (isSquare_b _ _ _ R _ true HS.out HA.out).mono ?_
        rintro e w' ⟨rfl, rfl⟩
        go_wp2
        go_ret2
        exact MRes.nil HE.out (Below.refl _ _)
  · simp only [Bool.not_eq_true] at hs
    have HS := Lib.hid hs
    have HE : Hid (M.strRes R k = ([], 1)) := by show _ = _; unfold M.strRes; rw [hs]; rfl
    clear h hs
    go_enter Try.func33, Try.ntmps33
    go_wp2_with fail
    refine (isSquare_b _ _ _ R _ false HS.out HA.out).mono ?_
    rintro e w' ⟨rfl, rfl⟩
    go_wp2
    go_ret2
    exact MRes.nil HE.out (Below.refl _ _)
set_option maxRecDepth 100000 in
set_option maxHeartbeats 1000000 in
theorem sStretchMatrix (a : Option Addr) (n cap : Nat) (R : List (List Int)) (k : Int) (w : World) (h : Mat w a n R) :
    Calls Try.prog 32 #[.slice a n cap, .int .i64 k] w (MRes (M.strRes R k) w) := by
  have HA := Lib.hid h
  have HRn := Lib.hid h.1
  by_cases hs : M.sqB R = true
  · have HS := Lib.hid hs
    obtain ⟨c, hc⟩ : ∃ c, c = (decide (1 ≤ k) && decide (k ≤ 1000000)) := ⟨_, rfl⟩
    have HC := Lib.hid hc
    cases c with
    | true =>
      have hk : 1 ≤ k ∧ k ≤ 1000000 := by simpa using hc.symm
      obtain ⟨r1, n1, n2, r4⟩ := sq_parts HA.out hs
      have HQ := Lib.hid r1
      have HSm := Lib.hid r4
      obtain ⟨k1, k2⟩ := hk
      obtain ⟨b, hb⟩ : ∃ b, b = M.isMat (M.shM R 0 k) := ⟨_, rfl⟩
      have HM := Lib.hid hb.symm
      have HE : Hid (M.strRes R k = if b then (M.shM R 0 k, 0) else ([], 3)) := by
        show _ = _; rw [hb]; unfold M.strRes; rw [if_pos hs, if_pos ⟨k1, k2⟩]
      have HSh : Hid (M.mk n n (M.shf (M.ent R) 0 k) = M.shM R 0 k) := by show _ = _; unfold M.shM; rw [HRn.out]
      clear h hs hb r1 r4 hc
      go_enter Try.func32, Try.ntmps32
      go_wp2_with fail
      refine (sSquare_b _ _ _ R _ true HS.out HA.out).mono ?_
      rintro e w' ⟨rfl, q, rfl⟩
      go_wp2_with fail
      refine (sIn _ _ _ _).mono ?_
      rintro e w' ⟨rfl, rfl⟩
      rw [← HC.out]
      go_wp2_with fail
      refine (sStretch _ _ _ R k _ (HA.out.below (b_draws _ _)) HQ.out n1 n2 HSm.out k1 k2).mono ?_
      rintro e w2 ⟨a2, cap2, rfl, hO, hb⟩
      rw [HSh.out] at hO
      have HO := Lib.hid hO
      have HB2 := Lib.hid ((b_draws w q).trans hb)
      clear hO hb
      cases b with
      | true =>
        go_wp2_with fail
        refine (sResult _ _ _ _ true HM.out _ HO.out.mat).mono ?_
        rintro e w' ⟨rfl, q2, rfl⟩
        go_wp2
        go_ret2
        rw [HE.out]
        exact ⟨_, _, _, rfl, HO.out.below (b_draws _ _), below_drewN HB2.out _⟩
      | false =>
        go_wp2_with fail
        refine (sResult _ _ _ _ false HM.out _ HO.out.mat).mono ?_
        rintro e w' ⟨rfl, q2, rfl⟩
        go_wp2
        go_ret2
        exact MRes.nil HE.out (below_drewN HB2.out _)
    | false =>
      have HE : Hid (M.strRes R k = ([], 2)) := by
        show _ = _
        unfold M.strRes
        rw [if_pos hs, if_neg]
        intro k
        rw [decide_eq_true k.1, decide_eq_true k.2] at hc
        cases hc
      clear h hs hc
      go_enter Try.func32, Try.ntmps32
      go_wp2_with fail
      refine (sSquare_b _ _ _ R _ true HS.out HA.out).mono ?_
      rintro e w' ⟨rfl, q, rfl⟩
      go_wp2_with fail
      refine (sIn _ _ _ _).mono ?_
      rintro e w' ⟨rfl, rfl⟩
      rw [← HC.out]
      go_wp2
      go_ret2
      exact MRes.nil HE.out (b_draws _ _)
  · simp only [Bool.not_eq_true] at hs
    have HS := Lib.hid hs
    have HE : Hid (M.strRes R k = ([], 1)) := by show _ = _; unfold M.strRes; rw [hs]; rfl
    clear h hs
    go_enter Try.func32, Try.ntmps32
    go_wp2_with fail
    refine (sSquare_b _ _ _ R _ false HS.out HA.out).mono ?_
    rintro e w' ⟨rfl, q, rfl⟩
    go_wp2
    go_ret2
    exact MRes.nil HE.out (b_draws _ _)
end V
end Go.Proofs.Ytmldjmlihkcchab
