/- CycleMean and BestCycle in the model. -/
import Derived.Test.YtmldjmlihkcchaaBst
namespace Go.Proofs.Ytmldjmlihkcchaa
namespace V
open Go.RowKit
set_option maxRecDepth 100000 in
set_option maxHeartbeats 1000000 in
theorem sCycleMean (a : Option Addr) (n cap : Nat) (R : List (List Int)) (w : World) (h : Mat w a n R) :
    Calls Try.prog 15 #[.slice a n cap] w fun e w' => e = .returned (.tuple #[.agg #[.int .i64 (M.cycMeanRes R).1.1, .int .i64 (M.cycMeanRes R).1.2], .int .i64 (M.cycMeanRes R).2]) ∧ Below w.heap.size w w' := by
  have HA := Lib.hid h
  have HRn := Lib.hid h.1
  by_cases hs : M.sqB R = true
  · have HS := Lib.hid hs
    have HB0 : ∀ qd, Below (w.alloc (.cells #[.int .i64 0, .int .i64 0] 27)).heap.size (w.alloc (.cells #[.int .i64 0, .int .i64 0] 27)) ((w.alloc (.cells #[.int .i64 0, .int .i64 0] 27)).drewN qd) := fun qd => b_draws _ _
    have HB0 := Lib.hid HB0
    have HA0 : Hid (∀ qd, Mat ((w.alloc (.cells #[.int .i64 0, .int .i64 0] 27)).drewN qd) a n R) := fun qd => HA.out.below ((b_alloc _ _).trans ((HB0.out qd).mono (by simp)))
    by_cases hc : M.hasCyc (M.ent R) n = true
    · have hb := M.best_cyc hs (by rw [h.1]; exact hc)
      have HC : Hid (M.mean2 R (M.best2 R) = (M.bestR (M.ent R) n, true)) := by
        show _ = _
        unfold M.best2
        rw [HRn.out, hc, if_pos rfl]
        unfold M.mean2
        rw [if_pos hb.1, hb.2.1, HRn.out]
      have HNo := Lib.hid hc
      obtain ⟨x, hx⟩ : ∃ x, x = M.bestR (M.ent R) n := ⟨_, rfl⟩
      have HE : Hid (M.cycMeanRes R = M.lim x) := by show _ = _; unfold M.cycMeanRes; rw [if_pos hs, HRn.out, if_pos hc, hx]
      rw [← hx] at HC
      clear h hs hc hb hx
      obtain ⟨x1, x2⟩ := x
      go_enter Try.func15, Try.ntmps15
      go_wp2_with fail
      refine (sSquare_b _ _ _ R _ true HS.out (HA.out.below (b_alloc _ _))).mono ?_
      rintro e w' ⟨rfl, qd, rfl⟩
      go_wp2_with fail
      refine (sBest _ _ _ R _ (HA0.out qd) HS.out).mono ?_
      rintro e w0 ⟨b', n', c', rfl, ho, hb0⟩
      rw [HNo.out]
      have HO := Lib.hid ho
      have HBb := Lib.hid ((HB0.out qd).trans (hb0.mono (HB0.out qd).size))
      have HM0 : Hid (Mat w0 a n R) := (HA0.out qd).below hb0
      have HCp := Lib.hid (own_caps ho)
      clear ho hb0
      go_wp2_with fail
      refine (sMean _ _ _ R _ _ _ (M.best2 R) _ HM0.out HS.out HO.out.ints' HCp.out.1 HCp.out.2).mono ?_
      rintro e w1 ⟨rfl, hb⟩
      rw [HC.out]
      have hb1 := HBb.out.trans (hb.mono HBb.out.size)
      have hz := hb1.size
      simp at hz
      obtain ⟨hcc, hff⟩ := bcell hb1
      have z1 : w.heap.size < w1.heap.size := by omega
      clear hb
      go_wp2_with fail
      refine (sResultR _ _ _).mono ?_
      rintro e w2 ⟨rfl, hb2⟩
      obtain ⟨r, hr⟩ : ∃ r, r = M.lim (x1, x2) := ⟨_, rfl⟩
      rw [← hr] at HE ⊢
      clear hr
      unfold retQ
      obtain ⟨⟨r1, r2⟩, r3⟩ := r
      have hbb := hb1.trans (((b_alloc w1 _).trans (hb2.mono (by simp))).mono hb1.size)
      have hz2 := hbb.size
      simp at hz2
      obtain ⟨hc2, hf2⟩ := bcell hbb
      have z2 : w.heap.size < w2.heap.size := by omega
      go_wp2
      exact bodyPost_ret (v := .tuple #[.agg #[.int .i64 r1, .int .i64 r2], .int .i64 r3]) (by simp [results, Try.results15, go_sem, z2, hc2]) rfl ⟨by rw [HE.out], bel1s hbb⟩
    · simp only [Bool.not_eq_true] at hc
      have HNo := Lib.hid hc
      have HE : Hid (M.cycMeanRes R = ((0, 0), 4)) := by show _ = _; unfold M.cycMeanRes; rw [if_pos hs, HRn.out, if_neg (by rw [hc]; exact Bool.false_ne_true)]
      clear h hs hc
      go_enter Try.func15, Try.ntmps15
      go_wp2_with fail
      refine (sSquare_b _ _ _ R _ true HS.out (HA.out.below (b_alloc _ _))).mono ?_
      rintro e w' ⟨rfl, qd, rfl⟩
      go_wp2_with fail
      refine (sBest _ _ _ R _ (HA0.out qd) HS.out).mono ?_
      rintro e w1 ⟨b', n', c', rfl, ho, hb0⟩
      rw [HNo.out]
      have hb1 := (HB0.out qd).trans (hb0.mono (HB0.out qd).size)
      have hz := hb1.size
      simp at hz
      obtain ⟨hcc, hff⟩ := bcell hb1
      have z1 : w.heap.size < w1.heap.size := by omega
      clear ho hb0
      go_wp2
      exact bodyPost_ret (v := .tuple #[.agg #[.int .i64 0, .int .i64 0], .int .i64 4]) (by simp [results, Try.results15, go_sem, z1, hcc]) rfl ⟨by rw [HE.out], bel1s hb1⟩
  · simp only [Bool.not_eq_true] at hs
    have HS := Lib.hid hs
    have HE : Hid (M.cycMeanRes R = ((0, 0), 1)) := by show _ = _; unfold M.cycMeanRes; rw [if_neg (by rw [hs]; exact Bool.false_ne_true)]
    clear h hs
    go_enter Try.func15, Try.ntmps15
    go_wp2_with fail
    refine (sSquare_b _ _ _ R _ false HS.out (HA.out.below (b_alloc _ _))).mono ?_
    rintro e w' ⟨rfl, qd, rfl⟩
    go_wp2
    exact bodyPost_ret (v := .tuple #[.agg #[.int .i64 0, .int .i64 0], .int .i64 1]) (by simp [results, Try.results15, go_sem]) rfl ⟨by rw [HE.out], bel1s (b_draws _ _)⟩
set_option maxRecDepth 100000 in
set_option maxHeartbeats 1000000 in
theorem sBestCycle (a : Option Addr) (n cap : Nat) (R : List (List Int)) (w : World) (h : Mat w a n R) :
    Calls Try.prog 26 #[.slice a n cap] w (VRes (M.bestRes R) w) := by
  have HA := Lib.hid h
  have HRn := Lib.hid h.1
  by_cases hs : M.sqB R = true
  · have HS := Lib.hid hs
    obtain ⟨c, hc⟩ : ∃ c, c = M.hasCyc (M.ent R) n := ⟨_, rfl⟩
    have HNo := Lib.hid hc.symm
    have HE : Hid (M.bestRes R = if c then (M.best2 R, 0) else ([], 4)) := by
      show _ = _; unfold M.bestRes M.best2; rw [if_pos hs, HRn.out, ← hc]; cases c <;> rfl
    clear h hs hc
    go_enter Try.func26, Try.ntmps26
    go_wp2_with fail
    refine (sSquare_b _ _ _ R _ true HS.out HA.out).mono ?_
    rintro e w' ⟨rfl, qd, rfl⟩
    go_wp2_with fail
    refine (sBest _ _ _ R _ (HA.out.below (b_draws _ _)) HS.out).mono ?_
    rintro e w1 ⟨b', n', c', rfl, ho, hb0⟩
    rw [HNo.out]
    have HO := Lib.hid ho
    have HB := Lib.hid ((b_draws w qd).trans hb0)
    clear ho hb0
    cases c with
    | false =>
      go_wp2
      go_ret2
      exact VRes.nil HE.out HB.out
    | true =>
      go_wp2
      go_ret2
      rw [HE.out]
      exact ⟨_, _, _, rfl, HO.out, HB.out⟩
  · simp only [Bool.not_eq_true] at hs
    have HS := Lib.hid hs
    have HE : Hid (M.bestRes R = ([], 1)) := by show _ = _; unfold M.bestRes; rw [if_neg (by rw [hs]; exact Bool.false_ne_true)]
    clear h hs
    go_enter Try.func26, Try.ntmps26
    go_wp2_with fail
    refine (sSquare_b _ _ _ R _ false HS.out HA.out).mono ?_
    rintro e w' ⟨rfl, qd, rfl⟩
    go_wp2
    go_ret2
    exact VRes.nil HE.out (b_draws _ _)
end V
end Go.Proofs.Ytmldjmlihkcchaa
