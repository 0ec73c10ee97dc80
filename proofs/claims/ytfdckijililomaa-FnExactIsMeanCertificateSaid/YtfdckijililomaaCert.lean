/- IsMeanCertificate, in the program and in the model. -/
import Derived.Test.YtfdckijililomaaPot3
import Derived.Test.YtfdckijililomaaMean3
namespace Go.Proofs.Ytfdckijililomaa
namespace M
theorem isPotB_t {R : List (List Int)} {a b : Int} {x : List Int} (h : isPotB R a b x = true) : sqB R = true ∧ isRat a b = true := by
  unfold isPotB at h
  rw [Bool.and_eq_true, Bool.and_eq_true] at h
  exact h.1
theorem certB_1 {R : List (List Int)} {a b : Int} {l x : List Int} (h : isPotB R a b x = false) : certB R a b l x = false := by unfold certB; rw [h]; rfl
theorem certB_2 {R : List (List Int)} {a b : Int} {l x : List Int} (h : cycB R l = false) : certB R a b l x = false := by unfold certB; rw [h]; simp
theorem certB_3 {R : List (List Int)} {a b : Int} {l x : List Int} (h : isPotB R a b x = true) (hc : cycB R l = true) : certB R a b l x = decide (meanR (aroundW R l) l.length = (a, b)) := by unfold certB; rw [h, hc]; rfl
end M
namespace V
open Go.RowKit
theorem three (a b c d : Int) : (c = a ∧ d = b) ∨ (c = a ∧ ¬ b = d ∧ (b == d) = false) ∨ (¬ a = c ∧ (a == c) = false) := by
  by_cases h1 : a = c
  · by_cases h2 : b = d
    · exact .inl ⟨h1.symm, h2.symm⟩
    · exact .inr (.inl ⟨h1.symm, h2, by simpa using h2⟩)
  · exact .inr (.inr ⟨h1, by simpa using h1⟩)
set_option maxRecDepth 100000 in
set_option maxHeartbeats 2000000 in
theorem isMeanCertificate (a : Option Addr) (n cap : Nat) (R : List (List Int)) (num den : Int) (a' : Option Addr) (N cap' : Nat) (l : List Int) (a'' : Option Addr) (K cap'' : Nat) (x : List Int) (w0 : World) (h : Mat w0 a n R) (h' : Ints .i64 w0 a' N l) (h'' : Ints .i64 w0 a'' K x) (hc1 : N ≤ cap') (hc2 : cap' ≤ maxLen) :
    Calls Try.prog 53 #[.slice a n cap, .agg #[.int .i64 num, .int .i64 den], .slice a' N cap', .slice a'' K cap''] w0 fun e w' => e = .returned (.bool (M.certB R num den l x)) ∧ Below w0.heap.size w0 w' := by
  obtain ⟨w, hwd⟩ : ∃ w, w = w0.alloc (rbox num den) := ⟨_, rfl⟩
  have HX : Hid (Boxed w0 w num den) := by show Boxed _ _ _ _; rw [hwd]; exact boxed _ _ _
  have HA : Hid (Mat w a n R) := h.below HX.out.below
  have HI : Hid (Ints .i64 w a' N l) := h'.below HX.out.below
  have HJ : Hid (Ints .i64 w a'' K x) := h''.below HX.out.below
  have HM := Lib.hid hc2
  have HZ := Lib.hid HX.out.size
  obtain ⟨c0, c1⟩ := HX.out.cells (Below.refl _ _)
  obtain ⟨b, hb⟩ : ∃ b, b = M.isPotB R num den x := ⟨_, rfl⟩
  have HP := Lib.hid hb
  cases b with
  | false =>
    have HE := Lib.hid (M.certB_1 (l := l) hb.symm)
    clear h h' h'' hb hc2
    go_enter Try.func53, Try.ntmps53
    go_wp2_with fail
    simp only [← hwd] at *
    clear hwd
    refine (isPotential _ _ _ R _ _ _ _ _ x _ HA.out HJ.out).mono ?_
    rintro e w1 ⟨rfl, hb1⟩
    rw [← HP.out]
    have HB1 := Lib.hid (HX.out.trans hb1)
    clear hb1
    go_wp2
    go_ret
    exact ⟨retB HE.out.symm, HB1.out⟩
  | true =>
    obtain ⟨hs, hr⟩ := M.isPotB_t hb.symm
    have HS := Lib.hid hs
    obtain ⟨c, hc⟩ : ∃ c, c = M.cycB R l := ⟨_, rfl⟩
    have HIC : Hid (M.isCycB R l = c) := by show _ = _; unfold M.isCycB; rw [hs, ← hc]; rfl
    cases c with
    | false =>
      have HE := Lib.hid (M.certB_2 (a := num) (b := den) (x := x) hc.symm)
      clear h h' h'' hb hc2 hs hr hc
      go_enter Try.func53, Try.ntmps53
      go_wp2_with fail
      simp only [← hwd] at *
      clear hwd
      refine (isPotential _ _ _ R _ _ _ _ _ x _ HA.out HJ.out).mono ?_
      rintro e w1 ⟨rfl, hb1⟩
      rw [← HP.out]
      have HB1 := Lib.hid hb1
      clear hb1
      go_wp2_with fail
      refine (isCycle_b _ _ _ R _ _ _ l _ false HIC.out (HA.out.below HB1.out) (HI.out.below HB1.out) hc1 HM.out).mono ?_
      rintro e w2 ⟨rfl, hb2⟩
      have HB2 := Lib.hid (HX.out.trans (bnext HB1.out hb2))
      clear hb2
      go_wp2
      go_ret
      exact ⟨retB HE.out.symm, HB2.out⟩
    | true =>
      have HC := Lib.hid hc.symm
      obtain ⟨m, hm⟩ : ∃ m, m = M.meanR (M.aroundW R l) l.length := ⟨_, rfl⟩
      have HMn := Lib.hid hm
      have HE : Hid (M.certB R num den l x = decide (m = (num, den))) := by show _ = _; rw [M.certB_3 hb.symm hc.symm, hm]
      clear h h' h'' hb hc2 hs hr hc hm
      obtain ⟨m1, m2⟩ := m
      have HE2 : Hid ((m1 == num && m2 == den) = M.certB R num den l x) := by
        show _ = _
        rw [HE.out, Bool.eq_iff_iff, Bool.and_eq_true, decide_eq_true_eq, beq_iff_eq, beq_iff_eq, Prod.mk.injEq]
      rcases three m1 m2 num den with ⟨rfl, rfl⟩ | ⟨rfl, e2, e3⟩ | ⟨e2, e3⟩
      all_goals
        go_enter Try.func53, Try.ntmps53
        go_wp2_with fail
        simp only [← hwd] at *
        clear hwd
        refine (isPotential _ _ _ R _ _ _ _ _ x _ HA.out HJ.out).mono ?_
        rintro e w1 ⟨rfl, hb1⟩
        rw [← HP.out]
        have HB1 := Lib.hid hb1
        clear hb1
        go_wp2_with fail
        refine (isCycle_b _ _ _ R _ _ _ l _ true HIC.out (HA.out.below HB1.out) (HI.out.below HB1.out) hc1 HM.out).mono ?_
        rintro e w2 ⟨rfl, hb2⟩
        have HB2 := Lib.hid (bnext HB1.out hb2)
        clear hb2
        obtain ⟨p0, p1⟩ := HX.out.cells HB2.out
        have hlt : w0.heap.size < w2.heap.size := by have := HB2.out.size; have := HZ.out; omega
        go_wp2
        go_region_held3 (fun w' => w'.cell? ⟨w0.heap.size, 0, none⟩ = some (.int .i64 num) ∧ w'.cell? ⟨w0.heap.size, 1, none⟩ = some (.int .i64 den) ∧ Below w2.heap.size w2 w') (first | exact ⟨p0, p1, (Below.refl _ _).drew⟩ | exact V.keep3 hlt ‹_ ∧ _ ∧ Below _ _ _› hb)
          (first | (go_at_call 110; refine (givenMean _ _ _ R _ _ _ l _ (HA.out.below (HB2.out.trans ((V.low3 ‹_ ∧ _ ∧ Below _ _ _›).mono HB2.out.size))) HS.out HC.out (HI.out.below (HB2.out.trans ((V.low3 ‹_ ∧ _ ∧ Below _ _ _›).mono HB2.out.size))) hc1 HM.out).mono ?_; rintro e w3 ⟨rfl, hb⟩; rw [← HMn.out]))
        all_goals
          have hb3 : Below w2.heap.size w2 w3 := V.low3 (by assumption)
          have HB3 := Lib.hid (HX.out.trans (HB2.out.trans (hb3.mono HB2.out.size)))
          clear hb hb3
          go_wp2
          all_goals
            go_ret
            refine ⟨retB ?_, HB3.out⟩
            rw [← HE2.out]
            try simp_all
set_option maxRecDepth 100000 in
set_option maxHeartbeats 2000000 in
theorem sIsMeanCertificate (a : Option Addr) (n cap : Nat) (R : List (List Int)) (num den : Int) (a' : Option Addr) (N cap' : Nat) (l : List Int) (a'' : Option Addr) (K cap'' : Nat) (x : List Int) (w0 : World) (h : Mat w0 a n R) (h' : Ints .i64 w0 a' N l) (h'' : Ints .i64 w0 a'' K x) (hc1 : N ≤ cap') (hc2 : cap' ≤ maxLen) :
    Calls Try.prog 52 #[.slice a n cap, .agg #[.int .i64 num, .int .i64 den], .slice a' N cap', .slice a'' K cap''] w0 fun e w' => e = .returned (.bool (M.certB R num den l x)) ∧ Below w0.heap.size w0 w' := by
  obtain ⟨w, hwd⟩ : ∃ w, w = w0.alloc (rbox num den) := ⟨_, rfl⟩
  have HX : Hid (Boxed w0 w num den) := by show Boxed _ _ _ _; rw [hwd]; exact boxed _ _ _
  have HA : Hid (Mat w a n R) := h.below HX.out.below
  have HI : Hid (Ints .i64 w a' N l) := h'.below HX.out.below
  have HJ : Hid (Ints .i64 w a'' K x) := h''.below HX.out.below
  have HM := Lib.hid hc2
  have HZ := Lib.hid HX.out.size
  obtain ⟨c0, c1⟩ := HX.out.cells (Below.refl _ _)
  obtain ⟨b, hb⟩ : ∃ b, b = M.isPotB R num den x := ⟨_, rfl⟩
  have HP := Lib.hid hb
  cases b with
  | false =>
    have HE := Lib.hid (M.certB_1 (l := l) hb.symm)
    clear h h' h'' hb hc2
    go_enter Try.func52, Try.ntmps52
    go_wp2_with fail
    simp only [← hwd] at *
    clear hwd
    refine (sIsPotential _ _ _ R _ _ _ _ _ x _ HA.out HJ.out).mono ?_
    rintro e w1 ⟨rfl, hb1⟩
    rw [← HP.out]
    have HB1 := Lib.hid (HX.out.trans hb1)
    clear hb1
    go_wp2
    go_ret
    exact ⟨retB HE.out.symm, HB1.out⟩
  | true =>
    obtain ⟨hs, hr⟩ := M.isPotB_t hb.symm
    have HS := Lib.hid hs
    by_cases hc : M.cycB R l = true
    · obtain ⟨m, hm⟩ : ∃ m, m = M.meanR (M.aroundW R l) l.length := ⟨_, rfl⟩
      have HC : Hid (M.mean2 R l = (m, true)) := by show _ = _; unfold M.mean2; rw [if_pos hc, hm]
      have HE : Hid (M.certB R num den l x = decide (m = (num, den))) := by show _ = _; rw [M.certB_3 hb.symm hc, hm]
      clear h h' h'' hb hc2 hs hr hc hm
      obtain ⟨m1, m2⟩ := m
      have HE2 : Hid ((m1 == num && m2 == den) = M.certB R num den l x) := by
        show _ = _
        rw [HE.out, Bool.eq_iff_iff, Bool.and_eq_true, decide_eq_true_eq, beq_iff_eq, beq_iff_eq, Prod.mk.injEq]
      go_enter Try.func52, Try.ntmps52
      go_wp2_with fail
      simp only [← hwd] at *
      clear hwd
      refine (sIsPotential _ _ _ R _ _ _ _ _ x _ HA.out HJ.out).mono ?_
      rintro e w1 ⟨rfl, hb1⟩
      rw [← HP.out]
      have HB1 := Lib.hid hb1
      clear hb1
      go_wp2_with fail
      refine (sMean _ _ _ R _ _ _ l _ (HA.out.below HB1.out) HS.out (HI.out.below HB1.out) hc1 HM.out).mono ?_
      rintro e w2 ⟨rfl, hb2⟩
      rw [HC.out]
      have HB2 := Lib.hid (bnext HB1.out hb2)
      obtain ⟨p0, p1⟩ := HX.out.cells HB2.out
      have hlt : w0.heap.size < w2.heap.size := by have := HB2.out.size; have := HZ.out; omega
      clear hb2
      go_wp2
      all_goals
        go_ret
        refine ⟨retB ?_, by first | exact (HX.out.trans HB2.out).alloc (HX.out.trans HB2.out).size _ | exact HX.out.trans HB2.out⟩
        rw [← HE2.out]
        try simp_all
    · simp only [Bool.not_eq_true] at hc
      have HC : Hid (M.mean2 R l = ((0, 0), false)) := by show _ = _; unfold M.mean2; rw [if_neg (by rw [hc]; exact Bool.false_ne_true)]
      have HE := Lib.hid (M.certB_2 (a := num) (b := den) (x := x) hc)
      clear h h' h'' hb hc2 hs hr hc
      go_enter Try.func52, Try.ntmps52
      go_wp2_with fail
      simp only [← hwd] at *
      clear hwd
      refine (sIsPotential _ _ _ R _ _ _ _ _ x _ HA.out HJ.out).mono ?_
      rintro e w1 ⟨rfl, hb1⟩
      rw [← HP.out]
      have HB1 := Lib.hid hb1
      clear hb1
      go_wp2_with fail
      refine (sMean _ _ _ R _ _ _ l _ (HA.out.below HB1.out) HS.out (HI.out.below HB1.out) hc1 HM.out).mono ?_
      rintro e w2 ⟨rfl, hb2⟩
      rw [HC.out]
      have HB2 := Lib.hid (bnext HB1.out hb2)
      obtain ⟨p0, p1⟩ := HX.out.cells HB2.out
      clear hb2
      go_wp2
      go_ret
      exact ⟨retB HE.out.symm, by first | exact (HX.out.trans HB2.out).alloc (HX.out.trans HB2.out).size _ | exact HX.out.trans HB2.out⟩
end V
end Go.Proofs.Ytfdckijililomaa
