/- IsPotential, IsEigenVector and IsSubEigen in the program. -/
import Derived.Test.YtmldjmlihkcchaaImg
import Derived.Test.YtmldjmlihkcchaaPot3
import Derived.Test.YtmldjmlihkcchaaClo4
namespace Go.Proofs.Ytmldjmlihkcchaa
namespace V
open Go.RowKit
theorem M.ext_at {l l' : List Int} {n : Nat} (h1 : l.length = n) (h2 : l'.length = n) (h : ∀ i, i < n → l.getD i 0 = l'.getD i 0) : l = l' := by
  apply List.ext_getElem (by omega)
  intro k k1 k2
  have := h k (by omega)
  simpa [k1, k2] using this
set_option maxRecDepth 100000 in
set_option maxHeartbeats 1000000 in
theorem isPotential (a : Option Addr) (n cap : Nat) (R : List (List Int)) (num den : Int) (a' : Option Addr) (N cap' : Nat) (l : List Int) (w0 : World) (h : Mat w0 a n R) (h' : Ints .i64 w0 a' N l) :
    Calls Try.prog 37 #[.slice a n cap, .agg #[.int .i64 num, .int .i64 den], .slice a' N cap'] w0 fun e w' => e = .returned (.bool (M.isPotB R num den l)) ∧ Below w0.heap.size w0 w' := by
  obtain ⟨w, hwd⟩ : ∃ w, w = w0.alloc (rbox num den) := ⟨_, rfl⟩
  have HX : Hid (Boxed w0 w num den) := by show Boxed _ _ _ _; rw [hwd]; exact boxed _ _ _
  have HA : Hid (Mat w a n R) := h.below HX.out.below
  have HI : Hid (Ints .i64 w a' N l) := h'.below HX.out.below
  have HL := Lib.hid h'.1
  have HRn := Lib.hid h.1
  have HZ := Lib.hid HX.out.size
  obtain ⟨c0, c1⟩ := HX.out.cells (Below.refl _ _)
  obtain ⟨b, hb⟩ : ∃ b, b = M.imgB R num den l := ⟨_, rfl⟩
  have HB := Lib.hid hb.symm
  cases b with
  | false =>
    have HE : Hid (M.isPotB R num den l = false) := by show _ = _; rw [M.pot_img, ← hb]; rfl
    clear h h' hb
    go_enter Try.func37, Try.ntmps37
    go_wp2_with fail
    simp only [← hwd] at *
    clear hwd
    refine (shiftedImage _ _ _ R _ _ _ _ _ l _ HA.out HI.out).mono ?_
    rintro e w1 ⟨b1, m, c, rfl, ho, hb⟩
    rw [HB.out]
    have HB1 := Lib.hid (HX.out.trans hb)
    clear ho hb
    go_wp2
    go_ret
    exact ⟨retB HE.out.symm, HB1.out⟩
  | true =>
    obtain ⟨y, hy⟩ : ∃ y, y = M.imgL R num den l := ⟨_, rfl⟩
    obtain ⟨d, hd⟩ : ∃ d, d = l.any fun v => decide (v = -1000000000000000) := ⟨_, rfl⟩
    have HD : Hid (d = true ↔ (-1000000000000000 : Int) ∈ l) := by
      show _ ↔ _
      rw [hd, List.any_eq_true]
      exact ⟨fun ⟨x, hx, e⟩ => by rw [decide_eq_true_eq] at e; rw [← e]; exact hx, fun h => ⟨_, h, by simp⟩⟩
    have HE : Hid (M.isPotB R num den l = (!d && M.atMostB y l)) := by show _ = _; rw [M.pot_img, ← hb, hy, hd]; rfl
    have HY : Hid (M.imgR R num den l = y) := by show _ = _; rw [M.imgR_t hb.symm, hy]
    have hyl : y.length = N := by rw [hy, M.imgL_len, h.1, ← (M.cmpOk_t (by rw [M.imgB_cmp, eq_comm, Bool.and_eq_true] at hb; exact hb.1)).2.2.2.trans h.1, h'.1]
    have hN10 : N ≤ 1000 := by
      have := M.cmpOk_t (R := R) (a := num) (b := den) (x := l) (by rw [M.imgB_cmp, eq_comm, Bool.and_eq_true] at hb; exact hb.1)
      have h2 := (M.isVec_t this.2.2.1).2.1
      rw [h'.1] at h2; omega
    have HYl := Lib.hid hyl
    clear h h' hb hy hyl hd
    cases d with
    | true =>
      have HDm : Hid ((-1000000000000000 : Int) ∈ l) := HD.out.1 rfl
      clear HD
      go_enter Try.func37, Try.ntmps37
      go_wp2_with fail
      simp only [← hwd] at *
      clear hwd
      refine (shiftedImage _ _ _ R _ _ _ _ _ l _ HA.out HI.out).mono ?_
      rintro e w1 ⟨b1, m, c, rfl, ho, hb⟩
      rw [HB.out]
      have HB1 := Lib.hid (HX.out.trans hb)
      have HI1 := Lib.hid (HI.out.below hb)
      clear ho hb
      go_wp2_with fail
      refine (containsI _ _ _ l _ true _ HI1.out ⟨fun _ => HDm.out, fun _ => rfl⟩).mono ?_
      rintro e w' ⟨rfl, rfl⟩
      go_wp2
      go_ret
      exact ⟨retB HE.out.symm, HB1.out⟩
    | false =>
      have HDn : Hid (¬ (-1000000000000000 : Int) ∈ l) := fun k => by have := HD.out.2 k; cases this
      clear HD
      go_enter Try.func37, Try.ntmps37
      go_wp2_with fail
      simp only [← hwd] at *
      clear hwd
      refine (shiftedImage _ _ _ R _ _ _ _ _ l _ HA.out HI.out).mono ?_
      rintro e w1 ⟨b1, m, c, rfl, ho, hb⟩
      rw [HB.out]
      rw [HY.out] at ho
      obtain rfl : m = N := by rw [ho.len, HYl.out]
      have HO := Lib.hid ho.ints'
      have HB1 := Lib.hid (HX.out.trans hb)
      have HI1 := Lib.hid (HI.out.below hb)
      clear ho hb
      go_wp2_with fail
      refine (containsI _ _ _ l _ false _ HI1.out ⟨fun k => absurd k Bool.false_ne_true, fun k => absurd k HDn.out⟩).mono ?_
      rintro e w' ⟨rfl, rfl⟩
      go_wp2_with fail
      refine (isAtMost _ _ _ y _ _ l _ HO.out HI1.out hN10).mono ?_
      rintro e w' ⟨rfl, rfl⟩
      go_wp2
      go_ret
      exact ⟨retB HE.out.symm, HB1.out⟩
end V
end Go.Proofs.Ytmldjmlihkcchaa
