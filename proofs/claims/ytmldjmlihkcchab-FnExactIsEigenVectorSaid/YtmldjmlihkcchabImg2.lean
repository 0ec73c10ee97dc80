/- IsPotential, IsEigenVector and IsSubEigen in the program. -/
import Derived.Test.YtmldjmlihkcchabImg
import Derived.Test.YtmldjmlihkcchabPot3
import Derived.Test.YtmldjmlihkcchabClo4
namespace Go.Proofs.Ytmldjmlihkcchab
namespace V
open Go.RowKit
theorem M.ext_at {l l' : List Int} {n : Nat} (h1 : l.length = n) (h2 : l'.length = n) (h : ∀ i, i < n → l.getD i 0 = l'.getD i 0) : l = l' := by
  apply List.ext_getElem (by omega)
  intro k k1 k2
  have := h k (by omega)
  simpa [k1, k2] using this
set_option maxRecDepth 100000 in
set_option maxHeartbeats 400000 in
theorem slicesEqual (a : Option Addr) (n cap : Nat) (y : List Int) (a' : Option Addr) (cap' : Nat) (x : List Int) (w : World) (h : Ints .i64 w a n y) (h' : Ints .i64 w a' n x) (hn : n ≤ 1000) :
    Calls Try.prog 53 #[.slice a n cap, .slice a' n cap'] w fun e w' => e = .returned (.bool (decide (y = x))) ∧ ∃ q, w' = w.drewN q := by
  have HY := Lib.hid h
  have HXx := Lib.hid h'
  have HL := Lib.hid h.1
  have HL' := Lib.hid h'.1
  clear h h'
  go_enter Try.func53, Try.ntmps53
  go_wp2
  go_loopw [5, 13] (fun _ i wr => ∃ k : Nat, k ≤ n ∧ i = .int .i64 k ∧ Hid (∀ i, i < k → y.getD i 0 = x.getD i 0) ∧ ∃ q, wr = w.drewN q) (fun _ i _ => n - (intOf i).toNat)
  case atStart => exact ⟨0, Nat.zero_le _, rfl, fun i hi => absurd hi (Nat.not_lt_zero i), 0, rfl⟩
  case round =>
    obtain ⟨k, hk, rfl, HK, q, rfl⟩ := hrel
    by_cases hlt : k < n
    · have hki : (k : Int) < (n : Int) := by omega
      obtain ⟨d1, d2, u, rfl, -, hu, cu⟩ := HY.out.at k hlt
      obtain ⟨d3, d4, v, rfl, -, hv, cv⟩ := HXx.out.at k hlt
      have HU := Lib.hid hu
      have HV := Lib.hid hv
      clear hu hv
      by_cases hgt : u = v
      · have HK2 : Hid (∀ i, i < k + 1 → y.getD i 0 = x.getD i 0) := fun i hi => by
          by_cases e : i = k
          · subst e; rw [← HU.out, ← HV.out]; exact hgt
          · exact HK.out i (by omega)
        have hb : (u != v) = false := by simp [hgt]
        clear hgt
        go_wp2
        go_quiet (fail)
        go_wp2
        go_roundw
        case rel => exact ⟨k + 1, by omega, by go_num, HK2, _, rfl⟩
        case measure => simp [intOf]; omega
      · have HF : Hid (decide (y = x) = false) := decide_eq_false fun e => hgt (by rw [HU.out, HV.out, e])
        have hb : (u != v) = true := by simpa using hgt
        go_wp2
        go_quiet (fail)
        go_wp2
        go_ret
        exact ⟨retB HF.out.symm, _, World.drewN_drewN _ _ _⟩
    · obtain rfl : k = n := by omega
      have HF : Hid (decide (y = x) = true) := decide_eq_true (M.ext_at HL.out HL'.out HK.out)
      go_wp2
      go_ret
      exact ⟨retB HF.out.symm, _, rfl⟩
set_option maxRecDepth 100000 in
set_option maxHeartbeats 1000000 in
theorem isEigenVector (a : Option Addr) (n cap : Nat) (R : List (List Int)) (num den : Int) (a' : Option Addr) (N cap' : Nat) (l : List Int) (w0 : World) (h : Mat w0 a n R) (h' : Ints .i64 w0 a' N l) :
    Calls Try.prog 28 #[.slice a n cap, .agg #[.int .i64 num, .int .i64 den], .slice a' N cap'] w0 fun e w' => e = .returned (.bool (M.eigB R num den l)) ∧ Below w0.heap.size w0 w' := by
  obtain ⟨w, hwd⟩ : ∃ w, w = w0.alloc (rbox num den) := ⟨_, rfl⟩
  have HX : Hid (Boxed w0 w num den) := by show Boxed _ _ _ _; rw [hwd]; exact boxed _ _ _
  have HA : Hid (Mat w a n R) := h.below HX.out.below
  have HI : Hid (Ints .i64 w a' N l) := h'.below HX.out.below
  have HL := Lib.hid h'.1
  have HRn := Lib.hid h.1
  have HZ := Lib.hid HX.out.size
  obtain ⟨c0, c1⟩ := HX.out.cells (Below.refl _ _)
  obtain ⟨b, hb⟩ : ∃ b, b = M.imgB R num den l := ⟨_, rfl⟩
  have HB := Lib.hid hb.symm
  cases b with
  | false =>
    have HE : Hid (M.eigB R num den l = false) := by show _ = _; unfold M.eigB; rw [← hb]; rfl
    clear h h' hb
    go_enter Try.func28, Try.ntmps28
    go_wp2_with fail
    simp only [← hwd] at *
    clear hwd
    refine (shiftedImage _ _ _ R _ _ _ _ _ l _ HA.out HI.out).mono ?_
    rintro e w1 ⟨b1, m, c, rfl, ho, hb⟩
    rw [HB.out]
    have HB1 := Lib.hid (HX.out.trans hb)
    clear ho hb
    go_wp2
    go_ret
    exact ⟨retB HE.out.symm, HB1.out⟩
  | true =>
    obtain ⟨y, hy⟩ : ∃ y, y = M.imgL R num den l := ⟨_, rfl⟩
    have HE : Hid (M.eigB R num den l = decide (y = l)) := by show _ = _; unfold M.eigB; rw [← hb, hy]; rfl
    have HY : Hid (M.imgR R num den l = y) := by show _ = _; rw [M.imgR_t hb.symm, hy]
    have hyl : y.length = N := by rw [hy, M.imgL_len, h.1, ← (M.cmpOk_t (by rw [M.imgB_cmp, eq_comm, Bool.and_eq_true] at hb; exact hb.1)).2.2.2.trans h.1, h'.1]
    have hN10 : N ≤ 1000 := by
      have := M.cmpOk_t (R := R) (a := num) (b := den) (x := l) (by rw [M.imgB_cmp, eq_comm, Bool.and_eq_true] at hb; exact hb.1)
      have h2 := (M.isVec_t this.2.2.1).2.1
      rw [h'.1] at h2; omega
    have HYl := Lib.hid hyl
    clear h h' hb hy hyl
    go_enter Try.func28, Try.ntmps28
    go_wp2_with fail
    simp only [← hwd] at *
    clear hwd
    refine (shiftedImage _ _ _ R _ _ _ _ _ l _ HA.out HI.out).mono ?_
    rintro e w1 ⟨b1, m, c, rfl, ho, hb⟩
    rw [HB.out]
    rw [HY.out] at ho
    obtain rfl : m = N := by rw [ho.len, HYl.out]
    have HO := Lib.hid ho.ints'
    have HB1 := Lib.hid (HX.out.trans hb)
    have HI1 := Lib.hid (HI.out.below hb)
    clear ho hb
    go_wp2_with fail
    refine (slicesEqual _ _ _ y _ _ l _ HO.out HI1.out hN10).mono ?_
    rintro e w' ⟨rfl, q, rfl⟩
    go_wp2
    go_ret
    exact ⟨retB HE.out.symm, below_drewN HB1.out _⟩
set_option maxRecDepth 100000 in
set_option maxHeartbeats 1000000 in
theorem isSubEigen (a : Option Addr) (n cap : Nat) (R : List (List Int)) (num den : Int) (a' : Option Addr) (N cap' : Nat) (l : List Int) (w0 : World) (h : Mat w0 a n R) (h' : Ints .i64 w0 a' N l) :
    Calls Try.prog 31 #[.slice a n cap, .agg #[.int .i64 num, .int .i64 den], .slice a' N cap'] w0 fun e w' => e = .returned (.bool (M.subB R num den l)) ∧ Below w0.heap.size w0 w' := by
  obtain ⟨w, hwd⟩ : ∃ w, w = w0.alloc (rbox num den) := ⟨_, rfl⟩
  have HX : Hid (Boxed w0 w num den) := by show Boxed _ _ _ _; rw [hwd]; exact boxed _ _ _
  have HA : Hid (Mat w a n R) := h.below HX.out.below
  have HI : Hid (Ints .i64 w a' N l) := h'.below HX.out.below
  have HL := Lib.hid h'.1
  have HRn := Lib.hid h.1
  have HZ := Lib.hid HX.out.size
  obtain ⟨c0, c1⟩ := HX.out.cells (Below.refl _ _)
  obtain ⟨b, hb⟩ : ∃ b, b = M.imgB R num den l := ⟨_, rfl⟩
  have HB := Lib.hid hb.symm
  cases b with
  | false =>
    have HE : Hid (M.subB R num den l = false) := by show _ = _; unfold M.subB; rw [← hb]; rfl
    clear h h' hb
    go_enter Try.func31, Try.ntmps31
    go_wp2_with fail
    simp only [← hwd] at *
    clear hwd
    refine (shiftedImage _ _ _ R _ _ _ _ _ l _ HA.out HI.out).mono ?_
    rintro e w1 ⟨b1, m, c, rfl, ho, hb⟩
    rw [HB.out]
    have HB1 := Lib.hid (HX.out.trans hb)
    clear ho hb
    go_wp2
    go_ret
    exact ⟨retB HE.out.symm, HB1.out⟩
  | true =>
    obtain ⟨y, hy⟩ : ∃ y, y = M.imgL R num den l := ⟨_, rfl⟩
    have HE : Hid (M.subB R num den l = M.atMostB y l) := by show _ = _; unfold M.subB; rw [← hb, hy]; rfl
    have HY : Hid (M.imgR R num den l = y) := by show _ = _; rw [M.imgR_t hb.symm, hy]
    have hyl : y.length = N := by rw [hy, M.imgL_len, h.1, ← (M.cmpOk_t (by rw [M.imgB_cmp, eq_comm, Bool.and_eq_true] at hb; exact hb.1)).2.2.2.trans h.1, h'.1]
    have hN10 : N ≤ 1000 := by
      have := M.cmpOk_t (R := R) (a := num) (b := den) (x := l) (by rw [M.imgB_cmp, eq_comm, Bool.and_eq_true] at hb; exact hb.1)
      have h2 := (M.isVec_t this.2.2.1).2.1
      rw [h'.1] at h2; omega
    have HYl := Lib.hid hyl
    clear h h' hb hy hyl
    go_enter Try.func31, Try.ntmps31
    go_wp2_with fail
    simp only [← hwd] at *
    clear hwd
    refine (shiftedImage _ _ _ R _ _ _ _ _ l _ HA.out HI.out).mono ?_
    rintro e w1 ⟨b1, m, c, rfl, ho, hb⟩
    rw [HB.out]
    rw [HY.out] at ho
    obtain rfl : m = N := by rw [ho.len, HYl.out]
    have HO := Lib.hid ho.ints'
    have HB1 := Lib.hid (HX.out.trans hb)
    have HI1 := Lib.hid (HI.out.below hb)
    clear ho hb
    go_wp2_with fail
    refine (isAtMost _ _ _ y _ _ l _ HO.out HI1.out hN10).mono ?_
    rintro e w' ⟨rfl, rfl⟩
    go_wp2
    go_ret
    exact ⟨retB HE.out.symm, HB1.out⟩
end V
end Go.Proofs.Ytmldjmlihkcchab
