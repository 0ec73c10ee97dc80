/- Texts laid together: Mean3, Mean4, Rt, Mxf. -/
import Derived.Test.YtnnajlehhfmjfaaQe7
import Derived.Test.YtnnajlehhfmjfaaQe8
import Derived.Deep.RegionWith
import Derived.Deep.RegionHeld3
import Derived.Test.YtnnajlehhfmjfaaQe6
import Derived.Test.YtnnajlehhfmjfaaRows
import Derived.Test.YtnnajlehhfmjfaaQe1
import Derived.Test.YtnnajlehhfmjfaaQe5
import Derived.Test.YtnnajlehhfmjfaaQe2
import Derived.WalkKit
import Derived.ProofKit
import Derived.WalkSmall
import Derived.Deep.QuietTactic
import Derived.BigQuiet
import Derived.BigRegion
import Derived.Deep.Draws
import Derived.Deep.OwnRows
import Derived.Deep.AppendLies
import Derived.Maps.AppendAt
import Derived.Lib.Hide
set_option linter.unusedSimpArgs false
set_option linter.unusedVariables false
set_option linter.unusedSectionVars false
namespace Go.Proofs.Ytnnajlehhfmjfaa.V
open Go.RowKit
/-- A ratio and a code. -/
def retQ (r : (Int × Int) × Int) : Ending := .returned (.tuple #[.agg #[.int .i64 r.1.1, .int .i64 r.1.2], .int .i64 r.2])
theorem bel2s {w w1 : World} {o o' : Obj} {i j : Nat} {u v : Value} (hb : Below ((w.alloc o).alloc o').heap.size ((w.alloc o).alloc o') w1) : Below w.heap.size w ((w1.setCell ⟨w.heap.size + 1, i, none⟩ u).setCell ⟨w.heap.size + 1, j, none⟩ v) :=
  ((bel2 hb).setCell (by show w.heap.size ≤ w.heap.size + 1; omega) u).setCell (by show w.heap.size ≤ w.heap.size + 1; omega) v
set_option maxRecDepth 100000 in
set_option maxHeartbeats 400000 in
theorem ratioChecked (n d : Int) (w : World) :
    Calls Try.prog 82 #[.agg #[.int .i64 n, .int .i64 d]] w fun e w' => e = retQ (M.lim (n, d)) ∧ Below w.heap.size w w' := by
  by_cases hr : M.isRat n d = true
  · have HE : Hid (M.lim (n, d) = ((n, d), 0)) := by show _ = _; unfold M.lim; rw [if_pos hr]
    go_enter Try.func82, Try.ntmps82
    go_wp2_with fail
    refine (isRatio_b _ _ true hr _).mono ?_
    rintro e w1 ⟨rfl, hb⟩
    obtain ⟨hc, hf⟩ := bcell hb
    have hz := hb.size
    simp at hz
    have z1 : w.heap.size < w1.heap.size := by omega
    have z2 : w.heap.size + 1 < w1.heap.size := by omega
    go_wp2
    exact bodyPost_ret (v := .tuple #[.agg #[.int .i64 n, .int .i64 d], .int .i64 0]) (by simp [results, Try.results82, go_sem, z1, z2, hc]) rfl ⟨by rw [HE.out]; rfl, bel2s hb⟩
  · simp only [Bool.not_eq_true] at hr
    have HE : Hid (M.lim (n, d) = ((0, 0), 3)) := by show _ = _; unfold M.lim; rw [if_neg (by rw [hr]; exact Bool.false_ne_true)]
    go_enter Try.func82, Try.ntmps82
    go_wp2_with fail
    refine (isRatio_b _ _ false hr _).mono ?_
    rintro e w1 ⟨rfl, hb⟩
    obtain ⟨hc, hf⟩ := bcell hb
    have hz := hb.size
    simp at hz
    have z1 : w.heap.size < w1.heap.size := by omega
    have z2 : w.heap.size + 1 < w1.heap.size := by omega
    go_wp2
    exact bodyPost_ret (v := .tuple #[.agg #[.int .i64 0, .int .i64 0], .int .i64 3]) (by simp [results, Try.results82, go_sem, z1, z2, hc]) rfl ⟨by rw [HE.out]; rfl, bel2s hb⟩
set_option maxRecDepth 100000 in
set_option maxHeartbeats 400000 in
theorem sResultR (n d : Int) (w : World) :
    Calls Try.prog 52 #[.agg #[.int .i64 n, .int .i64 d]] w fun e w' => e = retQ (M.lim (n, d)) ∧ Below w.heap.size w w' := by
  by_cases hr : M.isRat n d = true
  · have HE : Hid (M.lim (n, d) = ((n, d), 0)) := by show _ = _; unfold M.lim; rw [if_pos hr]
    go_enter Try.func52, Try.ntmps52
    go_wp2_with fail
    refine (sIsRatio_b _ _ true hr _).mono ?_
    rintro e w1 ⟨rfl, hb⟩
    obtain ⟨hc, hf⟩ := bcell hb
    have hz := hb.size
    simp at hz
    have z1 : w.heap.size < w1.heap.size := by omega
    have z2 : w.heap.size + 1 < w1.heap.size := by omega
    go_wp2
    exact bodyPost_ret (v := .tuple #[.agg #[.int .i64 n, .int .i64 d], .int .i64 0]) (by simp [results, Try.results52, go_sem, z1, z2, hc]) rfl ⟨by rw [HE.out]; rfl, bel2s hb⟩
  · simp only [Bool.not_eq_true] at hr
    have HE : Hid (M.lim (n, d) = ((0, 0), 3)) := by show _ = _; unfold M.lim; rw [if_neg (by rw [hr]; exact Bool.false_ne_true)]
    go_enter Try.func52, Try.ntmps52
    go_wp2_with fail
    refine (sIsRatio_b _ _ false hr _).mono ?_
    rintro e w1 ⟨rfl, hb⟩
    obtain ⟨hc, hf⟩ := bcell hb
    have hz := hb.size
    simp at hz
    have z1 : w.heap.size < w1.heap.size := by omega
    have z2 : w.heap.size + 1 < w1.heap.size := by omega
    go_wp2
    exact bodyPost_ret (v := .tuple #[.agg #[.int .i64 0, .int .i64 0], .int .i64 3]) (by simp [results, Try.results52, go_sem, z1, z2, hc]) rfl ⟨by rw [HE.out]; rfl, bel2s hb⟩
end Go.Proofs.Ytnnajlehhfmjfaa.V

namespace Go.Proofs.Ytnnajlehhfmjfaa
namespace M
theorem cycB_t {R : List (List Int)} {l : List Int} (h : cycB R l = true) : 1 ≤ l.length ∧ nodesB R.length l = true ∧ diffB l = true ∧ aroundW R l ≠ -1000000000000000 := by
  unfold cycB at h
  rw [Bool.and_eq_true, Bool.and_eq_true, Bool.and_eq_true, decide_eq_true_eq, decide_eq_true_eq] at h
  exact ⟨h.1.1.1, h.1.1.2, h.1.2, h.2⟩
theorem cycB_bd {R : List (List Int)} {l : List Int} (hs : sqB R = true) (h : cycB R l = true) : 1 ≤ l.length ∧ l.length ≤ 10 ∧ -10000000 ≤ aroundW R l ∧ aroundW R l ≤ 10000000 := by
  obtain ⟨c1, c2, c3, c4⟩ := cycB_t h
  obtain ⟨n1, n2, hA⟩ := sq_sm hs
  have hl := diffB_len c2 c3
  have := arW_sm (A := ent R) hA c2 c1
  rw [around_arW] at c4 ⊢
  unfold Sm at this
  omega
/-- The mean of a list of nodes, and whether it is a cycle. -/
def mean2 (R : List (List Int)) (l : List Int) : (Int × Int) × Bool := if cycB R l then (meanR (aroundW R l) l.length, true) else ((0, 0), false)
end M
namespace V
open Go.RowKit
set_option maxRecDepth 100000 in
set_option maxHeartbeats 1000000 in
theorem sMean (a : Option Addr) (n cap : Nat) (R : List (List Int)) (a' : Option Addr) (N cap' : Nat) (l : List Int) (w : World) (h : Mat w a n R) (hs : M.sqB R = true) (h' : Ints .i64 w a' N l) (hc1 : N ≤ cap') (hc2 : cap' ≤ maxLen) :
    Calls Try.prog 51 #[.slice a n cap, .slice a' N cap'] w fun e w' => e = .returned (.tuple #[.agg #[.int .i64 (M.mean2 R l).1.1, .int .i64 (M.mean2 R l).1.2], .bool (M.mean2 R l).2]) ∧ Below w.heap.size w w' := by
  have HS := Lib.hid (sq_of h hs)
  have HI := Lib.hid h'
  have HL := Lib.hid h'.1
  have HM := Lib.hid hc2
  by_cases hc : M.cycB R l = true
  · obtain ⟨b1, b2, b3, b4⟩ := M.cycB_bd hs hc
    have hNl := h'.1
    have HC : Hid (M.cycleR R l = (M.aroundW R l, true)) := by show _ = _; unfold M.cycleR; rw [if_pos hc]
    have HE : Hid (M.mean2 R l = (M.meanR (M.aroundW R l) (N : Int), true)) := by show _ = _; unfold M.mean2; rw [if_pos hc, hNl]
    rw [hNl] at b1 b2
    obtain ⟨x, hx⟩ : ∃ x, x = M.aroundW R l := ⟨_, rfl⟩
    rw [← hx] at HC HE b3 b4
    clear h hs h' hc hx hc2 hNl
    go_enter Try.func51, Try.ntmps51
    go_wp2_with fail
    refine (sCycle _ _ _ R _ _ _ l _ (HS.out.below (b_alloc _ _)) (HI.out.below (b_alloc _ _)) hc1 HM.out).mono ?_
    rintro e w1 ⟨rfl, hb⟩
    rw [HC.out]
    have hz := hb.size
    simp at hz
    obtain ⟨hcc, hff⟩ := bcell hb
    go_wp2_with fail
    refine (sRatio _ _ _ (by omega) (by omega) (by omega) (by omega) (by omega)).mono ?_
    rintro e w2 ⟨rfl, hb2⟩
    have hbb := hb.trans (hb2.mono hb.size)
    have hz2 := hbb.size
    simp at hz2
    obtain ⟨hc2, hf2⟩ := bcell hbb
    have z1 : w.heap.size < w2.heap.size := by omega
    go_wp2
    exact bodyPost_ret (v := .tuple #[.agg #[.int .i64 (M.ratN x N), .int .i64 (M.ratD x N)], .bool true]) (by simp [results, Try.results51, go_sem, z1, hc2]) rfl ⟨by rw [HE.out]; rfl, bel1s hbb⟩
  · simp only [Bool.not_eq_true] at hc
    have HC : Hid (M.cycleR R l = (0, false)) := by show _ = _; unfold M.cycleR; rw [if_neg (by rw [hc]; exact Bool.false_ne_true)]
    have HE : Hid (M.mean2 R l = ((0, 0), false)) := by show _ = _; unfold M.mean2; rw [if_neg (by rw [hc]; exact Bool.false_ne_true)]
    clear h hs h' hc hc2
    go_enter Try.func51, Try.ntmps51
    go_wp2_with fail
    refine (sCycle _ _ _ R _ _ _ l _ (HS.out.below (b_alloc _ _)) (HI.out.below (b_alloc _ _)) hc1 HM.out).mono ?_
    rintro e w1 ⟨rfl, hb⟩
    rw [HC.out]
    have hz := hb.size
    simp at hz
    obtain ⟨hcc, hff⟩ := bcell hb
    have z1 : w.heap.size < w1.heap.size := by omega
    go_wp2
    exact bodyPost_ret (v := .tuple #[.agg #[.int .i64 0, .int .i64 0], .bool false]) (by simp [results, Try.results51, go_sem, z1, hcc]) rfl ⟨by rw [HE.out], bel1s hb⟩
set_option maxRecDepth 100000 in
set_option maxHeartbeats 1000000 in
theorem sMeanOf (a : Option Addr) (n cap : Nat) (R : List (List Int)) (a' : Option Addr) (N cap' : Nat) (l : List Int) (w : World) (h : Mat w a n R) (h' : Ints .i64 w a' N l) (hc1 : N ≤ cap') (hc2 : cap' ≤ maxLen) :
    Calls Try.prog 21 #[.slice a n cap, .slice a' N cap'] w fun e w' => e = .returned (.tuple #[.agg #[.int .i64 (M.meanRes R l).1.1, .int .i64 (M.meanRes R l).1.2], .int .i64 (M.meanRes R l).2]) ∧ Below w.heap.size w w' := by
  have HA := Lib.hid h
  have HI := Lib.hid h'
  have HL := Lib.hid h'.1
  have HM := Lib.hid hc2
  by_cases hs : M.sqB R = true
  · have HS := Lib.hid hs
    by_cases hc : M.cycB R l = true
    · obtain ⟨x, hx⟩ : ∃ x, x = M.meanR (M.aroundW R l) l.length := ⟨_, rfl⟩
      have HC : Hid (M.mean2 R l = (x, true)) := by show _ = _; unfold M.mean2; rw [if_pos hc, hx]
      have HE : Hid (M.meanRes R l = M.lim x) := by show _ = _; unfold M.meanRes; rw [if_pos hs, if_pos hc, hx]
      clear h hs h' hc hx hc2
      obtain ⟨x1, x2⟩ := x
      go_enter Try.func21, Try.ntmps21
      go_wp2_with fail
      refine (sSquare_b _ _ _ R _ true HS.out (HA.out.below (b_alloc _ _))).mono ?_
      rintro e w' ⟨rfl, qd, rfl⟩
      have HB0 : Hid (Below (w.alloc (.cells #[.int .i64 0, .int .i64 0] 27)).heap.size (w.alloc (.cells #[.int .i64 0, .int .i64 0] 27)) ((w.alloc (.cells #[.int .i64 0, .int .i64 0] 27)).drewN qd)) := b_draws _ _
      go_wp2_with fail
      refine (sMean _ _ _ R _ _ _ l _ (HA.out.below ((b_alloc _ _).trans (b_draws _ _ |>.mono (by simp)))) HS.out (HI.out.below ((b_alloc _ _).trans (b_draws _ _ |>.mono (by simp)))) hc1 HM.out).mono ?_
      rintro e w1 ⟨rfl, hb⟩
      rw [HC.out]
      have hb1 := HB0.out.trans (hb.mono HB0.out.size)
      have hz := hb1.size
      simp at hz
      obtain ⟨hcc, hff⟩ := bcell hb1
      have z1 : w.heap.size < w1.heap.size := by omega
      go_wp2_with fail
      refine (sResultR _ _ _).mono ?_
      rintro e w2 ⟨rfl, hb2⟩
      obtain ⟨r, hr⟩ : ∃ r, r = M.lim (x1, x2) := ⟨_, rfl⟩
      rw [← hr] at HE ⊢
      clear hr
      unfold retQ
      obtain ⟨⟨r1, r2⟩, r3⟩ := r
      have hbb := hb1.trans (((b_alloc w1 _).trans (hb2.mono (by simp))).mono hb1.size)
      have hz2 := hbb.size
      simp at hz2
      obtain ⟨hc2, hf2⟩ := bcell hbb
      have z2 : w.heap.size < w2.heap.size := by omega
      go_wp2
      exact bodyPost_ret (v := .tuple #[.agg #[.int .i64 r1, .int .i64 r2], .int .i64 r3]) (by simp [results, Try.results21, go_sem, z2, hc2]) rfl ⟨by rw [HE.out], bel1s hbb⟩
    · simp only [Bool.not_eq_true] at hc
      have HC : Hid (M.mean2 R l = ((0, 0), false)) := by show _ = _; unfold M.mean2; rw [if_neg (by rw [hc]; exact Bool.false_ne_true)]
      have HE : Hid (M.meanRes R l = ((0, 0), 4)) := by show _ = _; unfold M.meanRes; rw [if_pos hs, if_neg (by rw [hc]; exact Bool.false_ne_true)]
      clear h hs h' hc hc2
      go_enter Try.func21, Try.ntmps21
      go_wp2_with fail
      refine (sSquare_b _ _ _ R _ true HS.out (HA.out.below (b_alloc _ _))).mono ?_
      rintro e w' ⟨rfl, qd, rfl⟩
      have HB0 : Hid (Below (w.alloc (.cells #[.int .i64 0, .int .i64 0] 27)).heap.size (w.alloc (.cells #[.int .i64 0, .int .i64 0] 27)) ((w.alloc (.cells #[.int .i64 0, .int .i64 0] 27)).drewN qd)) := b_draws _ _
      go_wp2_with fail
      refine (sMean _ _ _ R _ _ _ l _ (HA.out.below ((b_alloc _ _).trans (b_draws _ _ |>.mono (by simp)))) HS.out (HI.out.below ((b_alloc _ _).trans (b_draws _ _ |>.mono (by simp)))) hc1 HM.out).mono ?_
      rintro e w1 ⟨rfl, hb⟩
      rw [HC.out]
      have hb1 := HB0.out.trans (hb.mono HB0.out.size)
      have hz := hb1.size
      simp at hz
      obtain ⟨hcc, hff⟩ := bcell hb1
      have z1 : w.heap.size < w1.heap.size := by omega
      go_wp2
      exact bodyPost_ret (v := .tuple #[.agg #[.int .i64 0, .int .i64 0], .int .i64 4]) (by simp [results, Try.results21, go_sem, z1, hcc]) rfl ⟨by rw [HE.out], (bel1s hb1).alloc (bel1s hb1).size _⟩
  · simp only [Bool.not_eq_true] at hs
    have HS := Lib.hid hs
    have HE : Hid (M.meanRes R l = ((0, 0), 1)) := by show _ = _; unfold M.meanRes; rw [if_neg (by rw [hs]; exact Bool.false_ne_true)]
    clear h hs h' hc2
    go_enter Try.func21, Try.ntmps21
    go_wp2_with fail
    refine (sSquare_b _ _ _ R _ false HS.out (HA.out.below (b_alloc _ _))).mono ?_
    rintro e w' ⟨rfl, qd, rfl⟩
    go_wp2
    exact bodyPost_ret (v := .tuple #[.agg #[.int .i64 0, .int .i64 0], .int .i64 1]) (by simp [results, Try.results21, go_sem]) rfl ⟨by rw [HE.out], bel1s (b_draws _ _)⟩
end V
end Go.Proofs.Ytnnajlehhfmjfaa

namespace Go.Proofs.Ytnnajlehhfmjfaa.V
open Go.RowKit
abbrev wayC (a' : Option Addr) (N cap' : Nat) : Value := .iface 72 (.slice a' N cap')
set_option maxRecDepth 100000 in
set_option maxHeartbeats 1000000 in
theorem givenMean (a : Option Addr) (n cap : Nat) (R : List (List Int)) (a' : Option Addr) (N cap' : Nat) (l : List Int) (w : World) (h : Mat w a n R) (hs : M.sqB R = true) (hc : M.cycB R l = true) (h' : Ints .i64 w a' N l) (hc1 : N ≤ cap') (hc2 : cap' ≤ maxLen) :
    Calls Try.prog 77 #[.slice a' N cap', .slice a n cap] w fun e w' => e = .returned (.agg #[.int .i64 (M.meanR (M.aroundW R l) l.length).1, .int .i64 (M.meanR (M.aroundW R l) l.length).2]) ∧ Below w.heap.size w w' := by
  have HS := Lib.hid (sq_of h hs)
  have HI := Lib.hid h'
  have HM := Lib.hid hc2
  obtain ⟨b1, b2, b3, b4⟩ := M.cycB_bd hs hc
  obtain ⟨-, c2, -, -⟩ := M.cycB_t hc
  have hNl := h'.1
  rw [h.1] at c2
  have HV := Lib.hid c2
  rw [hNl] at b1 b2 ⊢
  obtain ⟨x, hx⟩ : ∃ x, x = M.aroundW R l := ⟨_, rfl⟩
  have HX := Lib.hid hx
  rw [← hx] at b3 b4 ⊢
  clear h hs h' hc hx hc2 c2 hNl
  go_enter Try.func77, Try.ntmps77
  go_wp2_with fail
  refine (weightAround _ _ _ R _ _ _ l _ (HS.out.below (b_alloc _ _)) (HI.out.below (b_alloc _ _)) HV.out hc1 HM.out b1 (by omega)).mono ?_
  rintro e w' ⟨rfl, qd, rfl⟩
  rw [← HX.out]
  go_wp2_with fail
  refine (reduced _ _ _ (by omega) (by omega) (by omega) (by omega) (by omega)).mono ?_
  rintro e w2 ⟨rfl, hb2⟩
  have hbb := (b_draws (w.alloc (.cells #[.int .i64 0, .int .i64 0] 27)) qd).trans (hb2.mono (b_draws _ _).size)
  have hz2 := hbb.size
  simp at hz2
  obtain ⟨hc2, hf2⟩ := bcell hbb
  have z1 : w.heap.size < w2.heap.size := by omega
  go_wp2
  exact bodyPost_ret (v := .agg #[.int .i64 (M.ratN x N), .int .i64 (M.ratD x N)]) (by simp [results, Try.results77, go_sem, z1, hc2]) rfl ⟨rfl, bel1s hbb⟩
theorem assert_given (v : Value) (W : World) : (Instr.typeAssert (.iface 72 v) 91 72 true).run Try.prog W = .ok (.tuple #[v, .bool true]) W := by kernel_rfl
attribute [local go_sem] assert_given
set_option maxRecDepth 100000 in
set_option maxHeartbeats 1000000 in
theorem leadsGiven (a : Option Addr) (n cap : Nat) (R : List (List Int)) (a' : Option Addr) (N cap' : Nat) (l : List Int) (b : Bool) (hb : M.isCycB R l = b) (w : World) (h : Mat w a n R) (h' : Ints .i64 w a' N l) (hc1 : N ≤ cap') (hc2 : cap' ≤ maxLen) :
    Calls Try.prog 81 #[.slice a n cap, wayC a' N cap'] w fun e w' => e = .returned (.bool b) ∧ Below w.heap.size w w' := by
  have HA := Lib.hid h
  have HI := Lib.hid h'
  have HM := Lib.hid hc2
  have HB := Lib.hid hb
  clear h h' hc2 hb
  go_enter Try.func81, Try.ntmps81
  go_wp2_with fail
  refine (isCycle_b _ _ _ R _ _ _ l _ b HB.out HA.out HI.out hc1 HM.out).mono ?_
  rintro e w1 ⟨rfl, hb⟩
  have HB1 := Lib.hid hb
  clear hb
  go_wp2
  go_ret
  exact ⟨rfl, HB1.out⟩
set_option maxRecDepth 100000 in
set_option maxHeartbeats 1000000 in
theorem checkedGiven (a : Option Addr) (n cap : Nat) (R : List (List Int)) (a' : Option Addr) (N cap' : Nat) (l : List Int) (w : World) (h : Mat w a n R) (h' : Ints .i64 w a' N l) (hc1 : N ≤ cap') (hc2 : cap' ≤ maxLen) :
    Calls Try.prog 48 #[.slice a n cap, wayC a' N cap'] w fun e w' => e = retQ (M.meanRes R l) ∧ Below w.heap.size w w' := by
  have HA := Lib.hid h
  have HI := Lib.hid h'
  have HM := Lib.hid hc2
  by_cases hs : M.sqB R = true
  · have HS := Lib.hid hs
    by_cases hc : M.cycB R l = true
    · have HCy := Lib.hid hc
      obtain ⟨x, hx⟩ : ∃ x, x = M.meanR (M.aroundW R l) l.length := ⟨_, rfl⟩
      have HX := Lib.hid hx
      have HC : Hid (M.isCycB R l = true) := by show _ = _; unfold M.isCycB; rw [hs, hc]; rfl
      have HE : Hid (M.meanRes R l = M.lim x) := by show _ = _; unfold M.meanRes; rw [if_pos hs, if_pos hc, hx]
      clear h hs h' hc hx hc2
      go_enter Try.func48, Try.ntmps48
      go_wp2_with fail
      refine (isSquare_b _ _ _ R _ true HS.out (HA.out.below (b_alloc _ _))).mono ?_
      rintro e w' ⟨rfl, rfl⟩
      go_wp2_with fail
      refine (leadsGiven _ _ _ R _ _ _ l true HC.out _ (HA.out.below (b_alloc _ _)) (HI.out.below (b_alloc _ _)) hc1 HM.out).mono ?_
      rintro e w1 ⟨rfl, hb1⟩
      have hB1 := bel1 hb1
      have HB1 := Lib.hid hB1
      have hz := hb1.size
      simp at hz
      obtain ⟨hcc, hff⟩ := bcell hb1
      go_wp2_with fail
      refine (givenMean _ _ _ R _ _ _ l _ (HA.out.below HB1.out) HS.out HCy.out (HI.out.below HB1.out) hc1 HM.out).mono ?_
      rintro e w2 ⟨rfl, hb2⟩
      rw [← HX.out]
      have hbb2 := hb1.trans (hb2.mono hb1.size)
      have hz2 := hbb2.size
      simp at hz2
      obtain ⟨hc2, hf2⟩ := bcell hbb2
      obtain ⟨x1, x2⟩ := x
      go_wp2_with fail
      refine (ratioChecked _ _ _).mono ?_
      rintro e w3 ⟨rfl, hb3⟩
      obtain ⟨r, hr⟩ : ∃ r, r = M.lim (x1, x2) := ⟨_, rfl⟩
      rw [← hr] at HE ⊢
      clear hr
      unfold retQ
      obtain ⟨⟨r1, r2⟩, r3⟩ := r
      have hbb := hbb2.trans (hb3.mono hbb2.size)
      have hz3 := hbb.size
      simp at hz3
      obtain ⟨hc3, hf3⟩ := bcell hbb
      have z2 : w.heap.size < w3.heap.size := by omega
      go_wp2
      exact bodyPost_ret (v := .tuple #[.agg #[.int .i64 r1, .int .i64 r2], .int .i64 r3]) (by simp [results, Try.results48, go_sem, z2, hc3]) rfl ⟨by rw [HE.out]; rfl, bel1s hbb⟩
    · simp only [Bool.not_eq_true] at hc
      have HC : Hid (M.isCycB R l = false) := by show _ = _; unfold M.isCycB; rw [hs, hc]; rfl
      have HE : Hid (M.meanRes R l = ((0, 0), 4)) := by show _ = _; unfold M.meanRes; rw [if_pos hs, if_neg (by rw [hc]; exact Bool.false_ne_true)]
      clear h hs h' hc hc2
      go_enter Try.func48, Try.ntmps48
      go_wp2_with fail
      refine (isSquare_b _ _ _ R _ true HS.out (HA.out.below (b_alloc _ _))).mono ?_
      rintro e w' ⟨rfl, rfl⟩
      go_wp2_with fail
      refine (leadsGiven _ _ _ R _ _ _ l false HC.out _ (HA.out.below (b_alloc _ _)) (HI.out.below (b_alloc _ _)) hc1 HM.out).mono ?_
      rintro e w1 ⟨rfl, hb1⟩
      have hz := hb1.size
      simp at hz
      obtain ⟨hcc, hff⟩ := bcell hb1
      have z1 : w.heap.size < w1.heap.size := by omega
      go_wp2
      exact bodyPost_ret (v := .tuple #[.agg #[.int .i64 0, .int .i64 0], .int .i64 4]) (by simp [results, Try.results48, go_sem, z1, hcc]) rfl ⟨by rw [HE.out]; rfl, bel1s hb1⟩
  · simp only [Bool.not_eq_true] at hs
    have HS := Lib.hid hs
    have HE : Hid (M.meanRes R l = ((0, 0), 1)) := by show _ = _; unfold M.meanRes; rw [if_neg (by rw [hs]; exact Bool.false_ne_true)]
    clear h hs h' hc2
    go_enter Try.func48, Try.ntmps48
    go_wp2_with fail
    refine (isSquare_b _ _ _ R _ false HS.out (HA.out.below (b_alloc _ _))).mono ?_
    rintro e w' ⟨rfl, rfl⟩
    go_wp2
    exact bodyPost_ret (v := .tuple #[.agg #[.int .i64 0, .int .i64 0], .int .i64 1]) (by simp [results, Try.results48, go_sem]) rfl ⟨by rw [HE.out]; rfl, by first | exact b_alloc _ _ | exact bel1s (Below.refl _ _)⟩
set_option maxRecDepth 100000 in
set_option maxHeartbeats 1000000 in
theorem meanOf (a : Option Addr) (n cap : Nat) (R : List (List Int)) (a' : Option Addr) (N cap' : Nat) (l : List Int) (w : World) (h : Mat w a n R) (h' : Ints .i64 w a' N l) (hc1 : N ≤ cap') (hc2 : cap' ≤ maxLen) :
    Calls Try.prog 20 #[.slice a n cap, .slice a' N cap'] w fun e w' => e = .returned (.tuple #[.agg #[.int .i64 (M.meanRes R l).1.1, .int .i64 (M.meanRes R l).1.2], .int .i64 (M.meanRes R l).2]) ∧ Below w.heap.size w w' := by
  have HA := Lib.hid h
  have HI := Lib.hid h'
  have HM := Lib.hid hc2
  obtain ⟨r, hr⟩ : ∃ r, r = M.meanRes R l := ⟨_, rfl⟩
  have HE := Lib.hid hr
  rw [← hr]
  clear h h' hc2 hr
  go_enter Try.func20, Try.ntmps20
  go_wp2_with fail
  refine (checkedGiven _ _ _ R _ _ _ l _ (HA.out.below (b_alloc _ _)) (HI.out.below (b_alloc _ _)) hc1 HM.out).mono ?_
  rintro e w1 ⟨rfl, hb1⟩
  rw [← HE.out]
  unfold retQ
  obtain ⟨⟨r1, r2⟩, r3⟩ := r
  have hz := hb1.size
  simp at hz
  obtain ⟨hcc, hff⟩ := bcell hb1
  have z1 : w.heap.size < w1.heap.size := by omega
  go_wp2
  exact bodyPost_ret (v := .tuple #[.agg #[.int .i64 r1, .int .i64 r2], .int .i64 r3]) (by simp [results, Try.results20, go_sem, z1, hcc]) rfl ⟨rfl, bel1s hb1⟩
end Go.Proofs.Ytnnajlehhfmjfaa.V

namespace Go.Proofs.Ytnnajlehhfmjfaa.V
open Go.RowKit
theorem sm_of {w : World} {a : Option Addr} {n : Nat} {R : List (List Int)} (h : Mat w a n R) (hs : M.sqB R = true) : ∀ i j, i < n → j < n → M.Sm 1000000 (M.ent R i j) := by
  exact (sq_parts h hs).2.2.2

theorem assert_pow0 (v : Value) (W : World) : (Instr.typeAssert (.iface 64 v) 91 72 true).run Try.prog W = .ok (.tuple #[.slice none 0 0, .bool false]) W := by kernel_rfl
theorem assert_pow2 (v : Value) (W : World) : (Instr.typeAssert (.iface 64 v) 91 70 true).run Try.prog W = .ok (.tuple #[.agg #[], .bool false]) W := by kernel_rfl
attribute [local go_sem] assert_pow2
attribute [local go_sem] assert_pow0
theorem assert_pow1 (v : Value) (W : World) : (Instr.typeAssert (.iface 64 v) 91 64 true).run Try.prog W = .ok (.tuple #[v, .bool true]) W := by kernel_rfl
attribute [local go_sem] assert_pow1
set_option maxRecDepth 100000 in
set_option maxHeartbeats 1000000 in
theorem leads_pow (a : Option Addr) (n cap : Nat) (R : List (List Int)) (b : Bool) (hb : M.hasCyc (M.ent R) n = b) (w : World) (h : Sq w a n R) (hA : ∀ i j, i < n → j < n → M.Sm 1000000 (M.ent R i j)) :
    Calls Try.prog 81 #[.slice a n cap, .iface 64 (.agg #[])] w fun e w' => e = .returned (.bool b) ∧ Below w.heap.size w w' := by
  have HS := Lib.hid h
  have HA := Lib.hid hA
  have HB := Lib.hid hb
  clear h hb hA
  go_enter Try.func81, Try.ntmps81
  go_wp2_with fail
  refine (hasCycle _ _ _ R _ HS.out HA.out).mono ?_
  rintro e w1 ⟨rfl, hb⟩
  rw [HB.out]
  have HB1 := Lib.hid hb
  clear hb
  go_wp2
  go_ret
  exact ⟨rfl, HB1.out⟩

theorem assert_tab0 (v : Value) (W : World) : (Instr.typeAssert (.iface 70 v) 91 72 true).run Try.prog W = .ok (.tuple #[.slice none 0 0, .bool false]) W := by kernel_rfl
theorem assert_tab2 (v : Value) (W : World) : (Instr.typeAssert (.iface 70 v) 91 64 true).run Try.prog W = .ok (.tuple #[.agg #[], .bool false]) W := by kernel_rfl
attribute [local go_sem] assert_tab2
attribute [local go_sem] assert_tab0
theorem assert_tab1 (v : Value) (W : World) : (Instr.typeAssert (.iface 70 v) 91 70 true).run Try.prog W = .ok (.tuple #[v, .bool true]) W := by kernel_rfl
attribute [local go_sem] assert_tab1
set_option maxRecDepth 100000 in
set_option maxHeartbeats 1000000 in
theorem leads_tab (a : Option Addr) (n cap : Nat) (R : List (List Int)) (b : Bool) (hb : M.hasCyc (M.ent R) n = b) (w : World) (h : Sq w a n R) (hA : ∀ i j, i < n → j < n → M.Sm 1000000 (M.ent R i j)) :
    Calls Try.prog 81 #[.slice a n cap, .iface 70 (.agg #[])] w fun e w' => e = .returned (.bool b) ∧ Below w.heap.size w w' := by
  have HS := Lib.hid h
  have HA := Lib.hid hA
  have HB := Lib.hid hb
  clear h hb hA
  go_enter Try.func81, Try.ntmps81
  go_wp2_with fail
  refine (hasCycle _ _ _ R _ HS.out HA.out).mono ?_
  rintro e w1 ⟨rfl, hb⟩
  rw [HB.out]
  have HB1 := Lib.hid hb
  clear hb
  go_wp2
  go_ret
  exact ⟨rfl, HB1.out⟩

set_option maxRecDepth 100000 in
set_option maxHeartbeats 1000000 in
/-- The checked mean, given the way's own contract. -/
theorem checked_pow (a : Option Addr) (n cap : Nat) (R : List (List Int)) (w : World) (h : Mat w a n R) (hn : R.length = n)
    (hm : M.sqB R = true → M.hasCyc (M.ent R) n = true → ∀ W : World, Mat W a n R → Calls Try.prog 60 #[.agg #[], .slice a n cap] W fun e w' => e = .returned (.agg #[.int .i64 (M.bestR (M.ent R) n).1, .int .i64 (M.bestR (M.ent R) n).2]) ∧ Below W.heap.size W w') :
    Calls Try.prog 48 #[.slice a n cap, .iface 64 (.agg #[])] w fun e w' => e = retQ (M.cycMeanRes R) ∧ Below w.heap.size w w' := by
  have HA := Lib.hid h
  by_cases hs : M.sqB R = true
  · have HS := Lib.hid hs
    have HQ := Lib.hid (sq_of h hs)
    have HSm : Hid (∀ i j, i < n → j < n → M.Sm 1000000 (M.ent R i j)) := sm_of h hs
    by_cases hc : M.hasCyc (M.ent R) n = true
    · have HC := Lib.hid hc
      have HMn := Lib.hid (hm hs hc)
      obtain ⟨x, hx⟩ : ∃ x, x = M.bestR (M.ent R) n := ⟨_, rfl⟩
      have HX := Lib.hid hx
      have HE : Hid (M.cycMeanRes R = M.lim x) := by show _ = _; unfold M.cycMeanRes; rw [if_pos hs, hn, if_pos hc, hx]
      clear h hs hc hx hm hn
      go_enter Try.func48, Try.ntmps48
      go_wp2_with fail
      refine (isSquare_b _ _ _ R _ true HS.out (HA.out.below (b_alloc _ _))).mono ?_
      rintro e w' ⟨rfl, rfl⟩
      go_wp2_with fail
      refine (leads_pow _ _ _ R true HC.out _ (HQ.out.below (b_alloc _ _)) HSm.out).mono ?_
      rintro e w1 ⟨rfl, hb1⟩
      have HB1 := Lib.hid (bel1 hb1)
      have hz := hb1.size
      simp at hz
      obtain ⟨hcc, hff⟩ := bcell hb1
      go_wp2_with fail
      refine (HMn.out _ (HA.out.below HB1.out)).mono ?_
      rintro e w2 ⟨rfl, hb2⟩
      rw [← HX.out]
      have hbb2 := hb1.trans (hb2.mono hb1.size)
      have hz2 := hbb2.size
      simp at hz2
      obtain ⟨hc2, hf2⟩ := bcell hbb2
      obtain ⟨x1, x2⟩ := x
      go_wp2_with fail
      refine (ratioChecked _ _ _).mono ?_
      rintro e w3 ⟨rfl, hb3⟩
      obtain ⟨r, hr⟩ : ∃ r, r = M.lim (x1, x2) := ⟨_, rfl⟩
      rw [← hr] at HE ⊢
      clear hr
      unfold retQ
      obtain ⟨⟨r1, r2⟩, r3⟩ := r
      have hbb := hbb2.trans (hb3.mono hbb2.size)
      have hz3 := hbb.size
      simp at hz3
      obtain ⟨hc3, hf3⟩ := bcell hbb
      have z2 : w.heap.size < w3.heap.size := by omega
      go_wp2
      exact bodyPost_ret (v := .tuple #[.agg #[.int .i64 r1, .int .i64 r2], .int .i64 r3]) (by simp [results, Try.results48, go_sem, z2, hc3]) rfl ⟨by rw [HE.out]; rfl, bel1s hbb⟩
    · simp only [Bool.not_eq_true] at hc
      have HC := Lib.hid hc
      have HE : Hid (M.cycMeanRes R = ((0, 0), 4)) := by show _ = _; unfold M.cycMeanRes; rw [if_pos hs, hn, if_neg (by rw [hc]; exact Bool.false_ne_true)]
      clear h hs hc hm hn
      go_enter Try.func48, Try.ntmps48
      go_wp2_with fail
      refine (isSquare_b _ _ _ R _ true HS.out (HA.out.below (b_alloc _ _))).mono ?_
      rintro e w' ⟨rfl, rfl⟩
      go_wp2_with fail
      refine (leads_pow _ _ _ R false HC.out _ (HQ.out.below (b_alloc _ _)) HSm.out).mono ?_
      rintro e w1 ⟨rfl, hb1⟩
      have hz := hb1.size
      simp at hz
      obtain ⟨hcc, hff⟩ := bcell hb1
      have z1 : w.heap.size < w1.heap.size := by omega
      go_wp2
      exact bodyPost_ret (v := .tuple #[.agg #[.int .i64 0, .int .i64 0], .int .i64 4]) (by simp [results, Try.results48, go_sem, z1, hcc]) rfl ⟨by rw [HE.out]; rfl, bel1s hb1⟩
  · simp only [Bool.not_eq_true] at hs
    have HS := Lib.hid hs
    have HE : Hid (M.cycMeanRes R = ((0, 0), 1)) := by show _ = _; unfold M.cycMeanRes; rw [if_neg (by rw [hs]; exact Bool.false_ne_true)]
    clear h hs hm hn
    go_enter Try.func48, Try.ntmps48
    go_wp2_with fail
    refine (isSquare_b _ _ _ R _ false HS.out (HA.out.below (b_alloc _ _))).mono ?_
    rintro e w' ⟨rfl, rfl⟩
    go_wp2
    exact bodyPost_ret (v := .tuple #[.agg #[.int .i64 0, .int .i64 0], .int .i64 1]) (by simp [results, Try.results48, go_sem]) rfl ⟨by rw [HE.out]; rfl, by first | exact b_alloc _ _ | exact bel1s (Below.refl _ _)⟩
set_option maxRecDepth 100000 in
set_option maxHeartbeats 1000000 in
/-- The function itself, given the way's own contract. -/
theorem cycleMean_of (a : Option Addr) (n cap : Nat) (R : List (List Int)) (w : World) (h : Mat w a n R)
    (hm : M.sqB R = true → M.hasCyc (M.ent R) n = true → ∀ W : World, Mat W a n R → Calls Try.prog 60 #[.agg #[], .slice a n cap] W fun e w' => e = .returned (.agg #[.int .i64 (M.bestR (M.ent R) n).1, .int .i64 (M.bestR (M.ent R) n).2]) ∧ Below W.heap.size W w') :
    Calls Try.prog 15 #[.slice a n cap] w fun e w' => e = .returned (.tuple #[.agg #[.int .i64 (M.cycMeanRes R).1.1, .int .i64 (M.cycMeanRes R).1.2], .int .i64 (M.cycMeanRes R).2]) ∧ Below w.heap.size w w' := by
  have HA := Lib.hid h
  have HL := Lib.hid h.1
  have HMn := Lib.hid hm
  obtain ⟨r, hr⟩ : ∃ r, r = M.cycMeanRes R := ⟨_, rfl⟩
  have HE := Lib.hid hr
  rw [← hr]
  clear h hm hr
  go_enter Try.func15, Try.ntmps15
  go_wp2_with fail
  refine (checked_pow _ _ _ R _ (HA.out.below (b_alloc _ _)) HL.out HMn.out).mono ?_
  rintro e w1 ⟨rfl, hb1⟩
  rw [← HE.out]
  unfold retQ
  obtain ⟨⟨r1, r2⟩, r3⟩ := r
  have hz := hb1.size
  simp at hz
  obtain ⟨hcc, hff⟩ := bcell hb1
  have z1 : w.heap.size < w1.heap.size := by omega
  go_wp2
  exact bodyPost_ret (v := .tuple #[.agg #[.int .i64 r1, .int .i64 r2], .int .i64 r3]) (by simp [results, Try.results15, go_sem, z1, hcc]) rfl ⟨rfl, bel1s hb1⟩

set_option maxRecDepth 100000 in
set_option maxHeartbeats 1000000 in
/-- The checked mean, given the way's own contract. -/
theorem checked_tab (a : Option Addr) (n cap : Nat) (R : List (List Int)) (w : World) (h : Mat w a n R) (hn : R.length = n)
    (hm : M.sqB R = true → M.hasCyc (M.ent R) n = true → ∀ W : World, Mat W a n R → Calls Try.prog 161 #[.agg #[], .slice a n cap] W fun e w' => e = .returned (.agg #[.int .i64 (M.tabR (M.ent R) n).1, .int .i64 (M.tabR (M.ent R) n).2]) ∧ Below W.heap.size W w') :
    Calls Try.prog 48 #[.slice a n cap, .iface 70 (.agg #[])] w fun e w' => e = retQ (M.tabRes R) ∧ Below w.heap.size w w' := by
  have HA := Lib.hid h
  by_cases hs : M.sqB R = true
  · have HS := Lib.hid hs
    have HQ := Lib.hid (sq_of h hs)
    have HSm : Hid (∀ i j, i < n → j < n → M.Sm 1000000 (M.ent R i j)) := sm_of h hs
    by_cases hc : M.hasCyc (M.ent R) n = true
    · have HC := Lib.hid hc
      have HMn := Lib.hid (hm hs hc)
      obtain ⟨x, hx⟩ : ∃ x, x = M.tabR (M.ent R) n := ⟨_, rfl⟩
      have HX := Lib.hid hx
      have HE : Hid (M.tabRes R = M.lim x) := by show _ = _; unfold M.tabRes; rw [if_pos hs, hn, if_pos hc, hx]
      clear h hs hc hx hm hn
      go_enter Try.func48, Try.ntmps48
      go_wp2_with fail
      refine (isSquare_b _ _ _ R _ true HS.out (HA.out.below (b_alloc _ _))).mono ?_
      rintro e w' ⟨rfl, rfl⟩
      go_wp2_with fail
      refine (leads_tab _ _ _ R true HC.out _ (HQ.out.below (b_alloc _ _)) HSm.out).mono ?_
      rintro e w1 ⟨rfl, hb1⟩
      have HB1 := Lib.hid (bel1 hb1)
      have hz := hb1.size
      simp at hz
      obtain ⟨hcc, hff⟩ := bcell hb1
      go_wp2_with fail
      refine (HMn.out _ (HA.out.below HB1.out)).mono ?_
      rintro e w2 ⟨rfl, hb2⟩
      rw [← HX.out]
      have hbb2 := hb1.trans (hb2.mono hb1.size)
      have hz2 := hbb2.size
      simp at hz2
      obtain ⟨hc2, hf2⟩ := bcell hbb2
      obtain ⟨x1, x2⟩ := x
      go_wp2_with fail
      refine (ratioChecked _ _ _).mono ?_
      rintro e w3 ⟨rfl, hb3⟩
      obtain ⟨r, hr⟩ : ∃ r, r = M.lim (x1, x2) := ⟨_, rfl⟩
      rw [← hr] at HE ⊢
      clear hr
      unfold retQ
      obtain ⟨⟨r1, r2⟩, r3⟩ := r
      have hbb := hbb2.trans (hb3.mono hbb2.size)
      have hz3 := hbb.size
      simp at hz3
      obtain ⟨hc3, hf3⟩ := bcell hbb
      have z2 : w.heap.size < w3.heap.size := by omega
      go_wp2
      exact bodyPost_ret (v := .tuple #[.agg #[.int .i64 r1, .int .i64 r2], .int .i64 r3]) (by simp [results, Try.results48, go_sem, z2, hc3]) rfl ⟨by rw [HE.out]; rfl, bel1s hbb⟩
    · simp only [Bool.not_eq_true] at hc
      have HC := Lib.hid hc
      have HE : Hid (M.tabRes R = ((0, 0), 4)) := by show _ = _; unfold M.tabRes; rw [if_pos hs, hn, if_neg (by rw [hc]; exact Bool.false_ne_true)]
      clear h hs hc hm hn
      go_enter Try.func48, Try.ntmps48
      go_wp2_with fail
      refine (isSquare_b _ _ _ R _ true HS.out (HA.out.below (b_alloc _ _))).mono ?_
      rintro e w' ⟨rfl, rfl⟩
      go_wp2_with fail
      refine (leads_tab _ _ _ R false HC.out _ (HQ.out.below (b_alloc _ _)) HSm.out).mono ?_
      rintro e w1 ⟨rfl, hb1⟩
      have hz := hb1.size
      simp at hz
      obtain ⟨hcc, hff⟩ := bcell hb1
      have z1 : w.heap.size < w1.heap.size := by omega
      go_wp2
      exact bodyPost_ret (v := .tuple #[.agg #[.int .i64 0, .int .i64 0], .int .i64 4]) (by simp [results, Try.results48, go_sem, z1, hcc]) rfl ⟨by rw [HE.out]; rfl, bel1s hb1⟩
  · simp only [Bool.not_eq_true] at hs
    have HS := Lib.hid hs
    have HE : Hid (M.tabRes R = ((0, 0), 1)) := by show _ = _; unfold M.tabRes; rw [if_neg (by rw [hs]; exact Bool.false_ne_true)]
    clear h hs hm hn
    go_enter Try.func48, Try.ntmps48
    go_wp2_with fail
    refine (isSquare_b _ _ _ R _ false HS.out (HA.out.below (b_alloc _ _))).mono ?_
    rintro e w' ⟨rfl, rfl⟩
    go_wp2
    exact bodyPost_ret (v := .tuple #[.agg #[.int .i64 0, .int .i64 0], .int .i64 1]) (by simp [results, Try.results48, go_sem]) rfl ⟨by rw [HE.out]; rfl, by first | exact b_alloc _ _ | exact bel1s (Below.refl _ _)⟩
set_option maxRecDepth 100000 in
set_option maxHeartbeats 1000000 in
/-- The function itself, given the way's own contract. -/
theorem tableMean_of (a : Option Addr) (n cap : Nat) (R : List (List Int)) (w : World) (h : Mat w a n R)
    (hm : M.sqB R = true → M.hasCyc (M.ent R) n = true → ∀ W : World, Mat W a n R → Calls Try.prog 161 #[.agg #[], .slice a n cap] W fun e w' => e = .returned (.agg #[.int .i64 (M.tabR (M.ent R) n).1, .int .i64 (M.tabR (M.ent R) n).2]) ∧ Below W.heap.size W w') :
    Calls Try.prog 17 #[.slice a n cap] w fun e w' => e = .returned (.tuple #[.agg #[.int .i64 (M.tabRes R).1.1, .int .i64 (M.tabRes R).1.2], .int .i64 (M.tabRes R).2]) ∧ Below w.heap.size w w' := by
  have HA := Lib.hid h
  have HL := Lib.hid h.1
  have HMn := Lib.hid hm
  obtain ⟨r, hr⟩ : ∃ r, r = M.tabRes R := ⟨_, rfl⟩
  have HE := Lib.hid hr
  rw [← hr]
  clear h hm hr
  go_enter Try.func17, Try.ntmps17
  go_wp2_with fail
  refine (checked_tab _ _ _ R _ (HA.out.below (b_alloc _ _)) HL.out HMn.out).mono ?_
  rintro e w1 ⟨rfl, hb1⟩
  rw [← HE.out]
  unfold retQ
  obtain ⟨⟨r1, r2⟩, r3⟩ := r
  have hz := hb1.size
  simp at hz
  obtain ⟨hcc, hff⟩ := bcell hb1
  have z1 : w.heap.size < w1.heap.size := by omega
  go_wp2
  exact bodyPost_ret (v := .tuple #[.agg #[.int .i64 r1, .int .i64 r2], .int .i64 r3]) (by simp [results, Try.results17, go_sem, z1, hcc]) rfl ⟨rfl, bel1s hb1⟩
end Go.Proofs.Ytnnajlehhfmjfaa.V

namespace Go.Proofs.Ytnnajlehhfmjfaa.V
open Go.RowKit
theorem infoR : (Try.prog.info? 27).map (fun i => (i.zero, i.size, i.bytes)) = some (some (.agg #[.int .i64 0, .int .i64 0]), 2, 16) := by kernel_rfl
/-- Two cells a ratio. -/
def rcells (l : List (Int × Int)) : List Value := l.flatMap fun p => [.int .i64 p.1, .int .i64 p.2]
theorem rcells_len (l : List (Int × Int)) : (rcells l).length = l.length * 2 := by
  induction l with
  | nil => rfl
  | cons p l ih => show (Value.int .i64 p.1 :: Value.int .i64 p.2 :: rcells l).length = _; simp [ih]; omega
theorem rcells_snoc (l : List (Int × Int)) (p : Int × Int) : rcells (l ++ [p]) = rcells l ++ [.int .i64 p.1, .int .i64 p.2] := by
  unfold rcells; rw [List.flatMap_append, List.flatMap_singleton]
theorem rcells_at (l : List (Int × Int)) : ∀ i, i < l.length → (rcells l)[2 * i]? = some (.int .i64 (l.getD i (0, 0)).1) ∧ (rcells l)[2 * i + 1]? = some (.int .i64 (l.getD i (0, 0)).2) := by
  induction l with
  | nil => intro i hi; exact absurd hi (by simp)
  | cons p l ih =>
    intro i hi
    have e : rcells (p :: l) = .int .i64 p.1 :: .int .i64 p.2 :: rcells l := rfl
    cases i with
    | zero => rw [e]; exact ⟨rfl, rfl⟩
    | succ i =>
      obtain ⟨h1, h2⟩ := ih i (by simpa using hi)
      rw [e, show 2 * (i + 1) = 2 * i + 1 + 1 by omega]
      simp only [List.getElem?_cons_succ, List.getD_cons_succ]
      exact ⟨h1, h2⟩
/-- A slice that the call owns, in blocks from B on, holding the ratios l. -/
def OwnR (w : World) (B : Nat) (v : Value) (l : List (Int × Int)) : Prop := w.ownsRow B 27 2 v l.length (rcells l)
theorem OwnR.lt {w : World} {B : Nat} {v : Value} {l : List (Int × Int)} (h : OwnR w B v l) {k : Nat} (hk : v.ownBlock = some k) : B ≤ k ∧ k < w.heap.size := World.ownsRow.lt h k hk
theorem OwnR.keep {w w' : World} {B : Nat} {v : Value} {l : List (Int × Int)} (h : OwnR w B v l) (hk : ∀ k, B ≤ k → k < w.heap.size → w'.heap[k]? = w.heap[k]?) : OwnR w' B v l := by
  have h' := h
  obtain ⟨h1, h2⟩ := h
  refine ⟨h1, ?_⟩
  rcases h2 with h2 | ⟨g, cap, cur, hv, hg, hh, r⟩
  · exact .inl h2
  · obtain ⟨q1, q2⟩ := OwnR.lt h' (k := g) (by subst hv; rfl)
    exact .inr ⟨g, cap, cur, hv, hg, by rw [hk g q1 q2]; exact hh, r⟩
theorem OwnR.below {w w' : World} {B : Nat} {v : Value} {l : List (Int × Int)} (h : OwnR w B v l) (hb : Below w.heap.size w w') : OwnR w' B v l :=
  h.keep (fun k _ h2 => hb.block k h2)
theorem OwnR.mono {w : World} {B B' : Nat} {v : Value} {l : List (Int × Int)} (h : OwnR w B v l) (hb : B' ≤ B) : OwnR w B' v l := World.ownsRow.mono h hb
theorem OwnR.form {w : World} {B : Nat} {v : Value} {l : List (Int × Int)} (h : OwnR w B v l) : ∃ a cap, v = .slice a l.length cap ∧ l.length ≤ cap ∧ cap ≤ maxLen ∧ (0 < l.length → ∃ g, a = some ⟨g, 0, none⟩ ∧ B ≤ g ∧ g < w.heap.size) := by
  have h' := h
  obtain ⟨h1, h2⟩ := h
  rcases h2 with ⟨hv, h0⟩ | ⟨g, cap, cur, hv, hg, hh, hn, hc, r⟩
  · rw [h0]; exact ⟨none, 0, hv, Nat.le_refl _, Nat.zero_le _, fun h => by omega⟩
  · subst hv
    exact ⟨_, cap, rfl, hn, hc, fun _ => ⟨g, rfl, hg, (OwnR.lt h' rfl).2⟩⟩
theorem OwnR.len {w : World} {B n cap : Nat} {a : Option Addr} {l : List (Int × Int)} (h : OwnR w B (.slice a n cap) l) : n = l.length := by
  obtain ⟨a', c, hv, _⟩ := h.form
  injection hv
theorem ownR_nil (w : World) (B : Nat) : OwnR w B (.slice none 0 0) [] := World.ownsRow_nil w B _ 2
theorem OwnR.at {w : World} {B n cap : Nat} {a : Option Addr} {l : List (Int × Int)} (h : OwnR w B (.slice a n cap) l) (hn : 0 < n) : ∃ g, a = some ⟨g, 0, none⟩ ∧ B ≤ g ∧ g < w.heap.size ∧ ∀ i, i < n → w.cell? ⟨g, 2 * i, none⟩ = some (.int .i64 (l.getD i (0, 0)).1) ∧ w.cell? ⟨g, 2 * i + 1, none⟩ = some (.int .i64 (l.getD i (0, 0)).2) := by
  have e := h.len
  obtain ⟨a', c', hv, _, _, hg⟩ := h.form
  injection hv with e1 e2 e3
  subst e1
  obtain ⟨g, rfl, g1, g2⟩ := hg (by omega)
  refine ⟨g, rfl, g1, g2, fun i hi => ?_⟩
  have hc := World.ownsRow.cells h (g := g) rfl
  obtain ⟨r1, r2⟩ := rcells_at l i (by omega)
  have c1 := hc _ _ r1
  have c2 := hc _ _ r2
  have a1 : (⟨g, 0, none⟩ : Addr).add (2 * i) = ⟨g, 2 * i, none⟩ := by unfold Addr.add; split <;> simp_all
  have a2 : (⟨g, 0, none⟩ : Addr).add (2 * i + 1) = ⟨g, 2 * i + 1, none⟩ := by unfold Addr.add; split <;> simp_all
  rw [a1] at c1
  rw [a2] at c2
  exact ⟨c1, c2⟩
/-- One ratio is appended, at a step of a region. -/
theorem step_appendR (w : World) {ops : Array Oper} {o : Oper} {a : Act} {K : Act → World → Prop} {Q : Exit → Act → World → Prop} {E : Prop} (hgd : o.guard = none) (s x : Operand)
    (ho : o.op = .call { callee := .builtin .append, args := #[s, x], argTypes := #[104, 104] }) (B : Nat) (v : Value) (l : List (Int × Int)) (p : Int × Int) (g n : Nat) (hn : l.length = n) (hs : a.eval s = v) (hown : OwnR w B v l)
    (hx : a.eval x = .slice (some ⟨g, 0, none⟩) 1 1) (hy1 : w.cell? ⟨g, 0, none⟩ = some (.int .i64 p.1)) (hy2 : w.cell? ⟨g, 1, none⟩ = some (.int .i64 p.2)) (hlen : n ≤ 2000000) (hB : B ≤ w.heap.size)
    (h : ∀ b' c' w', OwnR w' B (.slice b' (n + 1) c') (l ++ [p]) → Below B w w' → K (a.put o.dst (.slice b' (n + 1) c')) w') :
    if Region.wanted o (yielded ops a.tmps) = true then Oper.wp Try.prog o a w K Q else E := by
  subst hn
  obtain ⟨i0, hi, hz0, hz1, hz2⟩ := info_parts infoR
  refine step_append_lies w hgd s x 104 ho B 27 i0 (.agg #[.int .i64 0, .int .i64 0]) 2 16 Try.underlying104 hi hz0 hz1 hz2 rfl (by decide) v l.length (rcells l) hs hown ⟨g, 0, none⟩ 1 1 [.int .i64 p.1, .int .i64 p.2] hx rfl ?c1 ?c2 (by decide) ?c3 ?c4 hB w.heap.size rfl ?_
  case c1 =>
    intro j u hj
    match j, hj with
    | 0, hj => simp at hj; subst hj; exact hy1
    | 1, hj => simp at hj; subst hj; exact hy2
    | j + 2, hj => simp at hj
  case c2 => intro u hu; simp at hu; rcases hu with rfl | rfl <;> rfl
  case c3 => unfold maxLen; omega
  case c4 => omega
  · intro g' cap' w' hown' hgrow hat hlt
    have ho' : OwnR w' B (.slice (some ⟨g', 0, none⟩) (l.length + 1) cap') (l ++ [p]) := by
      show w'.ownsRow B _ 2 _ (l ++ [p]).length (rcells (l ++ [p]))
      rw [rcells_snoc]
      simpa using hown'
    exact h _ _ w' ho' ((Below.refl B w).grown hgrow hB (fun k hk => (OwnR.lt hown hk).1))
theorem cells_two_new (w : World) (x y : Value) (t : TypeId) : ∀ j u, [x, y][j]? = some u → (w.alloc (.cells #[x, y] t)).cell? ((⟨w.heap.size, 0, none⟩ : Addr).add j) = some u := by
  intro j u hj
  match j, hj with
  | 0, hj => simp at hj; subst hj; simp [Addr.add]
  | 1, hj => simp at hj; subst hj; simp [Addr.add]
  | j + 2, hj => simp at hj
theorem appendR (w : World) {ops : Array Oper} {rest : List Oper} {o : Oper} {a : Act} {Q : Exit → Act → World → Prop} (hgd : o.guard = none) (s x : Operand)
    (ho : o.op = .call { callee := .builtin .append, args := #[s, x], argTypes := #[104, 104] }) (B : Nat) (v : Value) (l : List (Int × Int)) (p : Int × Int) (n g : Nat) (hn : l.length = n) (hs : a.eval s = v) (hown : OwnR w B v l)
    (hx : a.eval x = .slice (some ⟨g, 0, none⟩) 1 1) (hy1 : w.cell? ⟨g, 0, none⟩ = some (.int .i64 p.1)) (hy2 : w.cell? ⟨g, 1, none⟩ = some (.int .i64 p.2)) (hlen : l.length ≤ 2000000) (hB : B ≤ w.heap.size)
    (h : ∀ b' c' w', OwnR w' B (.slice b' (n + 1) c') (l ++ [p]) → Below B w w' → wpList Try.prog ops Q rest (a.put o.dst (.slice b' (n + 1) c')) w') :
    wpList Try.prog ops Q (o :: rest) a w := by
  subst hn
  obtain ⟨i0, hi, hz0, hz1, hz2⟩ := info_parts infoR
  refine wpList_append_own_at (w := w) hgd s x 104 ho B 27 i0 (.agg #[.int .i64 0, .int .i64 0]) 2 16 Try.underlying104 hi hz0 hz1 hz2 rfl (by decide) v _ _ hs hown ⟨g, 0, none⟩ 1 1 [.int .i64 p.1, .int .i64 p.2] hx rfl ?c1 ?c2 ?c3 ?c4 hB ?_
  case c1 =>
    intro j u hj
    match j, hj with
    | 0, hj => simp at hj; subst hj; exact hy1
    | 1, hj => simp at hj; subst hj; exact hy2
    | j + 2, hj => simp at hj
  case c2 => intro u hu; simp at hu; rcases hu with rfl | rfl <;> rfl
  case c3 => unfold maxLen; omega
  case c4 => omega
  · intro v' w' hown' hgrow hz hvb
    have ho' : OwnR w' B v' (l ++ [p]) := by
      show w'.ownsRow B _ 2 v' (l ++ [p]).length (rcells (l ++ [p]))
      rw [rcells_snoc]
      simpa using hown'
    obtain ⟨b', c', hv', _⟩ := ho'.form
    rw [show (l ++ [p]).length = l.length + 1 by simp] at hv'
    subst hv'
    exact h b' c' w' ho' ((Below.refl B w).grown hgrow hB (fun k hk => (OwnR.lt hown hk).1))
end Go.Proofs.Ytnnajlehhfmjfaa.V

namespace Go.Proofs.Ytnnajlehhfmjfaa.V
open Go.RowKit
def MBox (w wr : World) (p : Int × Int) : Prop :=
  Below w.heap.size w wr ∧ w.heap.size + 1 < wr.heap.size ∧
  (wr.cell? ⟨w.heap.size, 0, none⟩ = some (.int .i64 0) ∧ wr.cell? ⟨w.heap.size, 1, none⟩ = some (.int .i64 0) ∧ wr.frozen? ⟨w.heap.size, 0, none⟩ = false ∧ wr.frozen? ⟨w.heap.size, 1, none⟩ = false) ∧
  (wr.cell? ⟨w.heap.size + 1, 0, none⟩ = some (.int .i64 p.1) ∧ wr.cell? ⟨w.heap.size + 1, 1, none⟩ = some (.int .i64 p.2) ∧ wr.frozen? ⟨w.heap.size + 1, 0, none⟩ = false ∧ wr.frozen? ⟨w.heap.size + 1, 1, none⟩ = false)
theorem MBox.keep {w w1 w2 : World} {p : Int × Int} (h : MBox w w1 p) (hb : Below w1.heap.size w1 w2) : MBox w w2 p := by
  obtain ⟨h1, h2, ⟨a1, a2, a3, a4⟩, b1, b2, b3, b4⟩ := h
  obtain ⟨hc, hf⟩ := bcell hb
  have hs := hb.size
  refine ⟨h1.trans (hb.mono h1.size), by omega, ⟨?_, ?_, ?_, ?_⟩, ?_, ?_, ?_, ?_⟩
  · rw [hc _ _ (by omega)]; exact a1
  · rw [hc _ _ (by omega)]; exact a2
  · rw [hf _ _ (by omega)]; exact a3
  · rw [hf _ _ (by omega)]; exact a4
  · rw [hc _ _ (by omega)]; exact b1
  · rw [hc _ _ (by omega)]; exact b2
  · rw [hf _ _ (by omega)]; exact b3
  · rw [hf _ _ (by omega)]; exact b4
theorem M.maxR_take {l : List (Int × Int)} {k : Nat} (h1 : 1 ≤ k) (h : k < l.length) : M.maxR (l.take (k + 1)) = M.mx (M.maxR (l.take k)) (l.getD k (0, 0)) := by
  rw [List.take_succ_eq_append_getElem h, M.maxR_snoc (by rw [List.length_take]; omega), List.getD_eq_getElem?_getD, List.getElem?_eq_getElem h]; rfl

theorem low5 {w1 w2 : World} {P Q R S : Prop} (h : P ∧ Q ∧ R ∧ S ∧ Below w1.heap.size w1 w2) : Below w1.heap.size w1 w2 := h.2.2.2.2
theorem keep5 {w0 w1 w2 : World} {b c i j k l : Nat} {x y u v : Value} (hb0 : b < w0.heap.size) (hc0 : c < w0.heap.size) (h : w1.cell? ⟨b, i, none⟩ = some x ∧ w1.cell? ⟨b, j, none⟩ = some y ∧ w1.cell? ⟨c, k, none⟩ = some u ∧ w1.cell? ⟨c, l, none⟩ = some v ∧ Below w0.heap.size w0 w1) (hb : Below w1.heap.size w1 w2) :
    w2.cell? ⟨b, i, none⟩ = some x ∧ w2.cell? ⟨b, j, none⟩ = some y ∧ w2.cell? ⟨c, k, none⟩ = some u ∧ w2.cell? ⟨c, l, none⟩ = some v ∧ Below w0.heap.size w0 w2 := by
  have := h.2.2.2.2.size
  obtain ⟨hc, _⟩ := bcell hb
  exact ⟨(hc _ _ (by omega)).trans h.1, (hc _ _ (by omega)).trans h.2.1, (hc _ _ (by omega)).trans h.2.2.1, (hc _ _ (by omega)).trans h.2.2.2.1, h.2.2.2.2.trans (hb.mono this)⟩
def M.Rb (p : Int × Int) : Prop := -1000000000 ≤ p.1 ∧ p.1 ≤ 1000000000 ∧ 1 ≤ p.2 ∧ p.2 ≤ 1000
theorem M.rb_mx {p q : Int × Int} (hp : M.Rb p) (hq : M.Rb q) : M.Rb (M.mx p q) := by unfold M.mx; split <;> assumption
theorem M.mul_rb {a d : Int} (h1 : -1000000000 ≤ a) (h2 : a ≤ 1000000000) (h3 : 1 ≤ d) (h4 : d ≤ 1000) : -1000000000000000 ≤ a * d ∧ a * d ≤ 1000000000000000 := by
  have e1 : a * d ≤ 1000000000 * d := Int.mul_le_mul_of_nonneg_right h2 (by omega)
  have e2 : -1000000000 * d ≤ a * d := Int.mul_le_mul_of_nonneg_right h1 (by omega)
  omega
theorem compareRb (x p : Int × Int) (y : Int) (w : World) (hx : M.Rb x) (hp : M.Rb p) (hy : M.cmpZ (x.1 * p.2) (p.1 * x.2) = y) :
    Calls Try.prog 56 #[.agg #[.int .i64 x.1, .int .i64 x.2], .agg #[.int .i64 p.1, .int .i64 p.2]] w fun e w' => e = .returned (.int .i64 y) ∧ Below w.heap.size w w' := by
  subst hy
  obtain ⟨a1, a2, a3, a4⟩ := hx
  obtain ⟨b1, b2, b3, b4⟩ := hp
  obtain ⟨p1, p2⟩ := M.mul_rb a1 a2 b3 b4
  obtain ⟨q1, q2⟩ := M.mul_rb b1 b2 a3 a4
  exact compareM _ _ _ _ w p1 p2 q1 q2
theorem MBox.set {w w1 : World} {p : Int × Int} (h : MBox w w1 p) (q : Int × Int) : MBox w ((w1.setCell ⟨w.heap.size + 1, 0, none⟩ (.int .i64 q.1)).setCell ⟨w.heap.size + 1, 1, none⟩ (.int .i64 q.2)) q := by
  obtain ⟨h1, h2, ⟨a1, a2, a3, a4⟩, b1, b2, b3, b4⟩ := h
  refine ⟨(h1.setCell (by show w.heap.size ≤ w.heap.size + 1; omega) _).setCell (by show w.heap.size ≤ w.heap.size + 1; omega) _, by simpa using h2, ?_, ?_⟩
  · simp [go_sem, a1, a2, a3, a4]
  · simp [go_sem, b1, b2, b3, b4]

set_option maxRecDepth 100000 in
set_option maxHeartbeats 1000000 in
theorem maxFunc (B : Nat) (b : Option Addr) (n c : Nat) (l : List (Int × Int)) (w : World) (h : OwnR w B (.slice b n c) l) (h1 : 1 ≤ n) (h2 : n ≤ 1000)
    (hl : ∀ i, i < n → M.Rb (l.getD i (0, 0))) :
    Calls Try.prog 98 #[.slice b n c, .func (.func 56) #[] #[]] w fun e w' => e = .returned (.agg #[.int .i64 (M.maxR l).1, .int .i64 (M.maxR l).2]) ∧ Below w.heap.size w w' := by
  have hn1 : ¬ (n : Int) < 1 := by omega
  have HLn := Lib.hid h.len
  obtain ⟨g, rfl, hB, hg, hc⟩ := h.at (by omega)
  have hc0 := hc 0 (by omega)
  have HC := Lib.hid hc
  have HLB := Lib.hid hl
  obtain ⟨hc01, hc02⟩ := hc0
  clear h hc hl
  go_enter Try.func98, Try.ntmps98
  go_wp2
  clear hc01 hc02
  go_loopw [6] (fun i wr => ∃ k : Nat, 1 ≤ k ∧ k ≤ n ∧ i = .int .i64 k ∧ MBox w wr (M.maxR (l.take k)) ∧ M.Rb (M.maxR (l.take k))) (fun i _ => n - (intOf i).toNat)
  case atStart =>
    have e : M.maxR (l.take 1) = l.getD 0 (0, 0) := by
      have := HLn.out
      cases l with
      | nil => simp at this; omega
      | cons p l => rfl
    refine ⟨1, Nat.le_refl _, h1, rfl, ?_, by rw [e]; exact HLB.out 0 (by omega)⟩
    rw [e]
    exact ⟨b_alloc2 _ _ _, by simp, by simp [go_sem], by simp [go_sem]⟩
  case round =>
    obtain ⟨k, hk1, hk, rfl, hM, hR⟩ := hrel
    obtain ⟨wo, rfl⟩ : ∃ x, x = wr := ⟨_, rfl⟩
    have HM := Lib.hid hM
    have HR := Lib.hid hR
    obtain ⟨hbo, hzo, ⟨a1, a2, a3, a4⟩, b1, b2, b3, b4⟩ := hM
    have HBo := Lib.hid hbo
    by_cases hlt : k < n
    · have hki : (k : Int) < (n : Int) := by omega
      obtain ⟨hcx1, hcx2⟩ := HC.out k hlt
      have d1 : wo.cell? ⟨g, k * 2, none⟩ = some (.int .i64 (l.getD k (0, 0)).1) := by rw [Nat.mul_comm, hbo.cell (p := ⟨g, 2 * k, none⟩) hg]; exact hcx1
      have d2 : wo.cell? ⟨g, k * 2 + 1, none⟩ = some (.int .i64 (l.getD k (0, 0)).2) := by rw [Nat.mul_comm k 2, hbo.cell (p := ⟨g, 2 * k + 1, none⟩) hg]; exact hcx2
      have HX := Lib.hid (HLB.out k hlt)
      have HK2 : Hid (k + 1 ≤ n) := hlt
      have HN : Hid (M.maxR (l.take (k + 1)) = M.mx (M.maxR (l.take k)) (l.getD k (0, 0))) := M.maxR_take hk1 (by have := HLn.out; omega)
      have hgo : g < wo.heap.size := by have := hbo.size; omega
      clear hcx1 hcx2 hbo hR
      generalize M.maxR (l.take k) = p at *
      generalize l.getD k (0, 0) = x at *
      by_cases hle : p.1 * x.2 < x.1 * p.2
      · have HY : Hid (M.cmpZ (x.1 * p.2) (p.1 * x.2) = 1) := by show _ = _; unfold M.cmpZ; rw [if_neg (by omega), if_pos hle]
        have HN2 : Hid (M.maxR (l.take (k + 1)) = x) := by show _ = _; rw [HN.out]; unfold M.mx M.less; rw [if_pos (by simpa using hle)]
        clear hle
        go_wp2
        go_region_held3 (fun w' => w'.cell? ⟨g, k * 2, none⟩ = some (.int .i64 x.1) ∧ w'.cell? ⟨g, k * 2 + 1, none⟩ = some (.int .i64 x.2) ∧ w'.cell? ⟨w.heap.size + 1, 0, none⟩ = some (.int .i64 p.1) ∧ w'.cell? ⟨w.heap.size + 1, 1, none⟩ = some (.int .i64 p.2) ∧ Below wo.heap.size wo w') (first | exact ⟨d1, d2, b1, b2, (Below.refl _ _).drew⟩ | exact keep5 hgo hzo ‹_ ∧ _ ∧ _ ∧ _ ∧ Below _ _ _› hb)
          (first | (go_at_call 56; refine (compareRb x p 1 _ HX.out HR.out HY.out).mono ?_; rintro e w3 ⟨rfl, hb⟩))
        all_goals
          have hh : w3.cell? ⟨g, k * 2, none⟩ = some (.int .i64 x.1) ∧ w3.cell? ⟨g, k * 2 + 1, none⟩ = some (.int .i64 x.2) ∧ w3.cell? ⟨w.heap.size + 1, 0, none⟩ = some (.int .i64 p.1) ∧ w3.cell? ⟨w.heap.size + 1, 1, none⟩ = some (.int .i64 p.2) ∧ Below wo.heap.size wo w3 := by assumption
          have HM3 := Lib.hid (HM.out.keep hh.2.2.2.2)
          clear hb d1 d2 a1 a2 a3 a4 b1 b2 b3 b4
          obtain ⟨d1, d2, b1, b2, -⟩ := hh
          obtain ⟨-, -, -, -, -, b3, b4⟩ := HM3.out
          go_wp2
          go_roundw
          case rel => exact ⟨k + 1, by omega, HK2.out, by go_num, by rw [HN2.out]; exact HM3.out.set x, by rw [HN2.out]; exact HX.out⟩
          case measure => have := HK2.out; simp [intOf]; omega
      · obtain ⟨y, hy⟩ : ∃ y, M.cmpZ (x.1 * p.2) (p.1 * x.2) = y := ⟨_, rfl⟩
        have hy0 : ¬ 0 < y := by
          rw [← hy]; unfold M.cmpZ
          split
          · omega
          · first | omega | (rw [if_neg hle]; omega)
        have HY := Lib.hid hy
        have HN2 : Hid (M.maxR (l.take (k + 1)) = p) := by show _ = _; rw [HN.out]; unfold M.mx M.less; rw [if_neg (by simpa using hle)]
        clear hle hy
        go_wp2
        go_region_held3 (fun w' => w'.cell? ⟨g, k * 2, none⟩ = some (.int .i64 x.1) ∧ w'.cell? ⟨g, k * 2 + 1, none⟩ = some (.int .i64 x.2) ∧ w'.cell? ⟨w.heap.size + 1, 0, none⟩ = some (.int .i64 p.1) ∧ w'.cell? ⟨w.heap.size + 1, 1, none⟩ = some (.int .i64 p.2) ∧ Below wo.heap.size wo w') (first | exact ⟨d1, d2, b1, b2, (Below.refl _ _).drew⟩ | exact keep5 hgo hzo ‹_ ∧ _ ∧ _ ∧ _ ∧ Below _ _ _› hb)
          (first | (go_at_call 56; refine (compareRb x p y _ HX.out HR.out HY.out).mono ?_; rintro e w3 ⟨rfl, hb⟩))
        all_goals
          have hh : w3.cell? ⟨g, k * 2, none⟩ = some (.int .i64 x.1) ∧ w3.cell? ⟨g, k * 2 + 1, none⟩ = some (.int .i64 x.2) ∧ w3.cell? ⟨w.heap.size + 1, 0, none⟩ = some (.int .i64 p.1) ∧ w3.cell? ⟨w.heap.size + 1, 1, none⟩ = some (.int .i64 p.2) ∧ Below wo.heap.size wo w3 := by assumption
          have HM3 := Lib.hid (HM.out.keep hh.2.2.2.2)
          clear hb d1 d2 a1 a2 a3 a4 b1 b2 b3 b4
          clear hh
          go_wp2
          go_roundw
          case rel => exact ⟨k + 1, by omega, HK2.out, by go_num, by rw [HN2.out]; exact HM3.out, by rw [HN2.out]; exact HR.out⟩
          case measure => have := HK2.out; simp [intOf]; omega
    · obtain rfl : k = n := by omega
      have HT : Hid (l.take k = l) := List.take_of_length_le (by have := HLn.out; omega)
      rw [HT.out] at b1 b2
      obtain ⟨p, hp⟩ : ∃ p, p = M.maxR l := ⟨_, rfl⟩
      rw [← hp] at b1 b2
      have HP := Lib.hid hp
      clear hp
      go_wp2
      exact bodyPost_ret (v := .agg #[.int .i64 p.1, .int .i64 p.2]) (by simp [results, Try.results98, go_sem, a1, a2, a3, a4]) rfl ⟨by rw [HP.out], (HBo.out.setCell (Nat.le_refl _) _).setCell (Nat.le_refl _) _⟩
theorem M.minR_take {l : List (Int × Int)} {k : Nat} (h1 : 1 ≤ k) (h : k < l.length) : M.minR (l.take (k + 1)) = M.mn (M.minR (l.take k)) (l.getD k (0, 0)) := by
  rw [List.take_succ_eq_append_getElem h, M.minR_snoc (by rw [List.length_take]; omega), List.getD_eq_getElem?_getD, List.getElem?_eq_getElem h]; rfl
set_option maxRecDepth 100000 in
set_option maxHeartbeats 1000000 in
theorem minFunc (B : Nat) (b : Option Addr) (n c : Nat) (l : List (Int × Int)) (w : World) (h : OwnR w B (.slice b n c) l) (h1 : 1 ≤ n) (h2 : n ≤ 1000)
    (hl : ∀ i, i < n → M.Rb (l.getD i (0, 0))) :
    Calls Try.prog 162 #[.slice b n c, .func (.func 56) #[] #[]] w fun e w' => e = .returned (.agg #[.int .i64 (M.minR l).1, .int .i64 (M.minR l).2]) ∧ Below w.heap.size w w' := by
  have hn1 : ¬ (n : Int) < 1 := by omega
  have HLn := Lib.hid h.len
  obtain ⟨g, rfl, hB, hg, hc⟩ := h.at (by omega)
  have hc0 := hc 0 (by omega)
  have HC := Lib.hid hc
  have HLB := Lib.hid hl
  obtain ⟨hc01, hc02⟩ := hc0
  clear h hc hl
  go_enter Try.func162, Try.ntmps162
  go_wp2
  clear hc01 hc02
  go_loopw [6] (fun i wr => ∃ k : Nat, 1 ≤ k ∧ k ≤ n ∧ i = .int .i64 k ∧ MBox w wr (M.minR (l.take k)) ∧ M.Rb (M.minR (l.take k))) (fun i _ => n - (intOf i).toNat)
  case atStart =>
    have e : M.minR (l.take 1) = l.getD 0 (0, 0) := by
      have := HLn.out
      cases l with
      | nil => simp at this; omega
      | cons p l => rfl
    refine ⟨1, Nat.le_refl _, h1, rfl, ?_, by rw [e]; exact HLB.out 0 (by omega)⟩
    rw [e]
    exact ⟨b_alloc2 _ _ _, by simp, by simp [go_sem], by simp [go_sem]⟩
  case round =>
    obtain ⟨k, hk1, hk, rfl, hM, hR⟩ := hrel
    obtain ⟨wo, rfl⟩ : ∃ x, x = wr := ⟨_, rfl⟩
    have HM := Lib.hid hM
    have HR := Lib.hid hR
    obtain ⟨hbo, hzo, ⟨a1, a2, a3, a4⟩, b1, b2, b3, b4⟩ := hM
    have HBo := Lib.hid hbo
    by_cases hlt : k < n
    · have hki : (k : Int) < (n : Int) := by omega
      obtain ⟨hcx1, hcx2⟩ := HC.out k hlt
      have d1 : wo.cell? ⟨g, k * 2, none⟩ = some (.int .i64 (l.getD k (0, 0)).1) := by rw [Nat.mul_comm, hbo.cell (p := ⟨g, 2 * k, none⟩) hg]; exact hcx1
      have d2 : wo.cell? ⟨g, k * 2 + 1, none⟩ = some (.int .i64 (l.getD k (0, 0)).2) := by rw [Nat.mul_comm k 2, hbo.cell (p := ⟨g, 2 * k + 1, none⟩) hg]; exact hcx2
      have HX := Lib.hid (HLB.out k hlt)
      have HK2 : Hid (k + 1 ≤ n) := hlt
      have HN : Hid (M.minR (l.take (k + 1)) = M.mn (M.minR (l.take k)) (l.getD k (0, 0))) := M.minR_take hk1 (by have := HLn.out; omega)
      have hgo : g < wo.heap.size := by have := hbo.size; omega
      clear hcx1 hcx2 hbo hR
      generalize M.minR (l.take k) = p at *
      generalize l.getD k (0, 0) = x at *
      by_cases hle : x.1 * p.2 < p.1 * x.2
      · have HY : Hid (M.cmpZ (x.1 * p.2) (p.1 * x.2) = -1) := by show _ = _; unfold M.cmpZ; rw [if_pos hle]
        have HN2 : Hid (M.minR (l.take (k + 1)) = x) := by show _ = _; rw [HN.out]; unfold M.mn M.less; rw [if_pos (by simpa using hle)]
        clear hle
        go_wp2
        go_region_held3 (fun w' => w'.cell? ⟨g, k * 2, none⟩ = some (.int .i64 x.1) ∧ w'.cell? ⟨g, k * 2 + 1, none⟩ = some (.int .i64 x.2) ∧ w'.cell? ⟨w.heap.size + 1, 0, none⟩ = some (.int .i64 p.1) ∧ w'.cell? ⟨w.heap.size + 1, 1, none⟩ = some (.int .i64 p.2) ∧ Below wo.heap.size wo w') (first | exact ⟨d1, d2, b1, b2, (Below.refl _ _).drew⟩ | exact keep5 hgo hzo ‹_ ∧ _ ∧ _ ∧ _ ∧ Below _ _ _› hb)
          (first | (go_at_call 56; refine (compareRb x p (-1) _ HX.out HR.out HY.out).mono ?_; rintro e w3 ⟨rfl, hb⟩))
        all_goals
          have hh : w3.cell? ⟨g, k * 2, none⟩ = some (.int .i64 x.1) ∧ w3.cell? ⟨g, k * 2 + 1, none⟩ = some (.int .i64 x.2) ∧ w3.cell? ⟨w.heap.size + 1, 0, none⟩ = some (.int .i64 p.1) ∧ w3.cell? ⟨w.heap.size + 1, 1, none⟩ = some (.int .i64 p.2) ∧ Below wo.heap.size wo w3 := by assumption
          have HM3 := Lib.hid (HM.out.keep hh.2.2.2.2)
          clear hb d1 d2 a1 a2 a3 a4 b1 b2 b3 b4
          obtain ⟨d1, d2, b1, b2, -⟩ := hh
          obtain ⟨-, -, -, -, -, b3, b4⟩ := HM3.out
          go_wp2
          go_roundw
          case rel => exact ⟨k + 1, by omega, HK2.out, by go_num, by rw [HN2.out]; exact HM3.out.set x, by rw [HN2.out]; exact HX.out⟩
          case measure => have := HK2.out; simp [intOf]; omega
      · obtain ⟨y, hy⟩ : ∃ y, M.cmpZ (x.1 * p.2) (p.1 * x.2) = y := ⟨_, rfl⟩
        have hy0 : ¬ y < 0 := by
          rw [← hy]; unfold M.cmpZ
          rw [if_neg hle]
          split <;> omega
        have HY := Lib.hid hy
        have HN2 : Hid (M.minR (l.take (k + 1)) = p) := by show _ = _; rw [HN.out]; unfold M.mn M.less; rw [if_neg (by simpa using hle)]
        clear hle hy
        go_wp2
        go_region_held3 (fun w' => w'.cell? ⟨g, k * 2, none⟩ = some (.int .i64 x.1) ∧ w'.cell? ⟨g, k * 2 + 1, none⟩ = some (.int .i64 x.2) ∧ w'.cell? ⟨w.heap.size + 1, 0, none⟩ = some (.int .i64 p.1) ∧ w'.cell? ⟨w.heap.size + 1, 1, none⟩ = some (.int .i64 p.2) ∧ Below wo.heap.size wo w') (first | exact ⟨d1, d2, b1, b2, (Below.refl _ _).drew⟩ | exact keep5 hgo hzo ‹_ ∧ _ ∧ _ ∧ _ ∧ Below _ _ _› hb)
          (first | (go_at_call 56; refine (compareRb x p y _ HX.out HR.out HY.out).mono ?_; rintro e w3 ⟨rfl, hb⟩))
        all_goals
          have hh : w3.cell? ⟨g, k * 2, none⟩ = some (.int .i64 x.1) ∧ w3.cell? ⟨g, k * 2 + 1, none⟩ = some (.int .i64 x.2) ∧ w3.cell? ⟨w.heap.size + 1, 0, none⟩ = some (.int .i64 p.1) ∧ w3.cell? ⟨w.heap.size + 1, 1, none⟩ = some (.int .i64 p.2) ∧ Below wo.heap.size wo w3 := by assumption
          have HM3 := Lib.hid (HM.out.keep hh.2.2.2.2)
          clear hb d1 d2 a1 a2 a3 a4 b1 b2 b3 b4
          clear hh
          go_wp2
          go_roundw
          case rel => exact ⟨k + 1, by omega, HK2.out, by go_num, by rw [HN2.out]; exact HM3.out, by rw [HN2.out]; exact HR.out⟩
          case measure => have := HK2.out; simp [intOf]; omega
    · obtain rfl : k = n := by omega
      have HT : Hid (l.take k = l) := List.take_of_length_le (by have := HLn.out; omega)
      rw [HT.out] at b1 b2
      obtain ⟨p, hp⟩ : ∃ p, p = M.minR l := ⟨_, rfl⟩
      rw [← hp] at b1 b2
      have HP := Lib.hid hp
      clear hp
      go_wp2
      exact bodyPost_ret (v := .agg #[.int .i64 p.1, .int .i64 p.2]) (by simp [results, Try.results162, go_sem, a1, a2, a3, a4]) rfl ⟨by rw [HP.out], (HBo.out.setCell (Nat.le_refl _) _).setCell (Nat.le_refl _) _⟩
end Go.Proofs.Ytnnajlehhfmjfaa.V
