/- Texts laid together: Mean3, Mean4. -/
import Derived.Test.YthonlfjjgmmnpaaGreatQi12
import Derived.Test.YthonlfjjgmmnpaaGreatQi11
import Derived.Deep.RegionWith
import Derived.Deep.RegionHeld3
namespace Go.Proofs.YthonlfjjgmmnpaaGreat.V
open Go.RowKit
/-- A ratio and a code. -/
def retQ (r : (Int × Int) × Int) : Ending := .returned (.tuple #[.agg #[.int .i64 r.1.1, .int .i64 r.1.2], .int .i64 r.2])
theorem bel2s {w w1 : World} {o o' : Obj} {i j : Nat} {u v : Value} (hb : Below ((w.alloc o).alloc o').heap.size ((w.alloc o).alloc o') w1) : Below w.heap.size w ((w1.setCell ⟨w.heap.size + 1, i, none⟩ u).setCell ⟨w.heap.size + 1, j, none⟩ v) :=
  ((bel2 hb).setCell (by show w.heap.size ≤ w.heap.size + 1; omega) u).setCell (by show w.heap.size ≤ w.heap.size + 1; omega) v
set_option maxRecDepth 100000 in
set_option maxHeartbeats 400000 in
theorem ratioChecked (n d : Int) (w : World) :
    Calls Tryz.prog 143 #[.agg #[.int .i64 n, .int .i64 d]] w fun e w' => e = retQ (M.lim (n, d)) ∧ Below w.heap.size w w' := by
  by_cases hr : M.isRat n d = true
  · have HE : Hid (M.lim (n, d) = ((n, d), 0)) := by show _ = _; unfold M.lim; rw [if_pos hr]
    go_enter Tryz.func143, Tryz.ntmps143
    go_wp2_with fail
    refine (isRatio_b _ _ true hr _).mono ?_
    rintro e w1 ⟨rfl, hb⟩
    obtain ⟨hc, hf⟩ := bcell hb
    have hz := hb.size
    simp at hz
    have z1 : w.heap.size < w1.heap.size := by omega
    have z2 : w.heap.size + 1 < w1.heap.size := by omega
    go_wp2
    exact bodyPost_ret (v := .tuple #[.agg #[.int .i64 n, .int .i64 d], .int .i64 0]) (by simp [results, Tryz.results143, go_sem, z1, z2, hc]) rfl ⟨by rw [HE.out]; rfl, bel2s hb⟩
  · simp only [Bool.not_eq_true] at hr
    have HE : Hid (M.lim (n, d) = ((0, 0), 3)) := by show _ = _; unfold M.lim; rw [if_neg (by rw [hr]; exact Bool.false_ne_true)]
    go_enter Tryz.func143, Tryz.ntmps143
    go_wp2_with fail
    refine (isRatio_b _ _ false hr _).mono ?_
    rintro e w1 ⟨rfl, hb⟩
    obtain ⟨hc, hf⟩ := bcell hb
    have hz := hb.size
    simp at hz
    have z1 : w.heap.size < w1.heap.size := by omega
    have z2 : w.heap.size + 1 < w1.heap.size := by omega
    go_wp2
    exact bodyPost_ret (v := .tuple #[.agg #[.int .i64 0, .int .i64 0], .int .i64 3]) (by simp [results, Tryz.results143, go_sem, z1, z2, hc]) rfl ⟨by rw [HE.out]; rfl, bel2s hb⟩
end Go.Proofs.YthonlfjjgmmnpaaGreat.V

namespace Go.Proofs.YthonlfjjgmmnpaaGreat
namespace M
theorem cycB_t {R : List (List Int)} {l : List Int} (h : cycB R l = true) : 1 ≤ l.length ∧ nodesB R.length l = true ∧ diffB l = true ∧ aroundW R l ≠ -1000000000000000 := by
  unfold cycB at h
  rw [Bool.and_eq_true, Bool.and_eq_true, Bool.and_eq_true, decide_eq_true_eq, decide_eq_true_eq] at h
  exact ⟨h.1.1.1, h.1.1.2, h.1.2, h.2⟩
theorem cycB_bd {R : List (List Int)} {l : List Int} (hs : sqB R = true) (h : cycB R l = true) : 1 ≤ l.length ∧ l.length ≤ 10 ∧ -10000000 ≤ aroundW R l ∧ aroundW R l ≤ 10000000 := by
  obtain ⟨c1, c2, c3, c4⟩ := cycB_t h
  obtain ⟨n1, n2, hA⟩ := sq_sm hs
  have hl := diffB_len c2 c3
  have := arW_sm (A := ent R) hA c2 c1
  rw [around_arW] at c4 ⊢
  unfold Sm at this
  omega
/-- The mean of a list of nodes, and whether it is a cycle. -/
def mean2 (R : List (List Int)) (l : List Int) : (Int × Int) × Bool := if cycB R l then (meanR (aroundW R l) l.length, true) else ((0, 0), false)
end M
namespace V
open Go.RowKit
set_option maxRecDepth 100000 in
set_option maxHeartbeats 1000000 in
theorem sMean (a : Option Addr) (n cap : Nat) (R : List (List Int)) (a' : Option Addr) (N cap' : Nat) (l : List Int) (w : World) (h : Mat w a n R) (hs : M.sqB R = true) (h' : Ints .i64 w a' N l) (hc1 : N ≤ cap') (hc2 : cap' ≤ maxLen) :
    Calls Tryz.prog 61 #[.slice a n cap, .slice a' N cap'] w fun e w' => e = .returned (.tuple #[.agg #[.int .i64 (M.mean2 R l).1.1, .int .i64 (M.mean2 R l).1.2], .bool (M.mean2 R l).2]) ∧ Below w.heap.size w w' := by
  have HS := Lib.hid (sq_of h hs)
  have HI := Lib.hid h'
  have HL := Lib.hid h'.1
  have HM := Lib.hid hc2
  by_cases hc : M.cycB R l = true
  · obtain ⟨b1, b2, b3, b4⟩ := M.cycB_bd hs hc
    have hNl := h'.1
    have HC : Hid (M.cycleR R l = (M.aroundW R l, true)) := by show _ = _; unfold M.cycleR; rw [if_pos hc]
    have HE : Hid (M.mean2 R l = (M.meanR (M.aroundW R l) (N : Int), true)) := by show _ = _; unfold M.mean2; rw [if_pos hc, hNl]
    rw [hNl] at b1 b2
    obtain ⟨x, hx⟩ : ∃ x, x = M.aroundW R l := ⟨_, rfl⟩
    rw [← hx] at HC HE b3 b4
    clear h hs h' hc hx hc2 hNl
    go_enter Tryz.func61, Tryz.ntmps61
    go_wp2_with fail
    refine (sCycle _ _ _ R _ _ _ l _ (HS.out.below (b_alloc _ _)) (HI.out.below (b_alloc _ _)) hc1 HM.out).mono ?_
    rintro e w1 ⟨rfl, hb⟩
    rw [HC.out]
    have hz := hb.size
    simp at hz
    obtain ⟨hcc, hff⟩ := bcell hb
    go_wp2_with fail
    refine (sRatio _ _ _ (by omega) (by omega) (by omega) (by omega) (by omega)).mono ?_
    rintro e w2 ⟨rfl, hb2⟩
    have hbb := hb.trans (hb2.mono hb.size)
    have hz2 := hbb.size
    simp at hz2
    obtain ⟨hc2, hf2⟩ := bcell hbb
    have z1 : w.heap.size < w2.heap.size := by omega
    go_wp2
    exact bodyPost_ret (v := .tuple #[.agg #[.int .i64 (M.ratN x N), .int .i64 (M.ratD x N)], .bool true]) (by simp [results, Tryz.results61, go_sem, z1, hc2]) rfl ⟨by rw [HE.out]; rfl, bel1s hbb⟩
  · simp only [Bool.not_eq_true] at hc
    have HC : Hid (M.cycleR R l = (0, false)) := by show _ = _; unfold M.cycleR; rw [if_neg (by rw [hc]; exact Bool.false_ne_true)]
    have HE : Hid (M.mean2 R l = ((0, 0), false)) := by show _ = _; unfold M.mean2; rw [if_neg (by rw [hc]; exact Bool.false_ne_true)]
    clear h hs h' hc hc2
    go_enter Tryz.func61, Tryz.ntmps61
    go_wp2_with fail
    refine (sCycle _ _ _ R _ _ _ l _ (HS.out.below (b_alloc _ _)) (HI.out.below (b_alloc _ _)) hc1 HM.out).mono ?_
    rintro e w1 ⟨rfl, hb⟩
    rw [HC.out]
    have hz := hb.size
    simp at hz
    obtain ⟨hcc, hff⟩ := bcell hb
    have z1 : w.heap.size < w1.heap.size := by omega
    go_wp2
    exact bodyPost_ret (v := .tuple #[.agg #[.int .i64 0, .int .i64 0], .bool false]) (by simp [results, Tryz.results61, go_sem, z1, hcc]) rfl ⟨by rw [HE.out], bel1s hb⟩
end V
end Go.Proofs.YthonlfjjgmmnpaaGreat

namespace Go.Proofs.YthonlfjjgmmnpaaGreat.V
open Go.RowKit
abbrev wayC (a' : Option Addr) (N cap' : Nat) : Value := .iface 150 (.slice a' N cap')
set_option maxRecDepth 100000 in
set_option maxHeartbeats 1000000 in
theorem givenMean (a : Option Addr) (n cap : Nat) (R : List (List Int)) (a' : Option Addr) (N cap' : Nat) (l : List Int) (w : World) (h : Mat w a n R) (hs : M.sqB R = true) (hc : M.cycB R l = true) (h' : Ints .i64 w a' N l) (hc1 : N ≤ cap') (hc2 : cap' ≤ maxLen) :
    Calls Tryz.prog 225 #[.slice a' N cap', .slice a n cap] w fun e w' => e = .returned (.agg #[.int .i64 (M.meanR (M.aroundW R l) l.length).1, .int .i64 (M.meanR (M.aroundW R l) l.length).2]) ∧ Below w.heap.size w w' := by
  have HS := Lib.hid (sq_of h hs)
  have HI := Lib.hid h'
  have HM := Lib.hid hc2
  obtain ⟨b1, b2, b3, b4⟩ := M.cycB_bd hs hc
  obtain ⟨-, c2, -, -⟩ := M.cycB_t hc
  have hNl := h'.1
  rw [h.1] at c2
  have HV := Lib.hid c2
  rw [hNl] at b1 b2 ⊢
  obtain ⟨x, hx⟩ : ∃ x, x = M.aroundW R l := ⟨_, rfl⟩
  have HX := Lib.hid hx
  rw [← hx] at b3 b4 ⊢
  clear h hs h' hc hx hc2 c2 hNl
  go_enter Tryz.func225, Tryz.ntmps225
  go_wp2_with fail
  refine (weightAround _ _ _ R _ _ _ l _ (HS.out.below (b_alloc _ _)) (HI.out.below (b_alloc _ _)) HV.out hc1 HM.out b1 (by omega)).mono ?_
  rintro e w' ⟨rfl, qd, rfl⟩
  rw [← HX.out]
  go_wp2_with fail
  refine (reduced _ _ _ (by omega) (by omega) (by omega) (by omega) (by omega)).mono ?_
  rintro e w2 ⟨rfl, hb2⟩
  have hbb := (b_draws (w.alloc (.cells #[.int .i64 0, .int .i64 0] 44)) qd).trans (hb2.mono (b_draws _ _).size)
  have hz2 := hbb.size
  simp at hz2
  obtain ⟨hc2, hf2⟩ := bcell hbb
  have z1 : w.heap.size < w2.heap.size := by omega
  go_wp2
  exact bodyPost_ret (v := .agg #[.int .i64 (M.ratN x N), .int .i64 (M.ratD x N)]) (by simp [results, Tryz.results225, go_sem, z1, hc2]) rfl ⟨rfl, bel1s hbb⟩
theorem assert_given (v : Value) (W : World) : (Instr.typeAssert (.iface 150 v) 131 150 true).run Tryz.prog W = .ok (.tuple #[v, .bool true]) W := by kernel_rfl
attribute [local go_sem] assert_given
set_option maxRecDepth 100000 in
set_option maxHeartbeats 1000000 in
theorem leadsGiven (a : Option Addr) (n cap : Nat) (R : List (List Int)) (a' : Option Addr) (N cap' : Nat) (l : List Int) (b : Bool) (hb : M.isCycB R l = b) (w : World) (h : Mat w a n R) (h' : Ints .i64 w a' N l) (hc1 : N ≤ cap') (hc2 : cap' ≤ maxLen) :
    Calls Tryz.prog 142 #[.slice a n cap, wayC a' N cap'] w fun e w' => e = .returned (.bool b) ∧ Below w.heap.size w w' := by
  have HA := Lib.hid h
  have HI := Lib.hid h'
  have HM := Lib.hid hc2
  have HB := Lib.hid hb
  clear h h' hc2 hb
  go_enter Tryz.func142, Tryz.ntmps142
  go_wp2_with fail
  refine (isCycle_b _ _ _ R _ _ _ l _ b HB.out HA.out HI.out hc1 HM.out).mono ?_
  rintro e w1 ⟨rfl, hb⟩
  have HB1 := Lib.hid hb
  clear hb
  go_wp2
  go_ret
  exact ⟨rfl, HB1.out⟩
end Go.Proofs.YthonlfjjgmmnpaaGreat.V

namespace Go.Proofs.YthonlfjjgmmnpaaGreat.V
open Go.RowKit
theorem sm_of {w : World} {a : Option Addr} {n : Nat} {R : List (List Int)} (h : Mat w a n R) (hs : M.sqB R = true) : ∀ i j, i < n → j < n → M.Sm 1000000 (M.ent R i j) := by
  exact (sq_parts h hs).2.2.2

theorem assert_pow0 (v : Value) (W : World) : (Instr.typeAssert (.iface 86 v) 131 150 true).run Tryz.prog W = .ok (.tuple #[.slice none 0 0, .bool false]) W := by kernel_rfl
theorem assert_pow2 (v : Value) (W : World) : (Instr.typeAssert (.iface 86 v) 131 151 true).run Tryz.prog W = .ok (.tuple #[.agg #[], .bool false]) W := by kernel_rfl
attribute [local go_sem] assert_pow2
attribute [local go_sem] assert_pow0
theorem assert_pow1 (v : Value) (W : World) : (Instr.typeAssert (.iface 86 v) 131 86 true).run Tryz.prog W = .ok (.tuple #[v, .bool true]) W := by kernel_rfl
attribute [local go_sem] assert_pow1
set_option maxRecDepth 100000 in
set_option maxHeartbeats 1000000 in
theorem leads_pow (a : Option Addr) (n cap : Nat) (R : List (List Int)) (b : Bool) (hb : M.hasCyc (M.ent R) n = b) (w : World) (h : Sq w a n R) (hA : ∀ i j, i < n → j < n → M.Sm 1000000 (M.ent R i j)) :
    Calls Tryz.prog 142 #[.slice a n cap, .iface 86 (.agg #[])] w fun e w' => e = .returned (.bool b) ∧ Below w.heap.size w w' := by
  have HS := Lib.hid h
  have HA := Lib.hid hA
  have HB := Lib.hid hb
  clear h hb hA
  go_enter Tryz.func142, Tryz.ntmps142
  go_wp2_with fail
  refine (hasCycle _ _ _ R _ HS.out HA.out).mono ?_
  rintro e w1 ⟨rfl, hb⟩
  rw [HB.out]
  have HB1 := Lib.hid hb
  clear hb
  go_wp2
  go_ret
  exact ⟨rfl, HB1.out⟩

theorem assert_tab0 (v : Value) (W : World) : (Instr.typeAssert (.iface 151 v) 131 150 true).run Tryz.prog W = .ok (.tuple #[.slice none 0 0, .bool false]) W := by kernel_rfl
theorem assert_tab2 (v : Value) (W : World) : (Instr.typeAssert (.iface 151 v) 131 86 true).run Tryz.prog W = .ok (.tuple #[.agg #[], .bool false]) W := by kernel_rfl
attribute [local go_sem] assert_tab2
attribute [local go_sem] assert_tab0
theorem assert_tab1 (v : Value) (W : World) : (Instr.typeAssert (.iface 151 v) 131 151 true).run Tryz.prog W = .ok (.tuple #[v, .bool true]) W := by kernel_rfl
attribute [local go_sem] assert_tab1
set_option maxRecDepth 100000 in
set_option maxHeartbeats 1000000 in
theorem leads_tab (a : Option Addr) (n cap : Nat) (R : List (List Int)) (b : Bool) (hb : M.hasCyc (M.ent R) n = b) (w : World) (h : Sq w a n R) (hA : ∀ i j, i < n → j < n → M.Sm 1000000 (M.ent R i j)) :
    Calls Tryz.prog 142 #[.slice a n cap, .iface 151 (.agg #[])] w fun e w' => e = .returned (.bool b) ∧ Below w.heap.size w w' := by
  have HS := Lib.hid h
  have HA := Lib.hid hA
  have HB := Lib.hid hb
  clear h hb hA
  go_enter Tryz.func142, Tryz.ntmps142
  go_wp2_with fail
  refine (hasCycle _ _ _ R _ HS.out HA.out).mono ?_
  rintro e w1 ⟨rfl, hb⟩
  rw [HB.out]
  have HB1 := Lib.hid hb
  clear hb
  go_wp2
  go_ret
  exact ⟨rfl, HB1.out⟩

set_option maxRecDepth 100000 in
set_option maxHeartbeats 1000000 in
/-- The checked mean, given the way's own contract. -/
theorem checked_pow (a : Option Addr) (n cap : Nat) (R : List (List Int)) (w : World) (h : Mat w a n R) (hn : R.length = n)
    (hm : M.sqB R = true → M.hasCyc (M.ent R) n = true → ∀ W : World, Mat W a n R → Calls Tryz.prog 77 #[.agg #[], .slice a n cap] W fun e w' => e = .returned (.agg #[.int .i64 (M.bestR (M.ent R) n).1, .int .i64 (M.bestR (M.ent R) n).2]) ∧ Below W.heap.size W w') :
    Calls Tryz.prog 86 #[.slice a n cap, .iface 86 (.agg #[])] w fun e w' => e = retQ (M.cycMeanRes R) ∧ Below w.heap.size w w' := by
  have HA := Lib.hid h
  by_cases hs : M.sqB R = true
  · have HS := Lib.hid hs
    have HQ := Lib.hid (sq_of h hs)
    have HSm : Hid (∀ i j, i < n → j < n → M.Sm 1000000 (M.ent R i j)) := sm_of h hs
    by_cases hc : M.hasCyc (M.ent R) n = true
    · have HC := Lib.hid hc
      have HMn := Lib.hid (hm hs hc)
      obtain ⟨x, hx⟩ : ∃ x, x = M.bestR (M.ent R) n := ⟨_, rfl⟩
      have HX := Lib.hid hx
      have HE : Hid (M.cycMeanRes R = M.lim x) := by show _ = _; unfold M.cycMeanRes; rw [if_pos hs, hn, if_pos hc, hx]
      clear h hs hc hx hm hn
      go_enter Tryz.func86, Tryz.ntmps86
      go_wp2_with fail
      refine (isSquare_b _ _ _ R _ true HS.out (HA.out.below (b_alloc _ _))).mono ?_
      rintro e w' ⟨rfl, rfl⟩
      go_wp2_with fail
      refine (leads_pow _ _ _ R true HC.out _ (HQ.out.below (b_alloc _ _)) HSm.out).mono ?_
      rintro e w1 ⟨rfl, hb1⟩
      have HB1 := Lib.hid (bel1 hb1)
      have hz := hb1.size
      simp at hz
      obtain ⟨hcc, hff⟩ := bcell hb1
      go_wp2_with fail
      refine (HMn.out _ (HA.out.below HB1.out)).mono ?_
      rintro e w2 ⟨rfl, hb2⟩
      rw [← HX.out]
      have hbb2 := hb1.trans (hb2.mono hb1.size)
      have hz2 := hbb2.size
      simp at hz2
      obtain ⟨hc2, hf2⟩ := bcell hbb2
      obtain ⟨x1, x2⟩ := x
      go_wp2_with fail
      refine (ratioChecked _ _ _).mono ?_
      rintro e w3 ⟨rfl, hb3⟩
      obtain ⟨r, hr⟩ : ∃ r, r = M.lim (x1, x2) := ⟨_, rfl⟩
      rw [← hr] at HE ⊢
      clear hr
      unfold retQ
      obtain ⟨⟨r1, r2⟩, r3⟩ := r
      have hbb := hbb2.trans (hb3.mono hbb2.size)
      have hz3 := hbb.size
      simp at hz3
      obtain ⟨hc3, hf3⟩ := bcell hbb
      have z2 : w.heap.size < w3.heap.size := by omega
      go_wp2
      exact bodyPost_ret (v := .tuple #[.agg #[.int .i64 r1, .int .i64 r2], .int .i64 r3]) (by simp [results, Tryz.results86, go_sem, z2, hc3]) rfl ⟨by rw [HE.out]; rfl, bel1s hbb⟩
    · simp only [Bool.not_eq_true] at hc
      have HC := Lib.hid hc
      have HE : Hid (M.cycMeanRes R = ((0, 0), 4)) := by show _ = _; unfold M.cycMeanRes; rw [if_pos hs, hn, if_neg (by rw [hc]; exact Bool.false_ne_true)]
      clear h hs hc hm hn
      go_enter Tryz.func86, Tryz.ntmps86
      go_wp2_with fail
      refine (isSquare_b _ _ _ R _ true HS.out (HA.out.below (b_alloc _ _))).mono ?_
      rintro e w' ⟨rfl, rfl⟩
      go_wp2_with fail
      refine (leads_pow _ _ _ R false HC.out _ (HQ.out.below (b_alloc _ _)) HSm.out).mono ?_
      rintro e w1 ⟨rfl, hb1⟩
      have hz := hb1.size
      simp at hz
      obtain ⟨hcc, hff⟩ := bcell hb1
      have z1 : w.heap.size < w1.heap.size := by omega
      go_wp2
      exact bodyPost_ret (v := .tuple #[.agg #[.int .i64 0, .int .i64 0], .int .i64 4]) (by simp [results, Tryz.results86, go_sem, z1, hcc]) rfl ⟨by rw [HE.out]; rfl, bel1s hb1⟩
  · simp only [Bool.not_eq_true] at hs
    have HS := Lib.hid hs
    have HE : Hid (M.cycMeanRes R = ((0, 0), 1)) := by show _ = _; unfold M.cycMeanRes; rw [if_neg (by rw [hs]; exact Bool.false_ne_true)]
    clear h hs hm hn
    go_enter Tryz.func86, Tryz.ntmps86
    go_wp2_with fail
    refine (isSquare_b _ _ _ R _ false HS.out (HA.out.below (b_alloc _ _))).mono ?_
    rintro e w' ⟨rfl, rfl⟩
    go_wp2
    exact bodyPost_ret (v := .tuple #[.agg #[.int .i64 0, .int .i64 0], .int .i64 1]) (by simp [results, Tryz.results86, go_sem]) rfl ⟨by rw [HE.out]; rfl, by first | exact b_alloc _ _ | exact bel1s (Below.refl _ _)⟩
set_option maxRecDepth 100000 in
set_option maxHeartbeats 1000000 in
/-- The function itself, given the way's own contract. -/
theorem cycleMean_of (a : Option Addr) (n cap : Nat) (R : List (List Int)) (w : World) (h : Mat w a n R)
    (hm : M.sqB R = true → M.hasCyc (M.ent R) n = true → ∀ W : World, Mat W a n R → Calls Tryz.prog 77 #[.agg #[], .slice a n cap] W fun e w' => e = .returned (.agg #[.int .i64 (M.bestR (M.ent R) n).1, .int .i64 (M.bestR (M.ent R) n).2]) ∧ Below W.heap.size W w') :
    Calls Tryz.prog 37 #[.slice a n cap] w fun e w' => e = .returned (.tuple #[.agg #[.int .i64 (M.cycMeanRes R).1.1, .int .i64 (M.cycMeanRes R).1.2], .int .i64 (M.cycMeanRes R).2]) ∧ Below w.heap.size w w' := by
  have HA := Lib.hid h
  have HL := Lib.hid h.1
  have HMn := Lib.hid hm
  obtain ⟨r, hr⟩ : ∃ r, r = M.cycMeanRes R := ⟨_, rfl⟩
  have HE := Lib.hid hr
  rw [← hr]
  clear h hm hr
  go_enter Tryz.func37, Tryz.ntmps37
  go_wp2_with fail
  refine (checked_pow _ _ _ R _ (HA.out.below (b_alloc _ _)) HL.out HMn.out).mono ?_
  rintro e w1 ⟨rfl, hb1⟩
  rw [← HE.out]
  unfold retQ
  obtain ⟨⟨r1, r2⟩, r3⟩ := r
  have hz := hb1.size
  simp at hz
  obtain ⟨hcc, hff⟩ := bcell hb1
  have z1 : w.heap.size < w1.heap.size := by omega
  go_wp2
  exact bodyPost_ret (v := .tuple #[.agg #[.int .i64 r1, .int .i64 r2], .int .i64 r3]) (by simp [results, Tryz.results37, go_sem, z1, hcc]) rfl ⟨rfl, bel1s hb1⟩

end Go.Proofs.YthonlfjjgmmnpaaGreat.V
