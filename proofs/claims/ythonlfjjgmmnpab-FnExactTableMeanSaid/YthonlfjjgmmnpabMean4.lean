/- The two other ways to a mean: whether they lead to one. -/
import Derived.Test.YthonlfjjgmmnpabEnd2
import Derived.Test.YthonlfjjgmmnpabMean3
namespace Go.Proofs.Ythonlfjjgmmnpab.V
open Go.RowKit
theorem sm_of {w : World} {a : Option Addr} {n : Nat} {R : List (List Int)} (h : Mat w a n R) (hs : M.sqB R = true) : ∀ i j, i < n → j < n → M.Sm 1000000 (M.ent R i j) := by
  exact (sq_parts h hs).2.2.2

theorem assert_pow0 (v : Value) (W : World) : (Instr.typeAssert (.iface 57 v) 88 65 true).run Try.prog W = .ok (.tuple #[.slice none 0 0, .bool false]) W := by kernel_rfl
theorem assert_pow2 (v : Value) (W : World) : (Instr.typeAssert (.iface 57 v) 88 63 true).run Try.prog W = .ok (.tuple #[.agg #[], .bool false]) W := by kernel_rfl
attribute [local go_sem] assert_pow2
attribute [local go_sem] assert_pow0
theorem assert_pow1 (v : Value) (W : World) : (Instr.typeAssert (.iface 57 v) 88 57 true).run Try.prog W = .ok (.tuple #[v, .bool true]) W := by kernel_rfl
attribute [local go_sem] assert_pow1
set_option maxRecDepth 100000 in
set_option maxHeartbeats 1000000 in
theorem leads_pow (a : Option Addr) (n cap : Nat) (R : List (List Int)) (b : Bool) (hb : M.hasCyc (M.ent R) n = b) (w : World) (h : Sq w a n R) (hA : ∀ i j, i < n → j < n → M.Sm 1000000 (M.ent R i j)) :
    Calls Try.prog 66 #[.slice a n cap, .iface 57 (.agg #[])] w fun e w' => e = .returned (.bool b) ∧ Below w.heap.size w w' := by
  have HS := Lib.hid h
  have HA := Lib.hid hA
  have HB := Lib.hid hb
  clear h hb hA
  go_enter Try.func66, Try.ntmps66
  go_wp2_with fail
  refine (hasCycle _ _ _ R _ HS.out HA.out).mono ?_
  rintro e w1 ⟨rfl, hb⟩
  rw [HB.out]
  have HB1 := Lib.hid hb
  clear hb
  go_wp2
  go_ret
  exact ⟨rfl, HB1.out⟩

theorem assert_tab0 (v : Value) (W : World) : (Instr.typeAssert (.iface 63 v) 88 65 true).run Try.prog W = .ok (.tuple #[.slice none 0 0, .bool false]) W := by kernel_rfl
theorem assert_tab2 (v : Value) (W : World) : (Instr.typeAssert (.iface 63 v) 88 57 true).run Try.prog W = .ok (.tuple #[.agg #[], .bool false]) W := by kernel_rfl
attribute [local go_sem] assert_tab2
attribute [local go_sem] assert_tab0
theorem assert_tab1 (v : Value) (W : World) : (Instr.typeAssert (.iface 63 v) 88 63 true).run Try.prog W = .ok (.tuple #[v, .bool true]) W := by kernel_rfl
attribute [local go_sem] assert_tab1
set_option maxRecDepth 100000 in
set_option maxHeartbeats 1000000 in
theorem leads_tab (a : Option Addr) (n cap : Nat) (R : List (List Int)) (b : Bool) (hb : M.hasCyc (M.ent R) n = b) (w : World) (h : Sq w a n R) (hA : ∀ i j, i < n → j < n → M.Sm 1000000 (M.ent R i j)) :
    Calls Try.prog 66 #[.slice a n cap, .iface 63 (.agg #[])] w fun e w' => e = .returned (.bool b) ∧ Below w.heap.size w w' := by
  have HS := Lib.hid h
  have HA := Lib.hid hA
  have HB := Lib.hid hb
  clear h hb hA
  go_enter Try.func66, Try.ntmps66
  go_wp2_with fail
  refine (hasCycle _ _ _ R _ HS.out HA.out).mono ?_
  rintro e w1 ⟨rfl, hb⟩
  rw [HB.out]
  have HB1 := Lib.hid hb
  clear hb
  go_wp2
  go_ret
  exact ⟨rfl, HB1.out⟩

set_option maxRecDepth 100000 in
set_option maxHeartbeats 1000000 in
/-- The checked mean, given the way's own contract. -/
theorem checked_pow (a : Option Addr) (n cap : Nat) (R : List (List Int)) (w : World) (h : Mat w a n R) (hn : R.length = n)
    (hm : M.sqB R = true → M.hasCyc (M.ent R) n = true → ∀ W : World, Mat W a n R → Calls Try.prog 58 #[.agg #[], .slice a n cap] W fun e w' => e = .returned (.agg #[.int .i64 (M.bestR (M.ent R) n).1, .int .i64 (M.bestR (M.ent R) n).2]) ∧ Below W.heap.size W w') :
    Calls Try.prog 35 #[.slice a n cap, .iface 57 (.agg #[])] w fun e w' => e = retQ (M.cycMeanRes R) ∧ Below w.heap.size w w' := by
  have HA := Lib.hid h
  by_cases hs : M.sqB R = true
  · have HS := Lib.hid hs
    have HQ := Lib.hid (sq_of h hs)
    have HSm : Hid (∀ i j, i < n → j < n → M.Sm 1000000 (M.ent R i j)) := sm_of h hs
    by_cases hc : M.hasCyc (M.ent R) n = true
    · have HC := Lib.hid hc
      have HMn := Lib.hid (hm hs hc)
      obtain ⟨x, hx⟩ : ∃ x, x = M.bestR (M.ent R) n := ⟨_, rfl⟩
      have HX := Lib.hid hx
      have HE : Hid (M.cycMeanRes R = M.lim x) := by show _ = _; unfold M.cycMeanRes; rw [if_pos hs, hn, if_pos hc, hx]
      clear h hs hc hx hm hn
      go_enter Try.func35, Try.ntmps35
      go_wp2_with fail
      refine (isSquare_b _ _ _ R _ true HS.out (HA.out.below (b_alloc _ _))).mono ?_
      rintro e w' ⟨rfl, rfl⟩
      go_wp2_with fail
      refine (leads_pow _ _ _ R true HC.out _ (HQ.out.below (b_alloc _ _)) HSm.out).mono ?_
      rintro e w1 ⟨rfl, hb1⟩
      have HB1 := Lib.hid (bel1 hb1)
      have hz := hb1.size
      simp at hz
      obtain ⟨hcc, hff⟩ := bcell hb1
      go_wp2_with fail
      refine (HMn.out _ (HA.out.below HB1.out)).mono ?_
      rintro e w2 ⟨rfl, hb2⟩
      rw [← HX.out]
      have hbb2 := hb1.trans (hb2.mono hb1.size)
      have hz2 := hbb2.size
      simp at hz2
      obtain ⟨hc2, hf2⟩ := bcell hbb2
      obtain ⟨x1, x2⟩ := x
      go_wp2_with fail
      refine (ratioChecked _ _ _).mono ?_
      rintro e w3 ⟨rfl, hb3⟩
      obtain ⟨r, hr⟩ : ∃ r, r = M.lim (x1, x2) := ⟨_, rfl⟩
      rw [← hr] at HE ⊢
      clear hr
      unfold retQ
      obtain ⟨⟨r1, r2⟩, r3⟩ := r
      have hbb := hbb2.trans (hb3.mono hbb2.size)
      have hz3 := hbb.size
      simp at hz3
      obtain ⟨hc3, hf3⟩ := bcell hbb
      have z2 : w.heap.size < w3.heap.size := by omega
      go_wp2
      exact bodyPost_ret (v := .tuple #[.agg #[.int .i64 r1, .int .i64 r2], .int .i64 r3]) (by simp [results, Try.results35, go_sem, z2, hc3]) rfl ⟨by rw [HE.out]; rfl, bel1s hbb⟩
    · simp only [Bool.not_eq_true] at hc
      have HC := Lib.hid hc
      have HE : Hid (M.cycMeanRes R = ((0, 0), 4)) := by show _ = _; unfold M.cycMeanRes; rw [if_pos hs, hn, if_neg (by rw [hc]; exact Bool.false_ne_true)]
      clear h hs hc hm hn
      go_enter Try.func35, Try.ntmps35
      go_wp2_with fail
      refine (isSquare_b _ _ _ R _ true HS.out (HA.out.below (b_alloc _ _))).mono ?_
      rintro e w' ⟨rfl, rfl⟩
      go_wp2_with fail
      refine (leads_pow _ _ _ R false HC.out _ (HQ.out.below (b_alloc _ _)) HSm.out).mono ?_
      rintro e w1 ⟨rfl, hb1⟩
      have hz := hb1.size
      simp at hz
      obtain ⟨hcc, hff⟩ := bcell hb1
      have z1 : w.heap.size < w1.heap.size := by omega
      go_wp2
      exact bodyPost_ret (v := .tuple #[.agg #[.int .i64 0, .int .i64 0], .int .i64 4]) (by simp [results, Try.results35, go_sem, z1, hcc]) rfl ⟨by rw [HE.out]; rfl, bel1s hb1⟩
  · simp only [Bool.not_eq_true] at hs
    have HS := Lib.hid hs
    have HE : Hid (M.cycMeanRes R = ((0, 0), 1)) := by show _ = _; unfold M.cycMeanRes; rw [if_neg (by rw [hs]; exact Bool.false_ne_true)]
    clear h hs hm hn
    go_enter Try.func35, Try.ntmps35
    go_wp2_with fail
    refine (isSquare_b _ _ _ R _ false HS.out (HA.out.below (b_alloc _ _))).mono ?_
    rintro e w' ⟨rfl, rfl⟩
    go_wp2
    exact bodyPost_ret (v := .tuple #[.agg #[.int .i64 0, .int .i64 0], .int .i64 1]) (by simp [results, Try.results35, go_sem]) rfl ⟨by rw [HE.out]; rfl, by first | exact b_alloc _ _ | exact bel1s (Below.refl _ _)⟩
set_option maxRecDepth 100000 in
set_option maxHeartbeats 1000000 in
/-- The function itself, given the way's own contract. -/
theorem cycleMean_of (a : Option Addr) (n cap : Nat) (R : List (List Int)) (w : World) (h : Mat w a n R)
    (hm : M.sqB R = true → M.hasCyc (M.ent R) n = true → ∀ W : World, Mat W a n R → Calls Try.prog 58 #[.agg #[], .slice a n cap] W fun e w' => e = .returned (.agg #[.int .i64 (M.bestR (M.ent R) n).1, .int .i64 (M.bestR (M.ent R) n).2]) ∧ Below W.heap.size W w') :
    Calls Try.prog 9 #[.slice a n cap] w fun e w' => e = .returned (.tuple #[.agg #[.int .i64 (M.cycMeanRes R).1.1, .int .i64 (M.cycMeanRes R).1.2], .int .i64 (M.cycMeanRes R).2]) ∧ Below w.heap.size w w' := by
  have HA := Lib.hid h
  have HL := Lib.hid h.1
  have HMn := Lib.hid hm
  obtain ⟨r, hr⟩ : ∃ r, r = M.cycMeanRes R := ⟨_, rfl⟩
  have HE := Lib.hid hr
  rw [← hr]
  clear h hm hr
  go_enter Try.func9, Try.ntmps9
  go_wp2_with fail
  refine (checked_pow _ _ _ R _ (HA.out.below (b_alloc _ _)) HL.out HMn.out).mono ?_
  rintro e w1 ⟨rfl, hb1⟩
  rw [← HE.out]
  unfold retQ
  obtain ⟨⟨r1, r2⟩, r3⟩ := r
  have hz := hb1.size
  simp at hz
  obtain ⟨hcc, hff⟩ := bcell hb1
  have z1 : w.heap.size < w1.heap.size := by omega
  go_wp2
  exact bodyPost_ret (v := .tuple #[.agg #[.int .i64 r1, .int .i64 r2], .int .i64 r3]) (by simp [results, Try.results9, go_sem, z1, hcc]) rfl ⟨rfl, bel1s hb1⟩

set_option maxRecDepth 100000 in
set_option maxHeartbeats 1000000 in
/-- The checked mean, given the way's own contract. -/
theorem checked_tab (a : Option Addr) (n cap : Nat) (R : List (List Int)) (w : World) (h : Mat w a n R) (hn : R.length = n)
    (hm : M.sqB R = true → M.hasCyc (M.ent R) n = true → ∀ W : World, Mat W a n R → Calls Try.prog 149 #[.agg #[], .slice a n cap] W fun e w' => e = .returned (.agg #[.int .i64 (M.tabR (M.ent R) n).1, .int .i64 (M.tabR (M.ent R) n).2]) ∧ Below W.heap.size W w') :
    Calls Try.prog 35 #[.slice a n cap, .iface 63 (.agg #[])] w fun e w' => e = retQ (M.tabRes R) ∧ Below w.heap.size w w' := by
  have HA := Lib.hid h
  by_cases hs : M.sqB R = true
  · have HS := Lib.hid hs
    have HQ := Lib.hid (sq_of h hs)
    have HSm : Hid (∀ i j, i < n → j < n → M.Sm 1000000 (M.ent R i j)) := sm_of h hs
    by_cases hc : M.hasCyc (M.ent R) n = true
    · have HC := Lib.hid hc
      have HMn := Lib.hid (hm hs hc)
      obtain ⟨x, hx⟩ : ∃ x, x = M.tabR (M.ent R) n := ⟨_, rfl⟩
      have HX := Lib.hid hx
      have HE : Hid (M.tabRes R = M.lim x) := by show _ = _; unfold M.tabRes; rw [if_pos hs, hn, if_pos hc, hx]
      clear h hs hc hx hm hn
      go_enter Try.func35, Try.ntmps35
      go_wp2_with fail
      refine (isSquare_b _ _ _ R _ true HS.out (HA.out.below (b_alloc _ _))).mono ?_
      rintro e w' ⟨rfl, rfl⟩
      go_wp2_with fail
      refine (leads_tab _ _ _ R true HC.out _ (HQ.out.below (b_alloc _ _)) HSm.out).mono ?_
      rintro e w1 ⟨rfl, hb1⟩
      have HB1 := Lib.hid (bel1 hb1)
      have hz := hb1.size
      simp at hz
      obtain ⟨hcc, hff⟩ := bcell hb1
      go_wp2_with fail
      refine (HMn.out _ (HA.out.below HB1.out)).mono ?_
      rintro e w2 ⟨rfl, hb2⟩
      rw [← HX.out]
      have hbb2 := hb1.trans (hb2.mono hb1.size)
      have hz2 := hbb2.size
      simp at hz2
      obtain ⟨hc2, hf2⟩ := bcell hbb2
      obtain ⟨x1, x2⟩ := x
      go_wp2_with fail
      refine (ratioChecked _ _ _).mono ?_
      rintro e w3 ⟨rfl, hb3⟩
      obtain ⟨r, hr⟩ : ∃ r, r = M.lim (x1, x2) := ⟨_, rfl⟩
      rw [← hr] at HE ⊢
      clear hr
      unfold retQ
      obtain ⟨⟨r1, r2⟩, r3⟩ := r
      have hbb := hbb2.trans (hb3.mono hbb2.size)
      have hz3 := hbb.size
      simp at hz3
      obtain ⟨hc3, hf3⟩ := bcell hbb
      have z2 : w.heap.size < w3.heap.size := by omega
      go_wp2
      exact bodyPost_ret (v := .tuple #[.agg #[.int .i64 r1, .int .i64 r2], .int .i64 r3]) (by simp [results, Try.results35, go_sem, z2, hc3]) rfl ⟨by rw [HE.out]; rfl, bel1s hbb⟩
    · simp only [Bool.not_eq_true] at hc
      have HC := Lib.hid hc
      have HE : Hid (M.tabRes R = ((0, 0), 4)) := by show _ = _; unfold M.tabRes; rw [if_pos hs, hn, if_neg (by rw [hc]; exact Bool.false_ne_true)]
      clear h hs hc hm hn
      go_enter Try.func35, Try.ntmps35
      go_wp2_with fail
      refine (isSquare_b _ _ _ R _ true HS.out (HA.out.below (b_alloc _ _))).mono ?_
      rintro e w' ⟨rfl, rfl⟩
      go_wp2_with fail
      refine (leads_tab _ _ _ R false HC.out _ (HQ.out.below (b_alloc _ _)) HSm.out).mono ?_
      rintro e w1 ⟨rfl, hb1⟩
      have hz := hb1.size
      simp at hz
      obtain ⟨hcc, hff⟩ := bcell hb1
      have z1 : w.heap.size < w1.heap.size := by omega
      go_wp2
      exact bodyPost_ret (v := .tuple #[.agg #[.int .i64 0, .int .i64 0], .int .i64 4]) (by simp [results, Try.results35, go_sem, z1, hcc]) rfl ⟨by rw [HE.out]; rfl, bel1s hb1⟩
  · simp only [Bool.not_eq_true] at hs
    have HS := Lib.hid hs
    have HE : Hid (M.tabRes R = ((0, 0), 1)) := by show _ = _; unfold M.tabRes; rw [if_neg (by rw [hs]; exact Bool.false_ne_true)]
    clear h hs hm hn
    go_enter Try.func35, Try.ntmps35
    go_wp2_with fail
    refine (isSquare_b _ _ _ R _ false HS.out (HA.out.below (b_alloc _ _))).mono ?_
    rintro e w' ⟨rfl, rfl⟩
    go_wp2
    exact bodyPost_ret (v := .tuple #[.agg #[.int .i64 0, .int .i64 0], .int .i64 1]) (by simp [results, Try.results35, go_sem]) rfl ⟨by rw [HE.out]; rfl, by first | exact b_alloc _ _ | exact bel1s (Below.refl _ _)⟩
set_option maxRecDepth 100000 in
set_option maxHeartbeats 1000000 in
/-- The function itself, given the way's own contract. -/
theorem tableMean_of (a : Option Addr) (n cap : Nat) (R : List (List Int)) (w : World) (h : Mat w a n R)
    (hm : M.sqB R = true → M.hasCyc (M.ent R) n = true → ∀ W : World, Mat W a n R → Calls Try.prog 149 #[.agg #[], .slice a n cap] W fun e w' => e = .returned (.agg #[.int .i64 (M.tabR (M.ent R) n).1, .int .i64 (M.tabR (M.ent R) n).2]) ∧ Below W.heap.size W w') :
    Calls Try.prog 11 #[.slice a n cap] w fun e w' => e = .returned (.tuple #[.agg #[.int .i64 (M.tabRes R).1.1, .int .i64 (M.tabRes R).1.2], .int .i64 (M.tabRes R).2]) ∧ Below w.heap.size w w' := by
  have HA := Lib.hid h
  have HL := Lib.hid h.1
  have HMn := Lib.hid hm
  obtain ⟨r, hr⟩ : ∃ r, r = M.tabRes R := ⟨_, rfl⟩
  have HE := Lib.hid hr
  rw [← hr]
  clear h hm hr
  go_enter Try.func11, Try.ntmps11
  go_wp2_with fail
  refine (checked_tab _ _ _ R _ (HA.out.below (b_alloc _ _)) HL.out HMn.out).mono ?_
  rintro e w1 ⟨rfl, hb1⟩
  rw [← HE.out]
  unfold retQ
  obtain ⟨⟨r1, r2⟩, r3⟩ := r
  have hz := hb1.size
  simp at hz
  obtain ⟨hcc, hff⟩ := bcell hb1
  have z1 : w.heap.size < w1.heap.size := by omega
  go_wp2
  exact bodyPost_ret (v := .tuple #[.agg #[.int .i64 r1, .int .i64 r2], .int .i64 r3]) (by simp [results, Try.results11, go_sem, z1, hcc]) rfl ⟨rfl, bel1s hb1⟩
end Go.Proofs.Ythonlfjjgmmnpab.V
