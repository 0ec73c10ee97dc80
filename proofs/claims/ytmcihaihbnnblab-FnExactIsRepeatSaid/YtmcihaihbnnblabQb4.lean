/- Texts laid together: Vec, IsMat, SMul, IAdd. -/
import Derived.Test.YtmcihaihbnnblabRows
import Derived.Test.YtmcihaihbnnblabQb1
import Derived.Test.YtmcihaihbnnblabQb2
import Derived.Test.YtmcihaihbnnblabQb3
import Derived.WalkKit
import Derived.ProofKit
import Derived.WalkSmall
import Derived.Deep.QuietTactic
import Derived.BigQuiet
import Derived.BigRegion
import Derived.Deep.Draws
import Derived.Lib.Hide
import Derived.OpenShut
import Derived.Deep.OwnRows
import Derived.StillTailTactics
set_option linter.unusedSimpArgs false
set_option linter.unusedVariables false
set_option linter.unusedSectionVars false
namespace Go.Proofs.Ytmcihaihbnnblab.V
open Go.RowKit

set_option maxRecDepth 100000 in
set_option maxHeartbeats 400000 in
theorem plus (a b : Int) (w : World) : Calls Try.prog 106 #[.int .i64 a, .int .i64 b] w fun e w' => e = .returned (.int .i64 (max a b)) ∧ w = w' := by
  go_enter Try.func106, Try.ntmps106
  go_wp2
  all_goals
    go_ret
    exact ⟨retI (by omega), rfl⟩

set_option maxRecDepth 100000 in
set_option maxHeartbeats 400000 in
theorem sAll (a : Option Addr) (n cap : Nat) (l : List Int) (w : World) (h : Ints .i64 w a n l) :
    Calls Try.prog 99 #[.slice a n cap, .bool false] w fun e w' => e = .returned (.bool (l.all M.isVal)) ∧ w = w' := by
  obtain ⟨hl, hm, hr⟩ := h
  unfold maxLen at hm
  have HL := Lib.hid hl
  clear hl
  go_enter Try.func99, Try.ntmps99
  go_wp2
  go_loop [5] (fun i => ∃ k : Nat, k ≤ n ∧ i = .int .i64 k ∧ Hid ((l.take k).all M.isVal = true)) (fun i => n - (intOf i).toNat)
  case atStart => exact ⟨0, Nat.zero_le _, rfl, rfl⟩
  case round =>
    obtain ⟨k, hk, rfl, HA⟩ := hrel
    by_cases hlt : k < n
    · rcases hr with h0 | ⟨b, off, rfl, hbl, hc⟩
      · omega
      · have hck := hc k hlt
        have hsn := M.take_snoc l k (by have := HL.out; omega)
        obtain ⟨x, hx⟩ : ∃ x, x = l.getD k 0 := ⟨_, rfl⟩
        rw [← hx] at hck hsn
        have HX := Lib.hid hx
        have HS := Lib.hid hsn
        clear hc hx hsn
        by_cases hv : M.isVal x = true
        · have HA2 : Hid ((l.take (k + 1)).all M.isVal = true) := by show _ = _; rw [HS.out, M.all_snoc, HA.out, hv]; rfl
          go_wp2_with (first | (go_at_call 97; refine (sIsValue _ _).mono ?_; rintro e w' ⟨rfl, rfl⟩))
          go_round
          case rel => exact ⟨k + 1, by omega, by go_num, HA2⟩
          case measure => simp [intOf]; omega
        · simp only [Bool.not_eq_true] at hv
          have HF : Hid (l.all M.isVal = false) := M.all_false _ l k (by have := HL.out; omega) (by rw [← HX.out]; exact hv)
          go_wp2_with (first | (go_at_call 97; refine (sIsValue _ _).mono ?_; rintro e w' ⟨rfl, rfl⟩))
          go_ret
          exact ⟨retB (by rw [HF.out]), rfl⟩
    · have hkn : k = n := by omega
      subst hkn
      have HT : Hid (l.take k = l) := M.take_all l k (by have := HL.out; omega)
      clear hr
      go_wp2
      go_ret
      exact ⟨retB (by rw [← HT.out, HA.out]), rfl⟩

set_option maxRecDepth 100000 in
set_option maxHeartbeats 400000 in
theorem isSize (n : Int) (w : World) : Calls Try.prog 100 #[.int .i64 n] w fun e w' => e = .returned (.bool (decide (1 ≤ n) && decide (n ≤ 10))) ∧ w = w' := by
  go_enter Try.func100, Try.ntmps100
  go_wp2
  all_goals
    go_ret
    refine ⟨retB ?_, rfl⟩
    grind

set_option maxRecDepth 100000 in
set_option maxHeartbeats 400000 in
theorem isVector (a : Option Addr) (n cap : Nat) (l : List Int) (w : World) (h : Ints .i64 w a n l) :
    Calls Try.prog 70 #[.slice a n cap] w fun e w' => e = .returned (.bool (M.isVec l)) ∧ w = w' := by
  obtain ⟨hl, hm, hr⟩ := h
  unfold maxLen at hm
  have HL := Lib.hid hl
  clear hl
  by_cases hz : 1 ≤ n ∧ n ≤ 10
  · have hd : (decide ((1 : Int) ≤ n) && decide ((n : Int) ≤ 10)) = true := by simp; omega
    obtain ⟨hz1, hz2⟩ := hz
    go_enter Try.func70, Try.ntmps70
    go_wp2_with (first | (go_at_call 100; refine (isSize _ _).mono ?_; rintro e w' ⟨rfl, rfl⟩))
    go_loop [4, 11] (fun _ i => ∃ k : Nat, k ≤ n ∧ i = .int .i64 k ∧ Hid ((l.take k).all M.isVal = true)) (fun _ i => n - (intOf i).toNat)
    case atStart => exact ⟨0, Nat.zero_le _, rfl, rfl⟩
    case round =>
      obtain ⟨k, hk, rfl, HA⟩ := hrel
      by_cases hlt : k < n
      · rcases hr with h0 | ⟨b, off, rfl, hbl, hc⟩
        · omega
        · have hck := hc k hlt
          have hsn := M.take_snoc l k (by have := HL.out; omega)
          obtain ⟨x, hx⟩ : ∃ x, x = l.getD k 0 := ⟨_, rfl⟩
          rw [← hx] at hck hsn
          have HX := Lib.hid hx
          have HS := Lib.hid hsn
          clear hc hx hsn
          by_cases hv : M.isVal x = true
          · have HA2 : Hid ((l.take (k + 1)).all M.isVal = true) := by show _ = _; rw [HS.out, M.all_snoc, HA.out, hv]; rfl
            go_wp2_with (first | (go_at_call 101; refine (isValue _ _).mono ?_; rintro e w' ⟨rfl, rfl⟩))
            go_round
            case rel => exact ⟨k + 1, by omega, by go_num, HA2⟩
            case measure => simp [intOf]; omega
          · simp only [Bool.not_eq_true] at hv
            have HF : Hid (l.all M.isVal = false) := M.all_false _ l k (by have := HL.out; omega) (by rw [← HX.out]; exact hv)
            go_wp2_with (first | (go_at_call 101; refine (isValue _ _).mono ?_; rintro e w' ⟨rfl, rfl⟩))
            go_ret
            exact ⟨retB (by unfold M.isVec; rw [HF.out]; simp), rfl⟩
      · have hkn : k = n := by omega
        subst hkn
        have HT : Hid (l.take k = l) := M.take_all l k (by have := HL.out; omega)
        clear hr
        go_wp2
        go_ret
        exact ⟨retB (by have := HL.out; have h2 := HA.out; rw [HT.out] at h2; rw [M.isVec_all (by omega) (by omega), h2]), rfl⟩
  · have hd : (decide ((1 : Int) ≤ n) && decide ((n : Int) ≤ 10)) = false := by rw [Bool.and_eq_false_iff]; simp; omega
    clear hr
    go_enter Try.func70, Try.ntmps70
    go_wp2_with (first | (go_at_call 100; refine (isSize _ _).mono ?_; rintro e w' ⟨rfl, rfl⟩))
    go_ret
    exact ⟨retB (M.isVec_f (by have := HL.out; omega)).symm, rfl⟩

set_option maxRecDepth 100000 in
set_option maxHeartbeats 400000 in
theorem sVector (a : Option Addr) (n cap : Nat) (l : List Int) (w : World) (h : Ints .i64 w a n l) :
    Calls Try.prog 69 #[.slice a n cap] w fun e w' => e = .returned (.bool (M.isVec l)) ∧ w = w' := by
  have hl := h.1
  have HH := Lib.hid h
  have hm := h.2.1
  unfold maxLen at hm
  clear h
  have HL := Lib.hid hl
  clear hl
  by_cases hz : 1 ≤ n ∧ n ≤ 10
  · have hd : (decide ((1 : Int) ≤ n) && decide ((n : Int) ≤ 10)) = true := by simp; omega
    obtain ⟨hz1, hz2⟩ := hz
    go_enter Try.func69, Try.ntmps69
    go_wp2_with (first | (go_at_call 50; refine (sIn _ _ _ _).mono ?_; rintro e w' ⟨rfl, rfl⟩) | (go_at_call 99; refine (sAll _ _ _ l _ HH.out).mono ?_; rintro e w' ⟨rfl, rfl⟩))
    all_goals
      go_ret
      exact ⟨retB (M.isVec_all (by have := HL.out; omega) (by have := HL.out; omega)).symm, rfl⟩
  · have hd : (decide ((1 : Int) ≤ n) && decide ((n : Int) ≤ 10)) = false := by rw [Bool.and_eq_false_iff]; simp; omega
    go_enter Try.func69, Try.ntmps69
    go_wp2_with (first | (go_at_call 50; refine (sIn _ _ _ _).mono ?_; rintro e w' ⟨rfl, rfl⟩) | (go_at_call 99; refine (sAll _ _ _ l _ HH.out).mono ?_; rintro e w' ⟨rfl, rfl⟩))
    all_goals
      go_ret
      exact ⟨retB (M.isVec_f (by have := HL.out; omega)).symm, rfl⟩
end Go.Proofs.Ytmcihaihbnnblab.V

namespace Go.Proofs.Ytmcihaihbnnblab.V
open Go.RowKit

set_option maxRecDepth 100000 in
set_option maxHeartbeats 400000 in
theorem isMatrix (a : Option Addr) (n cap : Nat) (R : List (List Int)) (w : World) (h : Mat w a n R) :
    Calls Try.prog 80 #[.slice a n cap] w fun e w' => e = .returned (.bool (M.isMat R)) ∧ w = w' := by
  have HM := Lib.hid h
  have HL := Lib.hid h.1
  have hm := h.2.1
  unfold maxLen at hm
  clear h
  by_cases hz : 1 ≤ n ∧ n ≤ 10
  · have hd : (decide ((1 : Int) ≤ n) && decide ((n : Int) ≤ 10)) = true := by simp; omega
    obtain ⟨hz1, hz2⟩ := hz
    obtain ⟨b, off, ra0, rc0, L0, l0, rfl, hbl, hll0, hc0, hI0⟩ := HM.out.at 0 (by omega)
    have HW : Hid (L0 = M.wid R) := by show _ = _; rw [← hI0.1, hll0]; rfl
    rw [Nat.add_zero] at hc0
    clear hll0 hI0
    go_enter Try.func80, Try.ntmps80
    go_wp2_with (first | (go_at_call 100; refine (isSize _ _).mono ?_; rintro e w' ⟨rfl, rfl⟩))
    go_loop [4, 11] (fun _ i => ∃ k : Nat, k ≤ n ∧ i = .int .i64 k ∧ Hid (∀ i, i < k → M.okR R (R.getD i []) = true)) (fun _ i => n - (intOf i).toNat)
    case atStart => exact ⟨0, Nat.zero_le _, rfl, (fun i hi => absurd hi (Nat.not_lt_zero i))⟩
    case round =>
      obtain ⟨k, hk, rfl, HA⟩ := hrel
      by_cases hlt : k < n
      · obtain ⟨b', off', ra, rc, L, l, hbb, -, hll, hc, hI⟩ := HM.out.at k hlt
        injection hbb with hbb
        injection hbb with e1 e2
        subst e1 e2
        have hlen : l.length = L := hI.1
        have HI := Lib.hid hI
        have HLL := Lib.hid hll
        have HN := Lib.hid hlen
        clear hI hll hlen
        by_cases hLL : L = L0
        · subst hLL
          by_cases hv : M.isVec l = true
          · have HV := Lib.hid hv
            go_wp2_with (first | (go_at_call 70; refine (isVector _ _ _ l _ HI.out).mono ?_; rintro e w' ⟨rfl, rfl⟩))
            go_round
            case rel =>
              refine ⟨k + 1, by omega, by go_num, fun i hi => ?_⟩
              by_cases e : i = k
              · subst e; rw [← HLL.out]; exact M.okR_y HV.out (by rw [HN.out, HW.out])
              · exact HA.out i (by omega)
            case measure => simp [intOf]; omega
          · simp only [Bool.not_eq_true] at hv
            have HV := Lib.hid hv
            go_wp2_with (first | (go_at_call 70; refine (isVector _ _ _ l _ HI.out).mono ?_; rintro e w' ⟨rfl, rfl⟩))
            go_ret
            exact ⟨retB (M.isMat_bad k (by have := HL.out; omega) (by rw [← HLL.out]; exact M.okR_v HV.out)).symm, rfl⟩
        · have HLL0 := Lib.hid hLL
          go_wp2
          go_ret
          exact ⟨retB (M.isMat_bad k (by have := HL.out; omega) (by rw [← HLL.out]; exact M.okR_n (by rw [HN.out, ← HW.out]; exact HLL0.out))).symm, rfl⟩
      · have hkn : k = n := by omega
        subst hkn
        go_wp2
        go_ret
        exact ⟨retB (M.isMat_good (by have := HL.out; omega) (by have := HL.out; omega) (by have := HL.out; rw [this]; exact HA.out)).symm, rfl⟩
  · have hd : (decide ((1 : Int) ≤ n) && decide ((n : Int) ≤ 10)) = false := by rw [Bool.and_eq_false_iff]; simp; omega
    go_enter Try.func80, Try.ntmps80
    go_wp2_with (first | (go_at_call 100; refine (isSize _ _).mono ?_; rintro e w' ⟨rfl, rfl⟩))
    go_ret
    exact ⟨retB (M.isMat_no (by have := HL.out; omega)).symm, rfl⟩

set_option maxRecDepth 100000 in
set_option maxHeartbeats 400000 in
theorem sIsMatrix (a : Option Addr) (n cap : Nat) (R : List (List Int)) (w : World) (h : Mat w a n R) :
    Calls Try.prog 84 #[.slice a n cap] w fun e w' => e = .returned (.bool (M.isMat R)) ∧ ∃ q, w' = w.drewN q := by
  have HM := Lib.hid h
  have HL := Lib.hid h.1
  have hm := h.2.1
  unfold maxLen at hm
  clear h
  by_cases hz : 1 ≤ n ∧ n ≤ 10
  · obtain ⟨hz1, hz2⟩ := hz
    obtain ⟨b, off, ra0, rc0, L0, l0, rfl, hbl, hll0, hc0, hI0⟩ := HM.out.at 0 (by omega)
    have HW : Hid (L0 = M.wid R) := by show _ = _; rw [← hI0.1, hll0]; rfl
    rw [Nat.add_zero] at hc0
    clear hll0 hI0
    go_enter Try.func84, Try.ntmps84
    go_wp2
    go_loopw [3] (fun i wr => ∃ k : Nat, k ≤ n ∧ i = .int .i64 k ∧ Hid (∀ i, i < k → M.okR R (R.getD i []) = true) ∧ ∃ q, wr = w.drewN q) (fun i _ => n - (intOf i).toNat)
    case atStart => exact ⟨0, Nat.zero_le _, rfl, (fun i hi => absurd hi (Nat.not_lt_zero i)), 0, rfl⟩
    case round =>
      obtain ⟨k, hk, rfl, HA, q, rfl⟩ := hrel
      by_cases hlt : k < n
      · obtain ⟨b', off', ra, rc, L, l, hbb, -, hll, hc, hI⟩ := HM.out.at k hlt
        injection hbb with hbb
        injection hbb with e1 e2
        subst e1 e2
        have hlen : l.length = L := hI.1
        have HI := Lib.hid hI
        have HLL := Lib.hid hll
        have HN := Lib.hid hlen
        have hki : (k : Int) < (n : Int) := by omega
        clear hI hll hlen
        by_cases hv : M.isVec l = true
        · have HV := Lib.hid hv
          have HC : ∀ w : World, Ints .i64 w ra L l → Calls Try.prog 69 #[.slice ra L rc] w fun e w' => e = .returned (.bool true) ∧ w = w' := by
            intro w hI
            refine (sVector _ _ _ l _ hI).mono ?_
            rintro e w' ⟨rfl, rfl⟩
            exact ⟨by rw [HV.out], rfl⟩
          clear hv
          by_cases hLL : L = L0
          · subst hLL
            go_wp2
            go_quiet ((go_at_call 69; exact q_more_s (HC _ HI.out)))
            go_wp2
            go_roundw
            case rel =>
              refine ⟨k + 1, by omega, by go_num, fun i hi => ?_, _, rfl⟩
              by_cases e : i = k
              · subst e; rw [← HLL.out]; exact M.okR_y HV.out (by rw [HN.out, HW.out])
              · exact HA.out i (by omega)
            case measure => simp [intOf]; omega
          · have HLL0 := Lib.hid hLL
            have hne : (L == L0) = false := by simpa using hLL
            have hne2 : (L != L0) = true := by simpa using hLL
            go_wp2
            go_quiet ((go_at_call 69; exact q_more_s (HC _ HI.out)))
            go_wp2
            go_ret
            exact ⟨retB (M.isMat_bad k (by have := HL.out; omega) (by rw [← HLL.out]; exact M.okR_n (by rw [HN.out, ← HW.out]; exact HLL0.out))).symm, _, World.drewN_drewN _ _ _⟩
        · simp only [Bool.not_eq_true] at hv
          have HV := Lib.hid hv
          have HC : ∀ w : World, Ints .i64 w ra L l → Calls Try.prog 69 #[.slice ra L rc] w fun e w' => e = .returned (.bool false) ∧ w = w' := by
            intro w hI
            refine (sVector _ _ _ l _ hI).mono ?_
            rintro e w' ⟨rfl, rfl⟩
            exact ⟨by rw [HV.out], rfl⟩
          clear hv
          go_wp2
          go_quiet ((go_at_call 69; exact q_more_s (HC _ HI.out)))
          go_wp2
          go_ret
          exact ⟨retB (M.isMat_bad k (by have := HL.out; omega) (by rw [← HLL.out]; exact M.okR_v HV.out)).symm, _, World.drewN_drewN _ _ _⟩
      · have hkn : k = n := by omega
        subst hkn
        go_wp2
        go_ret
        exact ⟨retB (M.isMat_good (by have := HL.out; omega) (by have := HL.out; omega) (by have := HL.out; rw [this]; exact HA.out)).symm, _, rfl⟩
  · by_cases h0 : n = 0
    · subst h0
      go_enter Try.func84, Try.ntmps84
      go_wp2
      go_ret
      exact ⟨retB (M.isMat_no (by have := HL.out; omega)).symm, 0, rfl⟩
    · have h1 : 10 < n := by omega
      go_enter Try.func84, Try.ntmps84
      go_wp2
      go_ret
      exact ⟨retB (M.isMat_no (by have := HL.out; omega)).symm, 0, rfl⟩

theorem isMatrix_b (a : Option Addr) (n cap : Nat) (R : List (List Int)) (w : World) (b : Bool) (hb : M.isMat R = b) (h : Mat w a n R) :
    Calls Try.prog 80 #[.slice a n cap] w fun e w' => e = .returned (.bool b) ∧ w = w' := by
  subst hb
  exact isMatrix _ _ _ _ _ h
theorem sIsMatrix_b (a : Option Addr) (n cap : Nat) (R : List (List Int)) (w : World) (b : Bool) (hb : M.isMat R = b) (h : Mat w a n R) :
    Calls Try.prog 84 #[.slice a n cap] w fun e w' => e = .returned (.bool b) ∧ ∃ q, w' = w.drewN q := by
  subst hb
  exact sIsMatrix _ _ _ _ _ h
theorem sIsMatrixB (a : Option Addr) (n cap : Nat) (R : List (List Int)) (w : World) (h : Mat w a n R) :
    Calls Try.prog 84 #[.slice a n cap] w fun e w' => e = .returned (.bool (M.isMat R)) ∧ Below w.heap.size w w' := by
  refine (sIsMatrix _ _ _ _ _ h).mono ?_
  rintro e w' ⟨rfl, q, rfl⟩
  exact ⟨rfl, b_draws _ _⟩
theorem sIsMatrixB_b (a : Option Addr) (n cap : Nat) (R : List (List Int)) (w : World) (b : Bool) (hb : M.isMat R = b) (h : Mat w a n R) :
    Calls Try.prog 84 #[.slice a n cap] w fun e w' => e = .returned (.bool b) ∧ Below w.heap.size w w' := by
  subst hb
  exact sIsMatrixB _ _ _ _ _ h
end Go.Proofs.Ytmcihaihbnnblab.V

namespace Go.Proofs.Ytmcihaihbnnblab.V
open Go.RowKit

theorem tm_val {R : List (List Int)} {n L : Nat} (hR : M.isMat R = true) (hr : Rect R n L) (hn : 0 < n) {i j : Nat} (hi : i < n) (hj : j < L) : M.isVal (M.ent R i j) = true :=
  M.isMat_val hR (by rw [hr.1]; exact hi) (by rw [hr.wid hn]; exact hj)

set_option maxRecDepth 100000 in
set_option maxHeartbeats 400000 in
theorem sTimesB (a b : Int) (w : World) (ha : M.Big a) (hb : M.Big b) : Calls Try.prog 64 #[.int .i64 a, .int .i64 b] w fun e w' => e = .returned (.int .i64 (M.times a b)) ∧ w = w' := by
  have ba := M.big_bound ha
  have bb := M.big_bound hb
  clear ha hb
  obtain ⟨ba1, ba2⟩ := ba
  obtain ⟨bb1, bb2⟩ := bb
  by_cases h : a = -1000000000000000
  · subst h
    go_enter Try.func64, Try.ntmps64
    go_wp2
    all_goals go_ret; exact ⟨retI (by simp [M.times]), rfl⟩
  · have h' : (a == -1000000000000000) = false := by simpa using h
    by_cases h2 : b = -1000000000000000
    · subst h2
      go_enter Try.func64, Try.ntmps64
      go_wp2
      all_goals go_ret; exact ⟨retI (by simp [M.times]), rfl⟩
    · have h2' : (b == -1000000000000000) = false := by simpa using h2
      go_enter Try.func64, Try.ntmps64
      go_wp2
      all_goals go_ret; exact ⟨retI (by simp [M.times, h, h2]), rfl⟩

/-- The entries that are done, the one that is being summed, and those still Bottom. -/
def M.mulS (R R' : List (List Int)) (N i j k : Nat) (s t : Nat) : Int :=
  if s < i ∨ (s = i ∧ t < j) then M.dot R R' s t N else if s = i ∧ t = j then M.dot R R' s t k else -1000000000000000

set_option maxRecDepth 100000 in
set_option maxHeartbeats 4000000 in
theorem sMultiplyB (a : Option Addr) (n cap N : Nat) (R : List (List Int)) (a' : Option Addr) (cap' L : Nat) (R' : List (List Int)) (w : World) (h : Mat w a n R) (h' : Mat w a' N R') (hr : Rect R n N) (hr' : Rect R' N L)
    (hR : ∀ i k, i < n → k < N → M.Big (M.ent R i k)) (hR' : ∀ k j, k < N → j < L → M.Big (M.ent R' k j)) (n1 : 1 ≤ n) (n2 : n ≤ 10) (N1 : 1 ≤ N) (N2 : N ≤ 10) (l1 : 1 ≤ L) (l2 : L ≤ 10) :
    Calls Try.prog 91 #[.slice a n cap, .slice a' N cap'] w (MPost n (M.mk n L (fun i j => M.dot R R' i j N)) w) := by
  have HA := Lib.hid h
  have HA' := Lib.hid h'
  have HR := Lib.hid hr
  have HR' := Lib.hid hr'
  have HV := Lib.hid hR
  have HV' := Lib.hid hR'
  obtain ⟨b', off', ra', rc', rfl, -, hc'⟩ := h'.rect_first hr' (by omega)
  clear h h' hr hr' hR hR'
  go_enter Try.func91, Try.ntmps91
  go_wp2_with fail
  refine (sBottom n L _ (by omega) (by omega)).mono ?_
  rintro e w1 ⟨a2, cap2, rfl, ho, hb⟩
  have HO0 : Hid (OwnM w1 w.heap.size (.slice a2 n cap2) (M.mk n L (M.mulS R R' N 0 0 0))) :=
    (congrArg (OwnM _ _ _) (M.mk_congr fun i _ j _ => by
      unfold M.mulS
      rw [if_neg (by omega)]
      by_cases e : i = 0 ∧ j = 0
      · rw [if_pos e]; rfl
      · rw [if_neg e])).mp ho
  have HB0 := Lib.hid hb
  clear ho hb
  go_wp2
  go_loopw [6] (fun i wr => ∃ k : Nat, k ≤ n ∧ i = .int .i64 k ∧ OwnM wr w.heap.size (.slice a2 n cap2) (M.mk n L (M.mulS R R' N k 0 0)) ∧ Below w.heap.size w wr) (fun i _ => n - (intOf i).toNat)
  case atStart => exact ⟨0, Nat.zero_le _, rfl, HO0.out, HB0.out⟩
  case round =>
    obtain ⟨k, hk, rfl, hO, hb⟩ := hrel
    obtain ⟨wo, rfl⟩ : ∃ x, x = wr := ⟨_, rfl⟩
    have HO := Lib.hid hO
    have HB := Lib.hid hb
    clear hO hb HO0 HB0
    by_cases hlt : k < n
    · have hki : (k : Int) < (n : Int) := by omega
      go_wp2
      go_loopw [7] (fun j wr => ∃ t : Nat, t ≤ L ∧ j = .int .i64 t ∧ OwnM wr w.heap.size (.slice a2 n cap2) (M.mk n L (M.mulS R R' N k t 0)) ∧ Below w.heap.size w wr) (fun j _ => L - (intOf j).toNat)
      case atStart => exact ⟨0, Nat.zero_le _, rfl, HO.out, HB.out⟩
      case round =>
        obtain ⟨t, ht, rfl, hO, hb⟩ := hrel
        obtain ⟨wp, rfl⟩ : ∃ x, x = wr := ⟨_, rfl⟩
        have HOi := Lib.hid hO
        have HBi := Lib.hid hb
        clear hO hb HB HO
        have hc2 : wp.cell? ⟨b', off', none⟩ = some (.slice ra' L rc') := by
          obtain ⟨d, od, rd, rcd, hdd, hbd, hcd⟩ := HA'.out.rect_first HR'.out (by omega)
          injection hdd with hdd
          injection hdd with e1 e2
          subst e1 e2
          rw [HBi.out.cell (p := ⟨b', off', none⟩) hbd]
          exact hc'
        by_cases htl : t < L
        · have hti : (t : Int) < (L : Int) := by omega
          go_wp2
          go_loopw [8] (fun l wr => ∃ u : Nat, u ≤ N ∧ l = .int .i64 u ∧ OwnM wr w.heap.size (.slice a2 n cap2) (M.mk n L (M.mulS R R' N k t u)) ∧ Below w.heap.size w wr) (fun l _ => N - (intOf l).toNat)
          case atStart => exact ⟨0, Nat.zero_le _, rfl, HOi.out, HBi.out⟩
          case round =>
            obtain ⟨u, hu, rfl, hO, hb⟩ := hrel
            have HOj := Lib.hid hO
            have HBj := Lib.hid hb
            clear hO hb HBi HOi hc2
            by_cases hul : u < N
            · have hui : (u : Int) < (N : Int) := by omega
              obtain ⟨g, q, L3, c3, x3, rfl, hg3, hq3, hL3, hx3, c31, c32, f31, ho3⟩ := HOj.out.at k t hlt (by rw [M.mk_rowlen _ _ _ _ hlt]; exact htl)
              rw [M.mk_rowlen _ _ _ _ hlt] at hL3
              subst hL3
              rw [M.mk_ent _ _ _ _ _ hlt htl] at hx3
              obtain ⟨d, od, rd, ro, c4, x4, rfl, hx4, c41, c42⟩ := (HA.out.below HBj.out).rect_ent HR.out k u hlt hul
              obtain ⟨d', od', rd', ro', c5, x5, hdd, hx5, c51, c52⟩ := (HA'.out.below HBj.out).rect_ent HR'.out u t hul htl
              injection hdd with hdd
              injection hdd with e1 e2
              subst e1 e2
              have hv4 : M.Big x4 := by rw [hx4]; exact HV.out k u hlt hul
              have hv5 : M.Big x5 := by rw [hx5]; exact HV'.out u t hul htl
              have HV4 := Lib.hid hv4
              have HV5 := Lib.hid hv5
              obtain ⟨y, hy⟩ : ∃ y, y = M.times x4 x5 := ⟨_, rfl⟩
              have HN : Hid (OwnM (wr.setCell ⟨q, t, none⟩ (.int .i64 (if x3 < y then y else x3))) w.heap.size (.slice (some ⟨g, 0, none⟩) n cap2) (M.mk n L3 (M.mulS R R' N k t (u + 1)))) := by
                refine (congrArg (OwnM _ _ _) ?_).mp (ho3 (if x3 < y then y else x3))
                rw [M.mk_set _ _ _ _ _ _ hlt]
                refine M.mk_congr fun i _ j _ => ?_
                rw [← M.ifmax, hx3, hy, hx4, hx5]
                unfold M.mulS
                rw [if_neg (show ¬(k < k ∨ k = k ∧ t < t) by omega), if_pos (show k = k ∧ t = t from ⟨rfl, rfl⟩)]
                by_cases e : i = k
                · subst e
                  rw [if_pos rfl]
                  by_cases e2 : j = t
                  · subst e2
                    rw [if_pos rfl, if_neg (show ¬(i < i ∨ i = i ∧ j < j) by omega), if_pos (show i = i ∧ j = j from ⟨rfl, rfl⟩)]
                    rfl
                  · rw [if_neg e2]
                    by_cases e3 : i < i ∨ i = i ∧ j < t
                    · rw [if_pos e3, if_pos e3]
                    · rw [if_neg e3, if_neg e3, if_neg (by omega), if_neg (by omega)]
                · rw [if_neg e]
                  by_cases e3 : i < k ∨ i = k ∧ j < t
                  · rw [if_pos e3, if_pos e3]
                  · rw [if_neg e3, if_neg e3, if_neg (by omega), if_neg (by omega)]
              have HC : ∀ w : World, Calls Try.prog 64 #[.int .i64 x4, .int .i64 x5] w fun e w' => e = .returned (.int .i64 y) ∧ w = w' := by
                intro w
                rw [hy]
                exact sTimesB _ _ _ HV4.out HV5.out
              clear ho3 hx3 hx4 hx5 hv4 hv5 hy
              go_wp2
              go_still_tail 29, (by kernel_rfl)
              still_call (st_of (HC _))
              repeat still_step
              refine wpStill_nil ?_
              change wpList _ _ _ _ _ wr.drew
              go_wp2
              first
                | exact ⟨⟨u + 1, by omega, by go_num, HN.out.keep (fun _ _ _ => rfl), HBj.out.drew.setCell hq3 _⟩, by simp [intOf]; omega⟩
                | (go_roundw
                   case rel => exact ⟨u + 1, by omega, by go_num, HN.out.keep (fun _ _ _ => rfl), HBj.out.drew.setCell hq3 _⟩
                   case measure => simp [intOf]; omega)
            · obtain rfl : u = N := by omega
              have HO2 : Hid (OwnM wr w.heap.size (.slice a2 n cap2) (M.mk n L (M.mulS R R' u k (t + 1) 0))) :=
                (congrArg (OwnM _ _ _) (M.mk_congr fun i hi j _ => by
                  unfold M.mulS
                  by_cases e : i < k ∨ i = k ∧ j < t
                  · rw [if_pos e, if_pos (by omega)]
                  · rw [if_neg e]
                    by_cases e2 : i = k ∧ j = t
                    · rw [if_pos e2, if_pos (by omega)]
                    · rw [if_neg e2, if_neg (by omega)]
                      by_cases e3 : i = k ∧ j = t + 1
                      · rw [if_pos e3]; rfl
                      · rw [if_neg e3])).mp HOj.out
              go_wp2
              go_roundw
              case rel => exact ⟨t + 1, by omega, by go_num, HO2.out, HBj.out⟩
              case measure => simp [intOf]; omega
        · obtain rfl : t = L := by omega
          have HO2 : Hid (OwnM wp w.heap.size (.slice a2 n cap2) (M.mk n t (M.mulS R R' N (k + 1) 0 0))) :=
            (congrArg (OwnM _ _ _) (M.mk_congr fun i hi j hj => by
              unfold M.mulS
              by_cases e : i < k ∨ i = k ∧ j < t
              · rw [if_pos e, if_pos (by omega)]
              · rw [if_neg e, if_neg (by omega), if_neg (by omega)]
                by_cases e3 : i = k + 1 ∧ j = 0
                · rw [if_pos e3]; rfl
                · rw [if_neg e3])).mp HOi.out
          go_wp2
          go_roundw
          case rel => exact ⟨k + 1, by omega, by go_num, HO2.out, HBi.out⟩
          case measure => simp [intOf]; omega
    · obtain rfl : k = n := by omega
      go_wp2
      go_ret
      exact ⟨_, _, rfl, (congrArg (OwnM _ _ _) (M.mk_congr fun i hi j _ => by unfold M.mulS; rw [if_pos (.inl hi)])).mp HO.out, HB.out⟩
theorem sMultiply (a : Option Addr) (n cap N : Nat) (R : List (List Int)) (a' : Option Addr) (cap' L : Nat) (R' : List (List Int)) (w : World) (h : Mat w a n R) (h' : Mat w a' N R') (hr : Rect R n N) (hr' : Rect R' N L)
    (hR : M.isMat R = true) (hR' : M.isMat R' = true) (n1 : 1 ≤ n) (n2 : n ≤ 10) (N1 : 1 ≤ N) (N2 : N ≤ 10) (l1 : 1 ≤ L) (l2 : L ≤ 10) :
    Calls Try.prog 91 #[.slice a n cap, .slice a' N cap'] w (MPost n (M.mk n L (fun i j => M.dot R R' i j N)) w) :=
  sMultiplyB a n cap N R a' cap' L R' w h h' hr hr' (fun i k hi hk => M.big_val (tm_val hR hr (by omega) hi hk)) (fun k j hk hj => M.big_val (tm_val hR' hr' (by omega) hk hj)) n1 n2 N1 N2 l1 l2
end Go.Proofs.Ytmcihaihbnnblab.V

namespace Go.Proofs.Ytmcihaihbnnblab.V
open Go.RowKit

set_option maxRecDepth 100000 in
set_option maxHeartbeats 400000 in
theorem clPlus (a b : Int) (w : World) : Calls Try.prog 105 #[.int .i64 a, .int .i64 b] w fun e w' => e = .returned (.int .i64 (max a b)) ∧ w = w' := by
  go_enter Try.func105, Try.ntmps105
  go_wp2_with (first | (go_at_call 106; refine (plus _ _ _).mono ?_; rintro e w' ⟨rfl, rfl⟩))
  go_ret
  exact ⟨rfl, rfl⟩

/-- The pair of operations. -/
theorem maxPlus (w : World) : Calls Try.prog 83 #[] w fun e w' => e = .returned (.agg #[.func (.func 105) #[] #[], .func (.func 107) #[] #[]]) ∧ Below w.heap.size w w' := by
  have hst : ∀ (w : World) (a : Addr) (f : Fn), (store a (.func f #[] #[])).run Try.prog w = stored Try.prog w a (.func f #[] #[]) .plain := fun w a f => run_store _ w a _ _ rfl
  go_enter Try.func83, Try.ntmps83
  go_wp2
  exact bodyPost_ret (v := .agg #[.func (.func 105) #[] #[], .func (.func 107) #[] #[]]) (by simp [results, Try.results83, go_sem]) rfl ⟨rfl, b_alloc _ _⟩

theorem fld0 (w : World) (f g : Fn) : (Instr.field 109 (.agg #[.func f #[] #[], .func g #[] #[]]) 0).run Try.prog w = .ok (.func f #[] #[]) w := by
  simp [Instr.field, part, asAgg, go_sem]
end Go.Proofs.Ytmcihaihbnnblab.V
