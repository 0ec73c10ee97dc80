/- Square matrices and lists of nodes: both sides tell them alike. -/
import Derived.Test.YthonlfjjgmmnpabRows
import Derived.Test.YthonlfjjgmmnpabPln
import Derived.Test.YthonlfjjgmmnpabHelp
import Derived.Test.YthonlfjjgmmnpabRows0
import Derived.Test.YthonlfjjgmmnpabOwn
import Derived.Test.YthonlfjjgmmnpabMat0
import Derived.WalkKit
import Derived.ProofKit
import Derived.WalkSmall
import Derived.Deep.QuietTactic
import Derived.BigQuiet
import Derived.BigRegion
import Derived.Deep.Draws
import Derived.Lib.Hide
import Derived.OpenShut
import Derived.Deep.OwnRows
import Derived.Test.YthonlfjjgmmnpabVals0
import Derived.Test.YthonlfjjgmmnpabVec
import Derived.Test.YthonlfjjgmmnpabIsMat
namespace Go.Proofs.Ythonlfjjgmmnpab.V
open Go.RowKit

set_option maxRecDepth 100000 in
set_option maxHeartbeats 400000 in
theorem isSquare (a : Option Addr) (n cap : Nat) (R : List (List Int)) (w : World) (h : Mat w a n R) :
    Calls Try.prog 44 #[.slice a n cap] w fun e w' => e = .returned (.bool (M.sqB R)) ∧ w = w' := by
  have HA := Lib.hid h
  have HL := Lib.hid h.1
  by_cases hR : M.isMat R = true
  · have HR := Lib.hid hR
    obtain ⟨m1, m2, c1, c2, -, -⟩ := M.isMat_t hR
    rw [h.1] at m1 m2
    obtain ⟨b, off, ra, L, rc, rfl, hL, hc⟩ := h.first (by omega)
    have HW := Lib.hid hL
    clear h hR hL c1 c2
    go_enter Try.func44, Try.ntmps44
    go_wp2_with fail
    refine (isMatrix_b _ _ _ R _ true HR.out HA.out).mono ?_
    rintro e w' ⟨rfl, rfl⟩
    go_wp2
    go_ret
    exact ⟨retB (by unfold M.sqB; rw [HR.out, HL.out, ← HW.out, Bool.true_and, Bool.eq_iff_iff]; simp; omega), rfl⟩
  · simp only [Bool.not_eq_true] at hR
    have HR := Lib.hid hR
    clear h hR
    go_enter Try.func44, Try.ntmps44
    go_wp2_with fail
    refine (isMatrix_b _ _ _ R _ false HR.out HA.out).mono ?_
    rintro e w' ⟨rfl, rfl⟩
    go_wp2
    go_ret
    exact ⟨retB (by unfold M.sqB; rw [HR.out, Bool.false_and]), rfl⟩
theorem isSquare_b (a : Option Addr) (n cap : Nat) (R : List (List Int)) (w : World) (b : Bool) (hb : M.sqB R = b) (h : Mat w a n R) :
    Calls Try.prog 44 #[.slice a n cap] w fun e w' => e = .returned (.bool b) ∧ w = w' := by
  subst hb; exact isSquare a n cap R w h

set_option maxRecDepth 100000 in
set_option maxHeartbeats 400000 in
theorem sSquare (a : Option Addr) (n cap : Nat) (R : List (List Int)) (w : World) (h : Mat w a n R) :
    Calls Try.prog 36 #[.slice a n cap] w fun e w' => e = .returned (.bool (M.sqB R)) ∧ ∃ q, w' = w.drewN q := by
  have HA := Lib.hid h
  have HL := Lib.hid h.1
  by_cases hR : M.isMat R = true
  · have HR := Lib.hid hR
    obtain ⟨m1, m2, c1, c2, -, -⟩ := M.isMat_t hR
    rw [h.1] at m1 m2
    obtain ⟨b, off, ra, L, rc, rfl, hL, hc⟩ := h.first (by omega)
    have HW := Lib.hid hL
    clear h hR hL c1 c2
    go_enter Try.func36, Try.ntmps36
    go_wp2_with fail
    refine (sIsMatrix_b _ _ _ R _ true HR.out HA.out).mono ?_
    rintro e w' ⟨rfl, q, rfl⟩
    go_wp2
    go_ret
    exact ⟨retB (by unfold M.sqB; rw [HR.out, HL.out, ← HW.out, Bool.true_and, Bool.eq_iff_iff]; simp; omega), q, rfl⟩
  · simp only [Bool.not_eq_true] at hR
    have HR := Lib.hid hR
    clear h hR
    go_enter Try.func36, Try.ntmps36
    go_wp2_with fail
    refine (sIsMatrix_b _ _ _ R _ false HR.out HA.out).mono ?_
    rintro e w' ⟨rfl, q, rfl⟩
    go_wp2
    go_ret
    exact ⟨retB (by unfold M.sqB; rw [HR.out, Bool.false_and]), q, rfl⟩
theorem sSquare_b (a : Option Addr) (n cap : Nat) (R : List (List Int)) (w : World) (b : Bool) (hb : M.sqB R = b) (h : Mat w a n R) :
    Calls Try.prog 36 #[.slice a n cap] w fun e w' => e = .returned (.bool b) ∧ ∃ q, w' = w.drewN q := by
  subst hb; exact sSquare a n cap R w h

set_option maxRecDepth 100000 in
set_option maxHeartbeats 400000 in
theorem areNodes (a : Option Addr) (n cap : Nat) (a' : Option Addr) (N cap' : Nat) (l : List Int) (w : World) (hn : n ≤ 1000) (h : Ints .i64 w a' N l) :
    Calls Try.prog 49 #[.slice a n cap, .slice a' N cap'] w fun e w' => e = .returned (.bool (M.nodesB n l)) ∧ w = w' := by
  obtain ⟨hl, hm, hr⟩ := h
  unfold maxLen at hm
  have HL := Lib.hid hl
  clear hl
  go_enter Try.func49, Try.ntmps49
  go_wp2
  go_loop [6, 9] (fun _ i => ∃ k : Nat, k ≤ N ∧ i = .int .i64 k ∧ Hid ((l.take k).all (M.inN n) = true)) (fun _ i => N - (intOf i).toNat)
  case atStart => exact ⟨0, Nat.zero_le _, rfl, rfl⟩
  case round =>
    obtain ⟨k, hk, rfl, HA⟩ := hrel
    by_cases hlt : k < N
    · rcases hr with h0 | ⟨b, off, rfl, hbl, hc⟩
      · omega
      · have hck := hc k hlt
        have hsn := M.take_snoc l k (by have := HL.out; omega)
        obtain ⟨x, hx⟩ : ∃ x, x = l.getD k 0 := ⟨_, rfl⟩
        rw [← hx] at hck hsn
        have HX := Lib.hid hx
        have HS := Lib.hid hsn
        clear hc hx hsn
        by_cases hv : M.inN n x = true
        · have HA2 : Hid ((l.take (k + 1)).all (M.inN n) = true) := by show _ = _; rw [HS.out, M.all_snoc, HA.out, hv]; rfl
          obtain ⟨v1, v2⟩ := M.inN_t hv
          clear hv
          go_wp2
          go_round
          case rel => exact ⟨k + 1, by omega, by go_num, HA2⟩
          case measure => simp [intOf]; omega
        · simp only [Bool.not_eq_true] at hv
          have HF : Hid (l.all (M.inN n) = false) := M.all_false _ l k (by have := HL.out; omega) (by rw [← HX.out]; exact hv)
          have hv := M.inN_f hv
          by_cases h0 : x < 0
          · go_wp2
            go_ret
            exact ⟨retB HF.out.symm, rfl⟩
          · have h1 : (n : Int) ≤ x := by omega
            have h2 : 0 ≤ x := by omega
            go_wp2
            go_ret
            exact ⟨retB HF.out.symm, rfl⟩
    · have hkn : k = N := by omega
      subst hkn
      have HT : Hid (l.take k = l) := M.take_all l k (by have := HL.out; omega)
      clear hr
      go_wp2
      go_ret
      exact ⟨retB (by have h2 := HA.out; rw [HT.out] at h2; exact h2.symm), rfl⟩
theorem areNodes_b (a : Option Addr) (n cap : Nat) (a' : Option Addr) (N cap' : Nat) (l : List Int) (w : World) (b : Bool) (hb : M.nodesB n l = b) (hn : n ≤ 1000) (h : Ints .i64 w a' N l) :
    Calls Try.prog 49 #[.slice a n cap, .slice a' N cap'] w fun e w' => e = .returned (.bool b) ∧ w = w' := by
  subst hb; exact areNodes a n cap a' N cap' l w hn h

set_option maxRecDepth 100000 in
set_option maxHeartbeats 400000 in
theorem sWithin (n : Nat) (a' : Option Addr) (N cap' : Nat) (l : List Int) (w : World) (hn : n ≤ 1000) (h : Ints .i64 w a' N l) :
    Calls Try.prog 127 #[.slice a' N cap', .int .i64 N, .int .i64 0, .int .i64 ((n : Int) - 1)] w fun e w' => e = .returned (.bool (M.nodesB n l)) ∧ w = w' := by
  obtain ⟨hl, hm, hr⟩ := h
  unfold maxLen at hm
  have HL := Lib.hid hl
  clear hl
  go_enter Try.func127, Try.ntmps127
  go_wp2
  go_loop [9] (fun i => ∃ k : Nat, k ≤ N ∧ i = .int .i64 k ∧ Hid ((l.take k).all (M.inN n) = true)) (fun i => N - (intOf i).toNat)
  case atStart => exact ⟨0, Nat.zero_le _, rfl, rfl⟩
  case round =>
    obtain ⟨k, hk, rfl, HA⟩ := hrel
    by_cases hlt : k < N
    · rcases hr with h0 | ⟨b, off, rfl, hbl, hc⟩
      · omega
      · have hck := hc k hlt
        have hsn := M.take_snoc l k (by have := HL.out; omega)
        obtain ⟨x, hx⟩ : ∃ x, x = l.getD k 0 := ⟨_, rfl⟩
        rw [← hx] at hck hsn
        have HX := Lib.hid hx
        have HS := Lib.hid hsn
        clear hc hx hsn
        obtain ⟨q, hq⟩ : ∃ q, q = M.inN n x := ⟨_, rfl⟩
        have HQ : Hid ((decide (0 ≤ x) && decide (x ≤ (n : Int) - 1)) = q) := by
          show _ = _; rw [hq]; unfold M.inN
          rw [Bool.eq_iff_iff]; simp; omega
        have HC : ∀ w : World, Calls Try.prog 83 #[.int .i64 x, .int .i64 0, .int .i64 ((n : Int) - 1)] w fun e w' => e = .returned (.bool q) ∧ w = w' := by
          intro w
          have := sIn x 0 ((n : Int) - 1) w
          rw [HQ.out] at this
          exact this
        cases q with
        | true =>
          have HA2 : Hid ((l.take (k + 1)).all (M.inN n) = true) := by show _ = _; rw [HS.out, M.all_snoc, HA.out, ← hq]; rfl
          clear hq
          go_wp2_with (go_at_call 83; refine (HC _).mono ?_; rintro e w' ⟨rfl, rfl⟩)
          go_round
          case rel => exact ⟨k + 1, by omega, by go_num, HA2⟩
          case measure => simp [intOf]; omega
        | false =>
          have HF : Hid (l.all (M.inN n) = false) := M.all_false _ l k (by have := HL.out; omega) (by rw [← HX.out]; exact hq.symm)
          clear hq
          go_wp2_with (go_at_call 83; refine (HC _).mono ?_; rintro e w' ⟨rfl, rfl⟩)
          go_ret
          exact ⟨retB HF.out.symm, rfl⟩
    · have hkn : k = N := by omega
      subst hkn
      have HT : Hid (l.take k = l) := M.take_all l k (by have := HL.out; omega)
      clear hr
      go_wp2
      go_ret
      exact ⟨retB (by have h2 := HA.out; rw [HT.out] at h2; exact h2.symm), rfl⟩
set_option maxRecDepth 100000 in
set_option maxHeartbeats 400000 in
theorem sNodes (a : Option Addr) (n cap : Nat) (a' : Option Addr) (N cap' : Nat) (l : List Int) (w : World) (hn : n ≤ 1000) (h : Ints .i64 w a' N l) :
    Calls Try.prog 102 #[.slice a n cap, .slice a' N cap'] w fun e w' => e = .returned (.bool (M.nodesB n l)) ∧ w = w' := by
  have HI := Lib.hid h
  have hm := h.2.1
  unfold maxLen at hm
  clear h
  go_enter Try.func102, Try.ntmps102
  go_wp2_with fail
  refine (sWithin n _ _ _ l _ hn HI.out).mono ?_
  rintro e w' ⟨rfl, rfl⟩
  go_wp2
  go_ret
  exact ⟨rfl, rfl⟩
theorem sNodes_b (a : Option Addr) (n cap : Nat) (a' : Option Addr) (N cap' : Nat) (l : List Int) (w : World) (b : Bool) (hb : M.nodesB n l = b) (hn : n ≤ 1000) (h : Ints .i64 w a' N l) :
    Calls Try.prog 102 #[.slice a n cap, .slice a' N cap'] w fun e w' => e = .returned (.bool b) ∧ w = w' := by
  subst hb; exact sNodes a n cap a' N cap' l w hn h
end Go.Proofs.Ythonlfjjgmmnpab.V
