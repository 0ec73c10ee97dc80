/- Texts laid together: Smi, Thn, Like. -/
import Derived.Test.YtmobcobdpemlnaaQa6
import Derived.Test.YtmobcobdpemlnaaQa2
import Derived.Test.YtmobcobdpemlnaaQa18
import Derived.IntWalk
import Derived.Test.YtmobcobdpemlnaaRows
import Derived.Test.YtmobcobdpemlnaaQa1
import Derived.WalkKit
import Derived.ProofKit
import Derived.WalkSmall
import Derived.Deep.QuietTactic
import Derived.BigQuiet
import Derived.BigRegion
import Derived.Deep.Draws
import Derived.Lib.Hide
import Derived.OpenShut
import Derived.Deep.OwnRows
set_option linter.unusedSimpArgs false
set_option linter.unusedVariables false
set_option linter.unusedSectionVars false
namespace Go.Proofs.Ytmobcobdpemlnaa
namespace M
theorem sumY_bd {f : Nat → Int} : ∀ k, (∀ i, i < k → -1000000 ≤ f i ∧ f i ≤ 1000000) → -(1000000 * (k : Int)) ≤ sumY k f ∧ sumY k f ≤ 1000000 * (k : Int)
  | 0, _ => by simp [sumY]
  | k + 1, h => by
    have h1 := sumY_bd k (fun i hi => h i (by omega))
    have h2 := h k (by omega)
    unfold sumY
    omega
theorem sumI_bd {l : List Int} {n : Nat} (h : finL n l = true) (hn : n ≤ 10) : -10000000 ≤ sumI l ∧ sumI l ≤ 10000000 := by
  obtain ⟨h1, h2⟩ := finL_t h
  rw [sumI_z, h1]
  have := sumY_bd (f := fun i => l.getD i 0) n h2
  omega
theorem dual_fin {R : List (List Int)} {u v : List Int} (h : dualB R u v = true) : finL R.length u = true ∧ finL R.length v = true ∧ R.length ≤ 10 := by
  unfold dualB at h
  simp only [Bool.and_eq_true] at h
  exact ⟨h.1.1.2, h.1.2, (sq_is h.1.1.1).1⟩
theorem dual_all {R : List (List Int)} {u v : List Int} (h : dualRes R = (u, v, 0)) : dualB R u v = true ∧ sumI u + sumI v = (perm R).1 ∧ sqB R = true ∧ finL R.length u = true ∧ finL R.length v = true ∧ R.length ≤ 10 := by
  obtain ⟨h1, h2, -, -⟩ := dual_told h
  have h3 := dual_fin h1
  unfold dualB at h1
  have h4 := h1
  simp only [Bool.and_eq_true] at h4
  exact ⟨h1, h2, h4.1.1.1, h3⟩
theorem permRes_two {R : List (List Int)} (h : sqB R = true) : permRes R = ((perm R).1, 0) ∨ permRes R = (0, 3) := by
  unfold permRes chk
  rw [if_pos h]
  split
  · exact .inl rfl
  · exact .inr rfl
end M
namespace V
set_option maxRecDepth 100000
open Go.RowKit
set_option maxRecDepth 100000 in
set_option maxHeartbeats 1000000 in
theorem sumInts (a : Option Addr) (n cap : Nat) (l : List Int) (w : World) (h : Ints .i64 w a n l) (hf : M.finL n l = true) (hn : n ≤ 10) :
    Calls Try.prog 20 #[.slice a n cap] w fun e w' => e = .returned (.int .i64 (M.sumI l)) ∧ Below w.heap.size w w' := by
  have HI := Lib.hid h
  have HE : Hid (M.sumI l = M.sumY n fun i => l.getD i 0) := by show _ = _; rw [M.sumI_z, h.1]
  have HF : Hid (∀ i, i < n → -1000000 ≤ l.getD i 0 ∧ l.getD i 0 ≤ 1000000) := (M.finL_t hf).2
  have HY : Hid (∀ k, k ≤ n → -10000000 ≤ M.sumY k (fun i => l.getD i 0) ∧ M.sumY k (fun i => l.getD i 0) ≤ 10000000) := fun k hk => by
    have := M.sumY_bd (f := fun i => l.getD i 0) k (fun i hi => (M.finL_t hf).2 i (by omega))
    omega
  clear h hf
  go_enter Try.func20, Try.ntmps20
  go_wp2
  go_loopw [3, 4] (fun sv kv wr => ∃ (k : Nat) (y : Int), k ≤ n ∧ kv = .int .i64 k ∧ sv = .int .i64 y ∧ Hid (y = M.sumY k fun i => l.getD i 0) ∧ wr = w) (fun _ kv _ => n - (intOf kv).toNat)
  case atStart => exact ⟨0, 0, Nat.zero_le _, rfl, rfl, rfl, rfl⟩
  case round =>
    obtain ⟨k, y, hk, rfl, rfl, HS, rfl⟩ := hrel
    by_cases hkl : k < n
    · have hki : (k : Int) < (n : Int) := by omega
      obtain ⟨b, o, x, rfl, -, hx, hc⟩ := HI.out.at k hkl
      have hx1 := HF.out k hkl
      rw [← hx] at hx1
      have hy1 := HY.out k hk
      rw [← HS.out] at hy1
      have HN : Hid (y + x = M.sumY (k + 1) fun i => l.getD i 0) := by show _ = _; unfold M.sumY; rw [← HS.out, hx]
      clear hx
      go_wp2
      go_roundw
      case rel => exact ⟨k + 1, y + x, by omega, by go_num, by first | rfl | trivial, HN, by first | rfl | trivial⟩
      case measure => simp [intOf]; omega
    · obtain rfl : k = n := by omega
      have HZ : Hid (y = M.sumI l) := by show _ = _; rw [HE.out, HS.out]
      go_wp2
      go_ret
      exact ⟨by rw [HZ.out]; rfl, Below.refl _ _⟩
end V
end Go.Proofs.Ytmobcobdpemlnaa

namespace Go.Proofs.Ytmobcobdpemlnaa.V
open Go.RowKit
theorem thn {a b c : World} (h1 : Below a.heap.size a b) (h2 : Below b.heap.size b c) : Below a.heap.size a c := h1.trans (h2.mono h1.size)
end Go.Proofs.Ytmobcobdpemlnaa.V

namespace Go.Proofs.Ytmobcobdpemlnaa.V
open Go.RowKit

set_option maxRecDepth 100000 in
set_option maxHeartbeats 400000 in
theorem likeInts (a : Option Addr) (n cap : Nat) (l : List Int) (a' : Option Addr) (n' cap' : Nat) (l' : List Int) (w : World) (h : Ints .i64 w a n l) (h' : Ints .i64 w a' n' l') (heq : l = l') :
    Calls Try.prog 17 #[.slice a n cap, .slice a' n' cap'] w fun e w' => e = .returned (.bool true) ∧ ∃ q, w' = w.drewN q := by
  subst heq
  obtain ⟨hl, hm, hr⟩ := h
  obtain ⟨hl', hm', hr'⟩ := h'
  obtain rfl : n = n' := by omega
  unfold maxLen at hm
  clear hm'
  have HL := Lib.hid hl
  clear hl hl'
  go_enter Try.func17, Try.ntmps17
  go_wp2
  go_loopw [5] (fun i wr => ∃ k : Nat, k ≤ n ∧ i = .int .i64 k ∧ ∃ q, wr = w.drewN q) (fun i _ => n - (intOf i).toNat)
  case atStart => exact ⟨0, Nat.zero_le _, rfl, 0, rfl⟩
  case round =>
    obtain ⟨k, hk, rfl, q, rfl⟩ := hrel
    by_cases hlt : k < n
    · rcases hr with h0 | ⟨b, off, rfl, hbl, hc⟩
      · omega
      rcases hr' with h0 | ⟨b', off', rfl, hbl', hc'⟩
      · omega
      have hck := hc k hlt
      have hck' := hc' k hlt
      obtain ⟨x, hx⟩ : ∃ x, x = l.getD k 0 := ⟨_, rfl⟩
      rw [← hx] at hck hck'
      clear hc hx hc'
      have hki : (k : Int) < (n : Int) := by omega
      go_wp2
      go_quiet (fail)
      go_wp2
      go_roundw
      case rel => exact ⟨k + 1, by omega, by go_num, _, rfl⟩
      case measure => simp [intOf]; omega
    · have hkn : k = n := by omega
      subst hkn
      clear hr hr'
      go_wp2
      go_ret
      exact ⟨rfl, q, rfl⟩

theorem likeV (a : Option Addr) (n cap : Nat) (l : List Int) (a' : Option Addr) (n' cap' : Nat) (w : World) (h : Ints .i64 w a n l) (h' : Ints .i64 w a' n' l) :
    Calls Try.prog 17 #[.slice a n cap, .slice a' n' cap'] w fun e w' => e = .returned (.bool true) ∧ Below w.heap.size w w' := by
  refine (likeInts _ _ _ _ _ _ _ _ _ h h' rfl).mono ?_
  rintro e w' ⟨rfl, q, rfl⟩
  exact ⟨rfl, b_draws _ _⟩
set_option maxRecDepth 100000 in
set_option maxHeartbeats 400000 in
theorem big (a : Option Addr) (n cap : Nat) (w : World) (h : n ≤ maxLen) :
    Calls Try.prog 11 #[.slice a n cap] w fun e w' => e = .returned (.bool (decide (4096 < n))) ∧ w = w' := by
  unfold maxLen at h
  go_enter Try.func11, Try.ntmps11
  go_wp2
  go_ret
  exact ⟨retB (decide_eq_decide.2 (by omega)), rfl⟩
end Go.Proofs.Ytmobcobdpemlnaa.V
