/- Texts laid together: Has. -/
import Derived.Test.YtobdgboejbbfiaaQa36
set_option linter.unusedSimpArgs false
set_option linter.unusedVariables false
set_option linter.unusedSectionVars false
namespace Go.Proofs.Ytobdgboejbbfiaa
namespace V
set_option maxRecDepth 100000
open Go.RowKit
set_option maxRecDepth 100000 in
set_option maxHeartbeats 400000 in
theorem hasInt (a : Option Addr) (n cap : Nat) (l : List Int) (x : Int) (w : World) (h : Ints .i64 w a n l) (hx : x ∈ l) :
    Calls Try.prog 29 #[.slice a n cap, .int .i64 x] w fun e w' => e = .returned (.bool true) ∧ w = w' := by
  have HI := Lib.hid h
  have hm := h.2.1
  unfold maxLen at hm
  obtain ⟨p, hp, hpx⟩ := List.getElem_of_mem hx
  have hpn : p < n := by have := h.1; omega
  have HP : Hid (l.getD p 0 = x) := by show _ = _; rw [List.getD_eq_getElem?_getD, List.getElem?_eq_getElem hp, Option.getD_some]; exact hpx
  clear h hx hpx hp
  go_enter Try.func29, Try.ntmps29
  go_wp2
  go_loop [5] (fun i => ∃ k : Nat, k ≤ p ∧ i = .int .i64 k) (fun i => n - (intOf i).toNat)
  case atStart => exact ⟨0, Nat.zero_le _, rfl⟩
  case round =>
    obtain ⟨k, hk, rfl⟩ := hrel
    obtain ⟨b, off, y, rfl, -, hy, hc⟩ := HI.out.at k (by omega)
    have hki : (k : Int) < (n : Int) := by omega
    have HY := Lib.hid hy
    clear hy
    by_cases e : y = x
    · subst e
      go_wp2
      go_ret
      exact ⟨rfl, rfl⟩
    · have hne : (y == x) = false := by simpa using e
      have hkp : k < p := by
        rcases Nat.lt_or_ge k p with q | q
        · exact q
        · obtain rfl : k = p := by omega
          exact absurd (HY.out.trans HP.out) e
      go_wp2
      go_round
      case rel => exact ⟨k + 1, by omega, by go_num⟩
      case measure => simp [intOf]; omega
end V
end Go.Proofs.Ytobdgboejbbfiaa
