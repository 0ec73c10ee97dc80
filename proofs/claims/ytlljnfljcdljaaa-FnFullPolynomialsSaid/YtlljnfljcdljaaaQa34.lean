/- Texts laid together: Pdb. -/
import Derived.Test.YtlljnfljcdljaaaQa33
set_option linter.unusedSimpArgs false
set_option linter.unusedVariables false
set_option linter.unusedSectionVars false
namespace Go.Proofs.Ytlljnfljcdljaaa
namespace M
theorem full_law {c f : List Int} (h : fullRes c = (f, 0)) : termRes c = (iL (tL c), 0) ∧ sameRes c f = (true, 0) ∧ fullRes f = (f, 0) ∧ f.length = c.length ∧ (∀ i, i < c.length → c.getD i 0 ≤ f.getD i 0) ∧ (∀ j, j < (tL c).length → (tL c).getD j 0 < c.length ∧ f.getD ((tL c).getD j 0) 0 = c.getD ((tL c).getD j 0) 0) ∧ (tL c).length ≤ 12 := by
  have hc : isPoly c = true := by
    cases e : isPoly c with
    | true => rfl
    | false => unfold fullRes at h; rw [e] at h; simp at h
  have hf : f = fullL c := by
    unfold fullRes at h
    rw [if_pos hc] at h
    exact (congrArg Prod.fst h).symm
  subst hf
  exact ⟨by unfold termRes; rw [if_pos hc], full_same hc, full_again hc, full_len hc, fun i hi => full_up hc hi, fun j hj => ⟨tL_lt hj, full_at hc hj⟩, by have := (isPoly_t hc).2.1; have := tL_len c; omega⟩
end M
namespace V
set_option maxRecDepth 100000
open Go.RowKit
set_option maxRecDepth 100000 in
set_option maxHeartbeats 400000 in
theorem below9 (a : Option Addr) (n cap : Nat) (l : List Int) (a' : Option Addr) (n' cap' : Nat) (l' : List Int) (w : World) (h : Ints .i64 w a n l) (h' : Ints .i64 w a' n' l') (hlen : l'.length = l.length) (hle : ∀ i, i < l.length → l.getD i 0 ≤ l'.getD i 0) :
    Calls Try.prog 40 #[.slice a n cap, .slice a' n' cap'] w fun e w' => e = .returned (.bool true) ∧ Below w.heap.size w w' := by
  obtain rfl : n = n' := by have := h.1; have := h'.1; omega
  have HI := Lib.hid h
  have HI' := Lib.hid h'
  have hm := h.2.1
  unfold maxLen at hm
  have hll := h.1
  have HLE : Hid (∀ i, i < n → ¬ (l.getD i 0 > l'.getD i 0)) := fun i hi => by have := hle i (by omega); omega
  clear h h' hlen hle hll
  go_enter Try.func40, Try.ntmps40
  go_wp2
  go_loopw [5] (fun i wr => ∃ k : Nat, k ≤ n ∧ i = .int .i64 k ∧ ∃ q, wr = w.drewN q) (fun i _ => n - (intOf i).toNat)
  case atStart => exact ⟨0, Nat.zero_le _, rfl, 0, rfl⟩
  case round =>
    obtain ⟨k, hk, rfl, q, rfl⟩ := hrel
    by_cases hlt : k < n
    · obtain ⟨b, off, x, rfl, -, hx, hc⟩ := HI.out.at k hlt
      obtain ⟨b', off', y, rfl, -, hy, hc'⟩ := HI'.out.at k hlt
      have hxy := HLE.out k hlt
      rw [← hx, ← hy] at hxy
      clear hx hy
      have hki : (k : Int) < (n : Int) := by omega
      go_wp2
      go_quiet (fail)
      go_wp2
      go_roundw
      case rel => exact ⟨k + 1, by omega, by go_num, _, rfl⟩
      case measure => simp [intOf]; omega
    · have hkn : k = n := by omega
      subst hkn
      go_wp2
      go_ret
      exact ⟨rfl, b_draws _ _⟩
end V
end Go.Proofs.Ytlljnfljcdljaaa
