/- Texts laid together: Rcx. -/
import Derived.Test.YtphobmddkphofaaQa38
import Derived.BigQuiet
set_option linter.unusedSimpArgs false
set_option linter.unusedVariables false
set_option linter.unusedSectionVars false
namespace Go.Proofs.Ytphobmddkphofaa
namespace V
set_option maxRecDepth 100000
open Go.RowKit
set_option maxRecDepth 100000 in
set_option maxHeartbeats 1000000 in
theorem equalL (a : Option Addr) (n cap : Nat) (l : List Int) (a' : Option Addr) (n' cap' : Nat) (l' : List Int) (w : World) (h : Ints .i64 w a n l) (h' : Ints .i64 w a' n' l') :
    Calls Try.prog 109 #[.slice a n cap, .slice a' n' cap'] w fun e w' => e = .returned (.bool (decide (l = l'))) ∧ Below w.heap.size w w' := by
  have HI := Lib.hid h
  have HI' := Lib.hid h'
  have HL : Hid (l.length = n) := h.1
  have HL' : Hid (l'.length = n') := h'.1
  have hm := h.2.1
  have hm' := h'.2.1
  unfold maxLen at hm hm'
  clear h h'
  by_cases hn : n = n'
  · have hnn : ((n : Int) != (n' : Int)) = false := by simp [hn]
    have HN := Lib.hid hn
    clear hn
    go_enter Try.func109, Try.ntmps109
    go_wp2
    go_loopw [5, 13] (fun _ iv wr => ∃ k : Nat, k ≤ n ∧ iv = .int .i64 k ∧ Hid (∀ i, i < k → l.getD i 0 = l'.getD i 0) ∧ Hid (Below w.heap.size w wr)) (fun _ iv _ => n - (intOf iv).toNat)
    case atStart => exact ⟨0, Nat.zero_le _, rfl, fun i hi => absurd hi (Nat.not_lt_zero i), Below.refl _ _⟩
    case round =>
      obtain ⟨k, hk, rfl, HA, HB⟩ := hrel
      obtain ⟨wo, rfl⟩ : ∃ x, x = wr := ⟨_, rfl⟩
      by_cases hkn : k < n
      · have hki : (k : Int) < (n : Int) := by omega
        have hki' : (k : Int) < (n' : Int) := by have q := HN.out; omega
        obtain ⟨b, off, y, rfl, -, hy, c0⟩ := (HI.out.below HB.out).at k hkn
        obtain ⟨b', off', y', rfl, -, hy', c0'⟩ := (HI'.out.below HB.out).at k (by have q := HN.out; omega)
        by_cases hq : y = y'
        · have hqb : ((y : Int) != y') = false := by simp [hq]
          have HE : Hid (l.getD k 0 = l'.getD k 0) := by show _ = _; rw [← hy, ← hy', hq]
          clear hq hy hy'
          go_wp2
          go_quiet (fail)
          go_wp2
          go_roundw
          case rel => exact ⟨k + 1, by omega, by go_num, fun i hi => by rcases Nat.lt_or_ge i k with q | q; exact HA.out i q; rw [show i = k by omega]; exact HE.out, HB.out.trans ((b_draws _ _).mono HB.out.size)⟩
          case measure => simp [intOf]; omega
        · have hqb : ((y : Int) != y') = true := by simpa using hq
          have HE : Hid (decide (l = l') = false) := decide_eq_false fun e => hq (by rw [hy, hy', e])
          clear hq hy hy'
          go_wp2
          go_quiet (fail)
          go_wp2
          go_ret
          exact ⟨by rw [HE.out]; rfl, HB.out.trans ((b_draws _ _).mono HB.out.size)⟩
      · obtain rfl : k = n := by omega
        have HE : Hid (decide (l = l') = true) := decide_eq_true (by
          apply List.ext_getElem
          · rw [HL.out, HL'.out, HN.out]
          · intro i h1 h2
            have := HA.out i (by rw [← HL.out]; exact h1)
            rw [List.getD_eq_getElem?_getD, List.getD_eq_getElem?_getD, List.getElem?_eq_getElem h1, List.getElem?_eq_getElem h2] at this
            exact this)
        go_wp2
        go_ret
        exact ⟨by rw [HE.out]; rfl, HB.out⟩
  · have hnn : ((n : Int) != (n' : Int)) = true := by simp; omega
    have HE : Hid (decide (l = l') = false) := decide_eq_false fun e => hn (by rw [← HL.out, ← HL'.out, e])
    clear hn
    go_enter Try.func109, Try.ntmps109
    go_wp2
    go_ret
    exact ⟨by rw [HE.out]; rfl, Below.refl _ _⟩
set_option maxRecDepth 100000 in
set_option maxHeartbeats 1000000 in
theorem equalT (a : Option Addr) (n cap : Nat) (R : List (List Int)) (a' : Option Addr) (n' cap' : Nat) (R' : List (List Int)) (w : World) (h : Mat w a n R) (h' : Mat w a' n' R') :
    Calls Try.prog 108 #[.slice a n cap, .slice a' n' cap', .func (.func 109) #[] #[]] w fun e w' => e = .returned (.bool (decide (R = R'))) ∧ Below w.heap.size w w' := by
  have HI := Lib.hid h
  have HI' := Lib.hid h'
  have HL : Hid (R.length = n) := h.1
  have HL' : Hid (R'.length = n') := h'.1
  have hm := h.2.1
  have hm' := h'.2.1
  unfold maxLen at hm hm'
  clear h h'
  by_cases hn : n = n'
  · have hnn : ((n : Int) != (n' : Int)) = false := by simp [hn]
    have HN := Lib.hid hn
    clear hn
    go_enter Try.func108, Try.ntmps108
    go_wp2
    go_loopw [7, 8, 9, 17] (fun _ _ _ iv wr => ∃ k : Nat, k ≤ n ∧ iv = .int .i64 k ∧ Hid (∀ i, i < k → R.getD i [] = R'.getD i []) ∧ Hid (Below w.heap.size w wr)) (fun _ _ _ iv _ => n - (intOf iv).toNat)
    case atStart => exact ⟨0, Nat.zero_le _, rfl, fun i hi => absurd hi (Nat.not_lt_zero i), Below.refl _ _⟩
    case round =>
      obtain ⟨k, hk, rfl, HA, HB⟩ := hrel
      obtain ⟨wo, rfl⟩ : ∃ x, x = wr := ⟨_, rfl⟩
      by_cases hkn : k < n
      · have hki : (k : Int) < (n : Int) := by omega
        have hki' : (k : Int) < (n' : Int) := by have q := HN.out; omega
        obtain ⟨b, off, ra, rc, L, y, rfl, -, hy, c0, hI⟩ := (HI.out.below HB.out).at k hkn
        obtain ⟨b', off', ra', rc', L', y', rfl, -, hy', c0', hI'⟩ := (HI'.out.below HB.out).at k (by have q := HN.out; omega)
        obtain ⟨v, hv⟩ : ∃ v, v = decide (y = y') := ⟨_, rfl⟩
        have HC : Hid (Calls Try.prog 109 #[.slice ra L rc, .slice ra' L' rc'] wo fun e w' => e = .returned (.bool v) ∧ Below wo.heap.size wo w') := by rw [hv]; exact equalL ra L rc y ra' L' rc' y' wo hI hI'
        clear hI hI'
        cases v with
        | true =>
          have HE : Hid (R.getD k [] = R'.getD k []) := by show _ = _; rw [← hy, ← hy']; exact of_decide_eq_true hv.symm
          clear hv hy hy'
          go_wp2_with fail
          refine HC.out.mono ?_
          rintro e w2 ⟨rfl, hb2⟩
          have HB2 := Lib.hid (HB.out.trans (hb2.mono HB.out.size))
          clear hb2 c0 c0'
          go_wp2
          go_roundw
          case rel => exact ⟨k + 1, by omega, by go_num, fun i hi => by rcases Nat.lt_or_ge i k with q | q; exact HA.out i q; rw [show i = k by omega]; exact HE.out, HB2⟩
          case measure => simp [intOf]; omega
        | false =>
          have HE : Hid (decide (R = R') = false) := decide_eq_false fun e => (of_decide_eq_false hv.symm) (by rw [hy, hy', e])
          clear hv hy hy'
          go_wp2_with fail
          refine HC.out.mono ?_
          rintro e w2 ⟨rfl, hb2⟩
          have HB2 := Lib.hid (HB.out.trans (hb2.mono HB.out.size))
          clear hb2 c0 c0'
          go_wp2
          go_ret
          exact ⟨by rw [HE.out]; rfl, HB2.out⟩
      · obtain rfl : k = n := by omega
        have HE : Hid (decide (R = R') = true) := decide_eq_true (by
          apply List.ext_getElem
          · rw [HL.out, HL'.out, HN.out]
          · intro i h1 h2
            have := HA.out i (by rw [← HL.out]; exact h1)
            rw [List.getD_eq_getElem?_getD, List.getD_eq_getElem?_getD, List.getElem?_eq_getElem h1, List.getElem?_eq_getElem h2] at this
            exact this)
        go_wp2
        go_ret
        exact ⟨by rw [HE.out]; rfl, HB.out⟩
  · have hnn : ((n : Int) != (n' : Int)) = true := by simp; omega
    have HE : Hid (decide (R = R') = false) := decide_eq_false fun e => hn (by rw [← HL.out, ← HL'.out, e])
    clear hn
    go_enter Try.func108, Try.ntmps108
    go_wp2
    go_ret
    exact ⟨by rw [HE.out]; rfl, Below.refl _ _⟩
end V
end Go.Proofs.Ytphobmddkphofaa
