/- Texts laid together: Rcv. -/
import Derived.Test.YtjbffpmelglegaaQa56
import Derived.Test.YtjbffpmelglegaaQa49
import Derived.Test.YtjbffpmelglegaaQa3
set_option linter.unusedSimpArgs false
set_option linter.unusedVariables false
set_option linter.unusedSectionVars false
namespace Go.Proofs.Ytjbffpmelglegaa
namespace M
theorem tms_fin (N : Nat) (f : Nat → Int) (h : ∀ e, 0 ≤ f e) : tmsB (N : Int) ((List.range N).map f) = ((List.range N).map f).all isFin := by
  unfold tmsB
  rw [show (((List.range N).map f).length : Int) = (N : Int) by simp, decide_eq_true rfl, Bool.true_and, Bool.eq_iff_iff, List.all_eq_true, List.all_eq_true]
  constructor
  · intro q z hz
    have := q z hz
    unfold tmW inB at this
    unfold isFin
    simp only [Bool.and_eq_true, decide_eq_true_eq] at this ⊢
    omega
  · intro q z hz
    have := q z hz
    obtain ⟨e, -, rfl⟩ := List.mem_map.1 hz
    have h0 := h e
    unfold isFin at this
    unfold tmW inB
    simp only [Bool.and_eq_true, decide_eq_true_eq] at this ⊢
    omega
/-- A graph that is valid has no more than ten events, so a list of starts needs no bound of its own. -/
theorem st_code (x : Int) (l : List Pc) (b : Bool) (L : List Int) : inCode (lvCode x l) (b && (decide ((L.length : Int) = x) && (L.all tmW && decide (L.length ≤ 10)))) = inCode (lvCode x l) (b && tmsB x L) := by
  by_cases h : lvCode x l = 1
  · rw [h]
    unfold inCode
    rw [if_neg (fun q => q.1 rfl), if_neg (fun q => q.1 rfl)]
  · have hx : x ≤ 10 := by
      cases hg : isGr x l with
      | false => exact absurd (by unfold lvCode; rw [hg]; rfl) h
      | true =>
        unfold isGr inB at hg
        simp only [Bool.and_eq_true, decide_eq_true_eq] at hg
        exact hg.1.2
    congr 1
    congr 1
    unfold tmsB
    by_cases q : (L.length : Int) = x
    · rw [decide_eq_true q, decide_eq_true (show L.length ≤ 10 by omega)]; simp
    · rw [decide_eq_false q]; rfl
end M
namespace V
set_option maxRecDepth 100000
open Go.RowKit
set_option maxRecDepth 100000 in
set_option maxHeartbeats 400000 in
theorem sAllF13 (a : Option Addr) (n cap : Nat) (l : List Int) (w : World) (h : Ints .i64 w a n l) :
    Calls Try.prog 107 #[.slice a n cap, .bool true] w fun e w' => e = .returned (.bool (l.all M.isFin)) ∧ w = w' := by
  obtain ⟨hl, hm, hr⟩ := h
  unfold maxLen at hm
  have HL := Lib.hid hl
  clear hl
  go_enter Try.func107, Try.ntmps107
  go_wp2
  go_loop [5] (fun i => ∃ k : Nat, k ≤ n ∧ i = .int .i64 k ∧ Hid ((l.take k).all M.isFin = true)) (fun i => n - (intOf i).toNat)
  case atStart => exact ⟨0, Nat.zero_le _, rfl, rfl⟩
  case round =>
    obtain ⟨k, hk, rfl, HA⟩ := hrel
    by_cases hlt : k < n
    · rcases hr with h0 | ⟨b, off, rfl, hbl, hc⟩
      · omega
      · have hck := hc k hlt
        have hsn := M.take_snoc l k (by have := HL.out; omega)
        obtain ⟨x, hx⟩ : ∃ x, x = l.getD k 0 := ⟨_, rfl⟩
        rw [← hx] at hck hsn
        have HX := Lib.hid hx
        have HS := Lib.hid hsn
        clear hc hx hsn
        by_cases hb : x = -1000000000000000
        · have HF : Hid (l.all M.isFin = false) := M.all_false _ l k (by have := HL.out; omega) (by rw [← HX.out, hb]; rfl)
          have hv : M.isVal x = true := by rw [hb]; exact M.bot_val
          subst hb
          go_wp2_with (first | (go_at_call 142; refine (sIsValue _ _).mono ?_; rintro e w' ⟨rfl, rfl⟩))
          go_ret
          exact ⟨retB (by rw [HF.out]), rfl⟩
        · have hb2 : (x == -1000000000000000) = false := by simpa using hb
          have hvf : M.isVal x = M.isFin x := by unfold M.isVal; rw [decide_eq_false hb, Bool.false_or]
          by_cases hv : M.isVal x = true
          · have HA2 : Hid ((l.take (k + 1)).all M.isFin = true) := by show _ = _; rw [HS.out, M.all_snoc, HA.out, ← hvf, hv]; rfl
            clear hvf
            go_wp2_with (first | (go_at_call 142; refine (sIsValue _ _).mono ?_; rintro e w' ⟨rfl, rfl⟩))
            go_round
            case rel => exact ⟨k + 1, by omega, by go_num, HA2⟩
            case measure => simp [intOf]; omega
          · simp only [Bool.not_eq_true] at hv
            have HF : Hid (l.all M.isFin = false) := M.all_false _ l k (by have := HL.out; omega) (by rw [← HX.out, ← hvf, hv])
            clear hvf
            go_wp2_with (first | (go_at_call 142; refine (sIsValue _ _).mono ?_; rintro e w' ⟨rfl, rfl⟩))
            go_ret
            exact ⟨retB (by rw [HF.out]), rfl⟩
    · have hkn : k = n := by omega
      subst hkn
      have HT : Hid (l.take k = l) := M.take_all l k (by have := HL.out; omega)
      clear hr
      go_wp2
      go_ret
      exact ⟨retB (by rw [← HT.out, HA.out]), rfl⟩
set_option maxRecDepth 100000 in
set_option maxHeartbeats 400000 in
theorem sWithinT (a' : Option Addr) (N cap' : Nat) (l : List Int) (w : World) (h : Ints .i64 w a' N l) :
    Calls Try.prog 106 #[.slice a' N cap', .int .i64 10, .int .i64 0, .int .i64 1000000] w fun e w' => e = .returned (.bool (l.all M.tmW && decide (N ≤ 10))) ∧ w = w' := by
  obtain ⟨hl, hm, hr⟩ := h
  unfold maxLen at hm
  have HL := Lib.hid hl
  clear hl
  go_enter Try.func106, Try.ntmps106
  go_wp2
  go_loop [9] (fun i => ∃ k : Nat, k ≤ N ∧ i = .int .i64 k ∧ Hid ((l.take k).all M.tmW = true)) (fun i => N - (intOf i).toNat)
  case atStart => exact ⟨0, Nat.zero_le _, rfl, rfl⟩
  case round =>
    obtain ⟨k, hk, rfl, HA⟩ := hrel
    by_cases hlt : k < N
    · rcases hr with h0 | ⟨b, off, rfl, hbl, hc⟩
      · omega
      · have hck := hc k hlt
        have hsn := M.take_snoc l k (by have := HL.out; omega)
        obtain ⟨x, hx⟩ : ∃ x, x = l.getD k 0 := ⟨_, rfl⟩
        rw [← hx] at hck hsn
        have HX := Lib.hid hx
        have HS := Lib.hid hsn
        clear hc hx hsn
        obtain ⟨q, hq⟩ : ∃ q, q = M.tmW x := ⟨_, rfl⟩
        have HQ : Hid ((decide (0 ≤ x) && decide (x ≤ (1000000 : Int))) = q) := by
          show _ = _; rw [hq]; rfl
        have HC : ∀ w : World, Calls Try.prog 68 #[.int .i64 x, .int .i64 0, .int .i64 1000000] w fun e w' => e = .returned (.bool q) ∧ w = w' := by
          intro w
          have := sIn x 0 1000000 w
          rw [HQ.out] at this
          exact this
        cases q with
        | true =>
          have HA2 : Hid ((l.take (k + 1)).all M.tmW = true) := by show _ = _; rw [HS.out, M.all_snoc, HA.out, ← hq]; rfl
          clear hq
          go_wp2_with (go_at_call 68; refine (HC _).mono ?_; rintro e w' ⟨rfl, rfl⟩)
          go_round
          case rel => exact ⟨k + 1, by omega, by go_num, HA2⟩
          case measure => simp [intOf]; omega
        | false =>
          have HF : Hid (l.all M.tmW = false) := M.all_false _ l k (by have := HL.out; omega) (by rw [← HX.out]; exact hq.symm)
          clear hq
          go_wp2_with (go_at_call 68; refine (HC _).mono ?_; rintro e w' ⟨rfl, rfl⟩)
          go_ret
          exact ⟨retB (by rw [HF.out]; rfl), rfl⟩
    · have hkn : k = N := by omega
      subst hkn
      have HT : Hid (l.take k = l) := M.take_all l k (by have := HL.out; omega)
      clear hr
      go_wp2
      go_ret
      exact ⟨retB (by have h2 := HA.out; rw [HT.out] at h2; rw [h2, Bool.true_and]; rw [Bool.eq_iff_iff]; simp; omega), rfl⟩
end V
end Go.Proofs.Ytjbffpmelglegaa
