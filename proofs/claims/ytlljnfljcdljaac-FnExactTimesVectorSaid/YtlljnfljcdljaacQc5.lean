/- Texts laid together: SBot, Vec, IsMat. -/
import Derived.Test.YtlljnfljcdljaacRows
import Derived.Test.YtlljnfljcdljaacQc1
import Derived.Test.YtlljnfljcdljaacQc2
import Derived.Test.YtlljnfljcdljaacQc3
import Derived.WalkKit
import Derived.ProofKit
import Derived.WalkSmall
import Derived.Deep.QuietTactic
import Derived.BigQuiet
import Derived.BigRegion
import Derived.Deep.Draws
import Derived.Lib.Hide
import Derived.OpenShut
import Derived.Deep.OwnRows
import Derived.Test.YtlljnfljcdljaacQc4
set_option linter.unusedSimpArgs false
set_option linter.unusedVariables false
set_option linter.unusedSectionVars false
namespace Go.Proofs.Ytlljnfljcdljaac.V
open Go.RowKit

/-- A new matrix r with n rows. -/
def MPost (n : Nat) (r : List (List Int)) (w : World) (e : Ending) (w' : World) : Prop :=
  ∃ a cap, e = .returned (.slice a n cap) ∧ OwnM w' w.heap.size (.slice a n cap) r ∧ Below w.heap.size w w'
/-- A new matrix and a code. -/
def MRes (r : List (List Int) × Int) (w : World) (e : Ending) (w' : World) : Prop :=
  ∃ a n cap, e = .returned (.tuple #[.slice a n cap, .int .i64 r.2]) ∧ OwnM w' w.heap.size (.slice a n cap) r.1 ∧ Below w.heap.size w w'

theorem MRes.nil {r : List (List Int) × Int} {c : Int} {w w' : World} (hr : r = ([], c)) (hb : Below w.heap.size w w') : MRes r w (.returned (.tuple #[.slice none 0 0, .int .i64 c])) w' := by
  subst hr
  exact ⟨none, 0, 0, rfl, ownM_nil _ _, hb⟩

set_option maxRecDepth 100000 in
set_option maxHeartbeats 1000000 in
theorem sBottom (m n : Nat) (w : World) (hm : m ≤ 100) (hn : n ≤ 100) :
    Calls Try.prog 28 #[.int .i64 m, .int .i64 n] w (MPost m (M.botM m n) w) := by
  have hO0 : Hid (OwnM (w.alloc (.cells #[] 29)) w.heap.size (.slice (some ⟨w.heap.size, 0, none⟩) 0 0) []) := ownM_lit0 w _ (Nat.le_refl _)
  go_enter Try.func28, Try.ntmps28
  go_wp2
  go_loopw [5, 6] (fun out i wr => ∃ k : Nat, k ≤ m ∧ i = .int .i64 k ∧ ∃ b c, out = .slice b k c ∧ OwnM wr w.heap.size (.slice b k c) (M.botM k n) ∧ Below w.heap.size w wr) (fun _ i _ => m - (intOf i).toNat)
  case atStart => exact ⟨0, Nat.zero_le _, rfl, _, _, rfl, hO0.out, b_alloc _ _⟩
  case round =>
    obtain ⟨k, hk, rfl, b, c, rfl, hO, hb⟩ := hrel
    obtain ⟨wo, rfl⟩ : ∃ x, x = wr := ⟨_, rfl⟩
    have HO := Lib.hid hO
    have HB := Lib.hid hb
    clear hO hb hO0
    by_cases hlt : k < m
    · have hki : (k : Int) < (m : Int) := by omega
      have hr0 : Hid (Own (wo.alloc (.cells #[] 2)) wo.heap.size (.slice (some ⟨wo.heap.size, 0, none⟩) 0 0) []) := own_lit0 wo _ (Nat.le_refl _)
      go_wp2
      go_loopw [7, 8] (fun row j wi => ∃ t : Nat, t ≤ n ∧ j = .int .i64 t ∧ ∃ b c, row = .slice b t c ∧ Own wi wo.heap.size (.slice b t c) ((List.range t).map fun _ => -1000000000000000) ∧ Below wo.heap.size wo wi) (fun _ j _ => n - (intOf j).toNat)
      case atStart => exact ⟨0, Nat.zero_le _, rfl, _, _, rfl, hr0.out, b_alloc _ _⟩
      case round =>
        obtain ⟨t, ht, rfl, b1, c1, rfl, hO1, hb1⟩ := hrel
        have HO1 := Lib.hid hO1
        have HB1 := Lib.hid hb1
        clear hO1 hb1 hr0
        by_cases htn : t < n
        · have hti : (t : Int) < (n : Int) := by omega
          have hsz := HB1.out.size
          go_wp2_with (at_builtin; refine append1 _ rfl (.tmp 21) (.tmp 22) rfl wo.heap.size _ _ _ t HO1.out.len.symm rfl HO1.out rfl (by simp; omega) (by omega) ?_)
          intro b2 c2 w2 hO2 hb2 _
          have HO2 := Lib.hid hO2
          have HB2 := Lib.hid (HB1.out.trans hb2)
          clear hO2 hb2
          go_wp2
          go_roundw
          case rel => exact ⟨t + 1, by omega, by go_num, _, _, rfl, by rw [M.range_snoc]; exact HO2.out, HB2.out⟩
          case measure => simp [intOf]; omega
        · obtain rfl : t = n := by omega
          have hs1 := HB.out.size
          go_wp2_with (at_builtin; refine appendRow wo _ rfl (.tmp 24) (.tmp 26) rfl w.heap.size _ _ _ _ k HO.out.len.symm rfl HO.out HB1.out HO1.out rfl (by simp [M.botM]; omega) hs1 ?_)
          intro b2 c2 w2 hO2 hb2 _
          have HO2 : Hid (OwnM w2 w.heap.size (.slice b2 (k + 1) c2) (M.botM (k + 1) t)) := by
            have := hO2
            simp only [M.botM, M.mk_length] at this
            rw [← M.mk_snoc] at this
            exact this
          clear hO2
          have hO2 := True.intro
          have HB2 := Lib.hid (HB.out.trans ((HB1.out.mono hs1).trans hb2))
          clear hO2 hb2
          go_wp2
          go_roundw
          case rel => exact ⟨k + 1, by omega, by go_num, _, _, rfl, HO2.out, HB2.out⟩
          case measure => simp [intOf]; omega
    · obtain rfl : k = m := by omega
      go_wp2
      go_ret
      exact ⟨_, _, rfl, HO.out, HB.out⟩



end Go.Proofs.Ytlljnfljcdljaac.V

namespace Go.Proofs.Ytlljnfljcdljaac.V
open Go.RowKit

set_option maxRecDepth 100000 in
set_option maxHeartbeats 400000 in
theorem plus (a b : Int) (w : World) : Calls Try.prog 39 #[.int .i64 a, .int .i64 b] w fun e w' => e = .returned (.int .i64 (max a b)) ∧ w = w' := by
  go_enter Try.func39, Try.ntmps39
  go_wp2
  all_goals
    go_ret
    exact ⟨retI (by omega), rfl⟩

set_option maxRecDepth 100000 in
set_option maxHeartbeats 400000 in
theorem sAll (a : Option Addr) (n cap : Nat) (l : List Int) (w : World) (h : Ints .i64 w a n l) :
    Calls Try.prog 31 #[.slice a n cap, .bool false] w fun e w' => e = .returned (.bool (l.all M.isVal)) ∧ w = w' := by
  obtain ⟨hl, hm, hr⟩ := h
  unfold maxLen at hm
  have HL := Lib.hid hl
  clear hl
  go_enter Try.func31, Try.ntmps31
  go_wp2
  go_loop [5] (fun i => ∃ k : Nat, k ≤ n ∧ i = .int .i64 k ∧ Hid ((l.take k).all M.isVal = true)) (fun i => n - (intOf i).toNat)
  case atStart => exact ⟨0, Nat.zero_le _, rfl, rfl⟩
  case round =>
    obtain ⟨k, hk, rfl, HA⟩ := hrel
    by_cases hlt : k < n
    · rcases hr with h0 | ⟨b, off, rfl, hbl, hc⟩
      · omega
      · have hck := hc k hlt
        have hsn := M.take_snoc l k (by have := HL.out; omega)
        obtain ⟨x, hx⟩ : ∃ x, x = l.getD k 0 := ⟨_, rfl⟩
        rw [← hx] at hck hsn
        have HX := Lib.hid hx
        have HS := Lib.hid hsn
        clear hc hx hsn
        by_cases hv : M.isVal x = true
        · have HA2 : Hid ((l.take (k + 1)).all M.isVal = true) := by show _ = _; rw [HS.out, M.all_snoc, HA.out, hv]; rfl
          go_wp2_with (first | (go_at_call 36; refine (sIsValue _ _).mono ?_; rintro e w' ⟨rfl, rfl⟩))
          go_round
          case rel => exact ⟨k + 1, by omega, by go_num, HA2⟩
          case measure => simp [intOf]; omega
        · simp only [Bool.not_eq_true] at hv
          have HF : Hid (l.all M.isVal = false) := M.all_false _ l k (by have := HL.out; omega) (by rw [← HX.out]; exact hv)
          go_wp2_with (first | (go_at_call 36; refine (sIsValue _ _).mono ?_; rintro e w' ⟨rfl, rfl⟩))
          go_ret
          exact ⟨retB (by rw [HF.out]), rfl⟩
    · have hkn : k = n := by omega
      subst hkn
      have HT : Hid (l.take k = l) := M.take_all l k (by have := HL.out; omega)
      clear hr
      go_wp2
      go_ret
      exact ⟨retB (by rw [← HT.out, HA.out]), rfl⟩

set_option maxRecDepth 100000 in
set_option maxHeartbeats 400000 in
theorem isSize (n : Int) (w : World) : Calls Try.prog 29 #[.int .i64 n] w fun e w' => e = .returned (.bool (decide (1 ≤ n) && decide (n ≤ 10))) ∧ w = w' := by
  go_enter Try.func29, Try.ntmps29
  go_wp2
  all_goals
    go_ret
    refine ⟨retB ?_, rfl⟩
    grind

set_option maxRecDepth 100000 in
set_option maxHeartbeats 400000 in
theorem areValues (a : Option Addr) (n cap : Nat) (l : List Int) (w : World) (h : Ints .i64 w a n l) :
    Calls Try.prog 33 #[.slice a n cap] w fun e w' => e = .returned (.bool (l.all M.isVal)) ∧ w = w' := by
  obtain ⟨hl, hm, hr⟩ := h
  unfold maxLen at hm
  have HL := Lib.hid hl
  clear hl
  go_enter Try.func33, Try.ntmps33
  go_wp2
  go_loop [4, 7] (fun _ i => ∃ k : Nat, k ≤ n ∧ i = .int .i64 k ∧ Hid ((l.take k).all M.isVal = true)) (fun _ i => n - (intOf i).toNat)
  case atStart => exact ⟨0, Nat.zero_le _, rfl, rfl⟩
  case round =>
    obtain ⟨k, hk, rfl, HA⟩ := hrel
    by_cases hlt : k < n
    · rcases hr with h0 | ⟨b, off, rfl, hbl, hc⟩
      · omega
      · have hck := hc k hlt
        have hsn := M.take_snoc l k (by have := HL.out; omega)
        obtain ⟨x, hx⟩ : ∃ x, x = l.getD k 0 := ⟨_, rfl⟩
        rw [← hx] at hck hsn
        have HX := Lib.hid hx
        have HS := Lib.hid hsn
        clear hc hx hsn
        by_cases hv : M.isVal x = true
        · have HA2 : Hid ((l.take (k + 1)).all M.isVal = true) := by show _ = _; rw [HS.out, M.all_snoc, HA.out, hv]; rfl
          go_wp2_with (first | (go_at_call 37; refine (isValue _ _).mono ?_; rintro e w' ⟨rfl, rfl⟩))
          go_round
          case rel => exact ⟨k + 1, by omega, by go_num, HA2⟩
          case measure => simp [intOf]; omega
        · simp only [Bool.not_eq_true] at hv
          have HF : Hid (l.all M.isVal = false) := M.all_false _ l k (by have := HL.out; omega) (by rw [← HX.out]; exact hv)
          go_wp2_with (first | (go_at_call 37; refine (isValue _ _).mono ?_; rintro e w' ⟨rfl, rfl⟩))
          go_ret
          exact ⟨retB (by rw [HF.out]), rfl⟩
    · have hkn : k = n := by omega
      subst hkn
      have HT : Hid (l.take k = l) := M.take_all l k (by have := HL.out; omega)
      clear hr
      go_wp2
      go_ret
      exact ⟨retB (by rw [← HT.out, HA.out]), rfl⟩
set_option maxRecDepth 100000 in
set_option maxHeartbeats 400000 in
theorem isVector (a : Option Addr) (n cap : Nat) (l : List Int) (w : World) (h : Ints .i64 w a n l) :
    Calls Try.prog 25 #[.slice a n cap] w fun e w' => e = .returned (.bool (M.isVec l)) ∧ w = w' := by
  have hl := h.1
  have hm := h.2.1
  unfold maxLen at hm
  have HL := Lib.hid hl
  have HI := Lib.hid h
  clear hl h
  by_cases hz : 1 ≤ n ∧ n ≤ 10
  · have hd : (decide ((1 : Int) ≤ n) && decide ((n : Int) ≤ 10)) = true := by simp; omega
    have HV : Hid (M.isVec l = l.all M.isVal) := M.isVec_all (by have := HL.out; omega) (by have := HL.out; omega)
    go_enter Try.func25, Try.ntmps25
    go_wp2_with (first | (go_at_call 29; refine (isSize _ _).mono ?_; rintro e w' ⟨rfl, rfl⟩) | (go_at_call 33; refine (areValues _ _ _ l _ HI.out).mono ?_; rintro e w' ⟨rfl, rfl⟩))
    all_goals
      go_ret
      exact ⟨retB HV.out.symm, rfl⟩
  · have hd : (decide ((1 : Int) ≤ n) && decide ((n : Int) ≤ 10)) = false := by rw [Bool.and_eq_false_iff]; simp; omega
    go_enter Try.func25, Try.ntmps25
    go_wp2_with (first | (go_at_call 29; refine (isSize _ _).mono ?_; rintro e w' ⟨rfl, rfl⟩) | (go_at_call 33; refine (areValues _ _ _ l _ HI.out).mono ?_; rintro e w' ⟨rfl, rfl⟩))
    all_goals
      go_ret
      exact ⟨retB (M.isVec_f (by have := HL.out; omega)).symm, rfl⟩

set_option maxRecDepth 100000 in
set_option maxHeartbeats 400000 in
theorem sVector (a : Option Addr) (n cap : Nat) (l : List Int) (w : World) (h : Ints .i64 w a n l) :
    Calls Try.prog 23 #[.slice a n cap] w fun e w' => e = .returned (.bool (M.isVec l)) ∧ w = w' := by
  have hl := h.1
  have HH := Lib.hid h
  have hm := h.2.1
  unfold maxLen at hm
  clear h
  have HL := Lib.hid hl
  clear hl
  by_cases hz : 1 ≤ n ∧ n ≤ 10
  · have hd : (decide ((1 : Int) ≤ n) && decide ((n : Int) ≤ 10)) = true := by simp; omega
    obtain ⟨hz1, hz2⟩ := hz
    go_enter Try.func23, Try.ntmps23
    go_wp2_with (first | (go_at_call 30; refine (sIn _ _ _ _).mono ?_; rintro e w' ⟨rfl, rfl⟩) | (go_at_call 31; refine (sAll _ _ _ l _ HH.out).mono ?_; rintro e w' ⟨rfl, rfl⟩))
    all_goals
      go_ret
      exact ⟨retB (M.isVec_all (by have := HL.out; omega) (by have := HL.out; omega)).symm, rfl⟩
  · have hd : (decide ((1 : Int) ≤ n) && decide ((n : Int) ≤ 10)) = false := by rw [Bool.and_eq_false_iff]; simp; omega
    go_enter Try.func23, Try.ntmps23
    go_wp2_with (first | (go_at_call 30; refine (sIn _ _ _ _).mono ?_; rintro e w' ⟨rfl, rfl⟩) | (go_at_call 31; refine (sAll _ _ _ l _ HH.out).mono ?_; rintro e w' ⟨rfl, rfl⟩))
    all_goals
      go_ret
      exact ⟨retB (M.isVec_f (by have := HL.out; omega)).symm, rfl⟩
end Go.Proofs.Ytlljnfljcdljaac.V

namespace Go.Proofs.Ytlljnfljcdljaac.V
open Go.RowKit

set_option maxRecDepth 100000 in
set_option maxHeartbeats 400000 in
theorem isMatrix (a : Option Addr) (n cap : Nat) (R : List (List Int)) (w : World) (h : Mat w a n R) :
    Calls Try.prog 21 #[.slice a n cap] w fun e w' => e = .returned (.bool (M.isMat R)) ∧ w = w' := by
  have HM := Lib.hid h
  have HL := Lib.hid h.1
  have hm := h.2.1
  unfold maxLen at hm
  clear h
  by_cases hz : 1 ≤ n ∧ n ≤ 10
  · have hd : (decide ((1 : Int) ≤ n) && decide ((n : Int) ≤ 10)) = true := by simp; omega
    obtain ⟨hz1, hz2⟩ := hz
    obtain ⟨b, off, ra0, rc0, L0, l0, rfl, hbl, hll0, hc0, hI0⟩ := HM.out.at 0 (by omega)
    have HW : Hid (L0 = M.wid R) := by show _ = _; rw [← hI0.1, hll0]; rfl
    rw [Nat.add_zero] at hc0
    clear hll0 hI0
    go_enter Try.func21, Try.ntmps21
    go_wp2_with (first | (go_at_call 29; refine (isSize _ _).mono ?_; rintro e w' ⟨rfl, rfl⟩))
    go_loop [4, 11] (fun _ i => ∃ k : Nat, k ≤ n ∧ i = .int .i64 k ∧ Hid (∀ i, i < k → M.okR R (R.getD i []) = true)) (fun _ i => n - (intOf i).toNat)
    case atStart => exact ⟨0, Nat.zero_le _, rfl, (fun i hi => absurd hi (Nat.not_lt_zero i))⟩
    case round =>
      obtain ⟨k, hk, rfl, HA⟩ := hrel
      by_cases hlt : k < n
      · obtain ⟨b', off', ra, rc, L, l, hbb, -, hll, hc, hI⟩ := HM.out.at k hlt
        injection hbb with hbb
        injection hbb with e1 e2
        subst e1 e2
        have hlen : l.length = L := hI.1
        have HI := Lib.hid hI
        have HLL := Lib.hid hll
        have HN := Lib.hid hlen
        clear hI hll hlen
        by_cases hLL : L = L0
        · subst hLL
          by_cases hv : M.isVec l = true
          · have HV := Lib.hid hv
            go_wp2_with (first | (go_at_call 25; refine (isVector _ _ _ l _ HI.out).mono ?_; rintro e w' ⟨rfl, rfl⟩))
            go_round
            case rel =>
              refine ⟨k + 1, by omega, by go_num, fun i hi => ?_⟩
              by_cases e : i = k
              · subst e; rw [← HLL.out]; exact M.okR_y HV.out (by rw [HN.out, HW.out])
              · exact HA.out i (by omega)
            case measure => simp [intOf]; omega
          · simp only [Bool.not_eq_true] at hv
            have HV := Lib.hid hv
            go_wp2_with (first | (go_at_call 25; refine (isVector _ _ _ l _ HI.out).mono ?_; rintro e w' ⟨rfl, rfl⟩))
            go_ret
            exact ⟨retB (M.isMat_bad k (by have := HL.out; omega) (by rw [← HLL.out]; exact M.okR_v HV.out)).symm, rfl⟩
        · have HLL0 := Lib.hid hLL
          go_wp2
          go_ret
          exact ⟨retB (M.isMat_bad k (by have := HL.out; omega) (by rw [← HLL.out]; exact M.okR_n (by rw [HN.out, ← HW.out]; exact HLL0.out))).symm, rfl⟩
      · have hkn : k = n := by omega
        subst hkn
        go_wp2
        go_ret
        exact ⟨retB (M.isMat_good (by have := HL.out; omega) (by have := HL.out; omega) (by have := HL.out; rw [this]; exact HA.out)).symm, rfl⟩
  · have hd : (decide ((1 : Int) ≤ n) && decide ((n : Int) ≤ 10)) = false := by rw [Bool.and_eq_false_iff]; simp; omega
    go_enter Try.func21, Try.ntmps21
    go_wp2_with (first | (go_at_call 29; refine (isSize _ _).mono ?_; rintro e w' ⟨rfl, rfl⟩))
    go_ret
    exact ⟨retB (M.isMat_no (by have := HL.out; omega)).symm, rfl⟩

set_option maxRecDepth 100000 in
set_option maxHeartbeats 400000 in
theorem sIsMatrix (a : Option Addr) (n cap : Nat) (R : List (List Int)) (w : World) (h : Mat w a n R) :
    Calls Try.prog 19 #[.slice a n cap] w fun e w' => e = .returned (.bool (M.isMat R)) ∧ ∃ q, w' = w.drewN q := by
  have HM := Lib.hid h
  have HL := Lib.hid h.1
  have hm := h.2.1
  unfold maxLen at hm
  clear h
  by_cases hz : 1 ≤ n ∧ n ≤ 10
  · obtain ⟨hz1, hz2⟩ := hz
    obtain ⟨b, off, ra0, rc0, L0, l0, rfl, hbl, hll0, hc0, hI0⟩ := HM.out.at 0 (by omega)
    have HW : Hid (L0 = M.wid R) := by show _ = _; rw [← hI0.1, hll0]; rfl
    rw [Nat.add_zero] at hc0
    clear hll0 hI0
    go_enter Try.func19, Try.ntmps19
    go_wp2
    go_loopw [3] (fun i wr => ∃ k : Nat, k ≤ n ∧ i = .int .i64 k ∧ Hid (∀ i, i < k → M.okR R (R.getD i []) = true) ∧ ∃ q, wr = w.drewN q) (fun i _ => n - (intOf i).toNat)
    case atStart => exact ⟨0, Nat.zero_le _, rfl, (fun i hi => absurd hi (Nat.not_lt_zero i)), 0, rfl⟩
    case round =>
      obtain ⟨k, hk, rfl, HA, q, rfl⟩ := hrel
      by_cases hlt : k < n
      · obtain ⟨b', off', ra, rc, L, l, hbb, -, hll, hc, hI⟩ := HM.out.at k hlt
        injection hbb with hbb
        injection hbb with e1 e2
        subst e1 e2
        have hlen : l.length = L := hI.1
        have HI := Lib.hid hI
        have HLL := Lib.hid hll
        have HN := Lib.hid hlen
        have hki : (k : Int) < (n : Int) := by omega
        clear hI hll hlen
        by_cases hv : M.isVec l = true
        · have HV := Lib.hid hv
          have HC : ∀ w : World, Ints .i64 w ra L l → Calls Try.prog 23 #[.slice ra L rc] w fun e w' => e = .returned (.bool true) ∧ w = w' := by
            intro w hI
            refine (sVector _ _ _ l _ hI).mono ?_
            rintro e w' ⟨rfl, rfl⟩
            exact ⟨by rw [HV.out], rfl⟩
          clear hv
          by_cases hLL : L = L0
          · subst hLL
            go_wp2
            go_quiet ((go_at_call 23; exact q_more_s (HC _ HI.out)))
            go_wp2
            go_roundw
            case rel =>
              refine ⟨k + 1, by omega, by go_num, fun i hi => ?_, _, rfl⟩
              by_cases e : i = k
              · subst e; rw [← HLL.out]; exact M.okR_y HV.out (by rw [HN.out, HW.out])
              · exact HA.out i (by omega)
            case measure => simp [intOf]; omega
          · have HLL0 := Lib.hid hLL
            have hne : (L == L0) = false := by simpa using hLL
            have hne2 : (L != L0) = true := by simpa using hLL
            go_wp2
            go_quiet ((go_at_call 23; exact q_more_s (HC _ HI.out)))
            go_wp2
            go_ret
            exact ⟨retB (M.isMat_bad k (by have := HL.out; omega) (by rw [← HLL.out]; exact M.okR_n (by rw [HN.out, ← HW.out]; exact HLL0.out))).symm, _, World.drewN_drewN _ _ _⟩
        · simp only [Bool.not_eq_true] at hv
          have HV := Lib.hid hv
          have HC : ∀ w : World, Ints .i64 w ra L l → Calls Try.prog 23 #[.slice ra L rc] w fun e w' => e = .returned (.bool false) ∧ w = w' := by
            intro w hI
            refine (sVector _ _ _ l _ hI).mono ?_
            rintro e w' ⟨rfl, rfl⟩
            exact ⟨by rw [HV.out], rfl⟩
          clear hv
          go_wp2
          go_quiet ((go_at_call 23; exact q_more_s (HC _ HI.out)))
          go_wp2
          go_ret
          exact ⟨retB (M.isMat_bad k (by have := HL.out; omega) (by rw [← HLL.out]; exact M.okR_v HV.out)).symm, _, World.drewN_drewN _ _ _⟩
      · have hkn : k = n := by omega
        subst hkn
        go_wp2
        go_ret
        exact ⟨retB (M.isMat_good (by have := HL.out; omega) (by have := HL.out; omega) (by have := HL.out; rw [this]; exact HA.out)).symm, _, rfl⟩
  · by_cases h0 : n = 0
    · subst h0
      go_enter Try.func19, Try.ntmps19
      go_wp2
      go_ret
      exact ⟨retB (M.isMat_no (by have := HL.out; omega)).symm, 0, rfl⟩
    · have h1 : 10 < n := by omega
      go_enter Try.func19, Try.ntmps19
      go_wp2
      go_ret
      exact ⟨retB (M.isMat_no (by have := HL.out; omega)).symm, 0, rfl⟩

theorem isMatrix_b (a : Option Addr) (n cap : Nat) (R : List (List Int)) (w : World) (b : Bool) (hb : M.isMat R = b) (h : Mat w a n R) :
    Calls Try.prog 21 #[.slice a n cap] w fun e w' => e = .returned (.bool b) ∧ w = w' := by
  subst hb
  exact isMatrix _ _ _ _ _ h

theorem sIsMatrix_b (a : Option Addr) (n cap : Nat) (R : List (List Int)) (w : World) (b : Bool) (hb : M.isMat R = b) (h : Mat w a n R) :
    Calls Try.prog 19 #[.slice a n cap] w fun e w' => e = .returned (.bool b) ∧ ∃ q, w' = w.drewN q := by
  subst hb
  exact sIsMatrix _ _ _ _ _ h
theorem sIsMatrixB (a : Option Addr) (n cap : Nat) (R : List (List Int)) (w : World) (h : Mat w a n R) :
    Calls Try.prog 19 #[.slice a n cap] w fun e w' => e = .returned (.bool (M.isMat R)) ∧ Below w.heap.size w w' := by
  refine (sIsMatrix _ _ _ _ _ h).mono ?_
  rintro e w' ⟨rfl, q, rfl⟩
  exact ⟨rfl, b_draws _ _⟩
theorem sIsMatrixB_b (a : Option Addr) (n cap : Nat) (R : List (List Int)) (w : World) (b : Bool) (hb : M.isMat R = b) (h : Mat w a n R) :
    Calls Try.prog 19 #[.slice a n cap] w fun e w' => e = .returned (.bool b) ∧ Below w.heap.size w w' := by
  subst hb
  exact sIsMatrixB _ _ _ _ _ h
end Go.Proofs.Ytlljnfljcdljaac.V
