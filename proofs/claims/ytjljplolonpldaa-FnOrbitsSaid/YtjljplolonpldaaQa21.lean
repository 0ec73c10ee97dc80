/- Texts laid together: MatC, SumO. -/
import Derived.Test.YtjljplolonpldaaQa1
import Derived.Test.YtjljplolonpldaaQa3
set_option linter.unusedSimpArgs false
set_option linter.unusedVariables false
set_option linter.unusedSectionVars false
namespace Go.Proofs.Ytjljplolonpldaa
namespace M
/-- A list as a matrix of one column. -/
def col (l : List Int) : List (List Int) := mk l.length 1 (fun i _ => l.getD i 0)
theorem col_ok {l : List Int} (h : isVec l = true) : isMat (col l) = true := by
  obtain ⟨h1, h2, h3⟩ := isVec_t h
  exact isMat_mk h1 h2 (Nat.le_refl _) (by omega) (fun i hi _ _ => h3 i hi)
theorem col_take (l : List Int) (k : Nat) : mk (k + 1) 1 (fun i _ => l.getD i 0) = mk k 1 (fun i _ => l.getD i 0) ++ [[l.getD k 0]] := by
  rw [mk_snoc]; rfl
theorem apply_at (R : List (List Int)) (l : List Int) (i : Nat) (hi : i < R.length) : (applyM R l).getD i 0 = dotV R l i l.length := by
  simp [applyM, hi]
theorem mul_col {R : List (List Int)} {l : List Int} (hl : isVec l = true) : mulM R (col l) = mk R.length 1 (fun i _ => (applyM R l).getD i 0) := by
  obtain ⟨h1, h2, h3⟩ := isVec_t hl
  have e1 : wid (col l) = 1 := mk_wid _ _ _ (by omega)
  have e2 : (col l).length = l.length := mk_length _ _ _
  unfold mulM
  rw [e1, e2]
  refine mk_congr fun i hi j hj => ?_
  obtain rfl : j = 0 := by omega
  rw [apply_at R l i hi]
  unfold dot dotV
  refine sumN_congr fun t ht => ?_
  unfold col
  rw [ent_mk _ _ _ _ _ ht (by omega)]
theorem apply_len (R : List (List Int)) (l : List Int) : (applyM R l).length = R.length := by simp [applyM]
theorem mul_col_ok {R : List (List Int)} {l : List Int} (hR : isMat R = true) (hl : isVec l = true) : isMat (mulM R (col l)) = isVec (applyM R l) := by
  obtain ⟨m1, m2, -⟩ := isMat_t hR
  rw [mul_col hl]
  cases e : isVec (applyM R l) with
  | true =>
    obtain ⟨h1, h2, h3⟩ := isVec_t e
    rw [apply_len] at h3
    exact isMat_mk m1 m2 (Nat.le_refl _) (by omega) (fun i hi _ _ => h3 i hi)
  | false =>
    cases e2 : isMat (mk R.length 1 (fun i _ => (applyM R l).getD i 0)) with
    | false => rfl
    | true =>
      exfalso
      obtain ⟨-, -, -, -, -, h6⟩ := isMat_t e2
      rw [mk_length, mk_wid _ _ _ (by omega)] at h6
      have : isVec (applyM R l) = true := isVec_of (by rw [apply_len]; exact m1) (by rw [apply_len]; exact m2) (fun j hj => by
        rw [apply_len] at hj
        have := h6 j hj 0 (by omega)
        rw [ent_mk _ _ _ _ _ hj (by omega)] at this
        exact this)
      rw [this] at e; cases e
/-- What the two say, where both arguments are valid. -/
theorem vec_col {R : List (List Int)} {l : List Int} (hR : isMat R = true) (hl : isVec l = true) :
    (vecRes R l = ([], 5) ∧ mulRes R (col l) = ([], 5)) ∨ (vecRes R l = ([], 3) ∧ mulRes R (col l) = ([], 3)) ∨ (vecRes R l = (applyM R l, 0) ∧ mulRes R (col l) = (mk R.length 1 (fun i _ => (applyM R l).getD i 0), 0)) := by
  have e2 : (col l).length = l.length := mk_length _ _ _
  unfold vecRes mulRes
  simp only [hR, hl, col_ok hl, Bool.and_self, if_true, e2]
  by_cases hw : wid R = l.length
  · right
    rw [if_pos hw, if_pos hw, mul_col_ok hR hl, mul_col hl]
    by_cases hv : isVec (applyM R l) = true
    · right; rw [if_pos hv, if_pos hv]; exact ⟨rfl, rfl⟩
    · left; rw [if_neg hv, if_neg hv]; exact ⟨rfl, rfl⟩
  · left; rw [if_neg hw, if_neg hw]; exact ⟨rfl, rfl⟩
theorem vec_bad {R : List (List Int)} {l : List Int} (h : ¬(isMat R = true ∧ isVec l = true)) : vecRes R l = ([], 1) := by
  unfold vecRes
  rw [if_neg (by simpa using h)]
end M
end Go.Proofs.Ytjljplolonpldaa

namespace Go.Proofs.Ytjljplolonpldaa.V
open Go.RowKit
set_option maxRecDepth 100000 in
set_option maxHeartbeats 400000 in
theorem sumOf (a : Option Addr) (n cap : Nat) (l : List Int) (w : World) (h : Ints .i64 w a n l) :
    Calls Try.prog 37 #[.slice a n cap] w fun e w' => e = .returned (.tuple #[.int .i64 (M.sumM l).1, .int .i64 (M.sumM l).2]) ∧ w = w' := by
  obtain ⟨hl, hm, hr⟩ := h
  unfold maxLen at hm
  have HL := Lib.hid hl
  clear hl
  by_cases hbig : 200 < n
  · clear hr
    go_enter Try.func37, Try.ntmps37
    go_wp2
    go_ret2
    exact ⟨retP (by have := HL.out; simp [M.sumM, this, hbig]), rfl⟩
  · go_enter Try.func37, Try.ntmps37
    go_wp2
    go_loop [4, 12] (fun s i => ∃ k : Nat, k ≤ n ∧ i = .int .i64 k ∧ s = .int .i64 (M.maxL (l.take k)) ∧ Hid ((l.take k).all M.isVal = true)) (fun _ i => n - (intOf i).toNat)
    case atStart => exact ⟨0, Nat.zero_le _, rfl, rfl, rfl⟩
    case round =>
      obtain ⟨k, hk, rfl, rfl, HA⟩ := hrel
      by_cases hlt : k < n
      · rcases hr with h0 | ⟨b, off, rfl, hbl, hc⟩
        · omega
        · have hck := hc k hlt
          have hsn := M.take_snoc l k (by have := HL.out; omega)
          obtain ⟨x, hx⟩ : ∃ x, x = l.getD k 0 := ⟨_, rfl⟩
          rw [← hx] at hck hsn
          have HX := Lib.hid hx
          have HS := Lib.hid hsn
          clear hc hx hsn
          by_cases hv : M.isVal x = true
          · have HM : Hid (M.maxL (l.take (k + 1)) = max (M.maxL (l.take k)) x) := by show _ = _; rw [HS.out, M.maxL_snoc]
            have HA2 : Hid ((l.take (k + 1)).all M.isVal = true) := by show _ = _; rw [HS.out, M.all_snoc, HA.out, hv]; rfl
            go_wp2_with (first | (go_at_call 106; refine (isValue _ _).mono ?_; rintro e w' ⟨rfl, rfl⟩) | (go_at_call 107; refine (plus _ _ _).mono ?_; rintro e w' ⟨rfl, rfl⟩))
            go_round
            case rel => exact ⟨k + 1, by omega, by go_num, by rw [HM.out], HA2⟩
            case measure => simp [intOf]; omega
          · simp only [Bool.not_eq_true] at hv
            have HF : Hid (l.all M.isVal = false) := M.all_false _ l k (by have := HL.out; omega) (by rw [← HX.out]; exact hv)
            go_wp2_with (first | (go_at_call 106; refine (isValue _ _).mono ?_; rintro e w' ⟨rfl, rfl⟩) | (go_at_call 107; refine (plus _ _ _).mono ?_; rintro e w' ⟨rfl, rfl⟩))
            go_ret2
            exact ⟨retP (by have := HL.out; have h2 := HF.out; simp only [M.sumM, h2]; rw [if_neg (by omega)]; rfl), rfl⟩
      · have hkn : k = n := by omega
        subst hkn
        have HT : Hid (l.take k = l) := M.take_all l k (by have := HL.out; omega)
        clear hr
        go_wp2
        go_ret2
        exact ⟨retP (by have := HL.out; have h2 := HA.out; rw [HT.out] at h2; simp only [M.sumM, h2]; rw [if_neg (by omega), HT.out]; rfl), rfl⟩

end Go.Proofs.Ytjljplolonpldaa.V
