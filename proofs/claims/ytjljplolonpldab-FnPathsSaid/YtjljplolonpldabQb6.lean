/- Texts laid together: Clo4, Clo5. -/
import Derived.Test.YtjljplolonpldabQb5
set_option linter.unusedSimpArgs false
set_option linter.unusedVariables false
set_option linter.unusedSectionVars false
namespace Go.Proofs.Ytjljplolonpldab.V
open Go.RowKit

set_option maxRecDepth 100000 in
set_option maxHeartbeats 400000 in
theorem sSame (a : Option Addr) (n cap : Nat) (l : List Int) (a' : Option Addr) (n' cap' : Nat) (l' : List Int) (w : World) (h : Ints .i64 w a n l) (h' : Ints .i64 w a' n' l') :
    Calls Try.prog 133 #[.slice a n cap, .slice a' n' cap'] w fun e w' => ∃ b, e = .returned (.bool b) ∧ Hid (b = decide (l = l')) ∧ ∃ q, w' = w.drewN q := by
  have HI := Lib.hid h
  have HI' := Lib.hid h'
  have HL := Lib.hid h.1
  have HL' := Lib.hid h'.1
  have hm := h.2.1
  unfold maxLen at hm
  clear h h'
  by_cases hn : n = n'
  · subst hn
    have hD0 : Hid (∀ i, i < 0 → l.getD i 0 = l'.getD i 0) := fun i hi => absurd hi (Nat.not_lt_zero i)
    go_enter Try.func133, Try.ntmps133
    go_wp2
    go_loopw [5] (fun i wr => ∃ k : Nat, k ≤ n ∧ i = .int .i64 k ∧ Hid (∀ i, i < k → l.getD i 0 = l'.getD i 0) ∧ ∃ q, wr = w.drewN q) (fun i _ => n - (intOf i).toNat)
    case atStart => exact ⟨0, Nat.zero_le _, rfl, hD0, 0, rfl⟩
    case round =>
      obtain ⟨k, hk, rfl, HD, q2, rfl⟩ := hrel
      clear hD0
      by_cases hlt : k < n
      · have hki : (k : Int) < (n : Int) := by omega
        obtain ⟨b, off, x, rfl, hd, hx, c1⟩ := HI.out.at k hlt
        obtain ⟨b', off', y, rfl, hd', hy, c2⟩ := HI'.out.at k hlt
        have HX := Lib.hid hx
        have HY := Lib.hid hy
        clear hx hy hd hd'
        by_cases e : x = y
        · have HD2 : Hid (∀ i, i < k + 1 → l.getD i 0 = l'.getD i 0) := fun i hi => by
            by_cases ei : i = k
            · subst ei; rw [← HX.out, ← HY.out, e]
            · exact HD.out i (by omega)
          subst e
          go_wp2
          go_quiet (fail)
          go_wp2
          go_roundw
          case rel => exact ⟨k + 1, by omega, by go_num, HD2, _, rfl⟩
          case measure => simp [intOf]; omega
        · have e2 : (x == y) = false := by simpa using e
          have e3 : (x != y) = true := by simpa using e
          have HF : Hid (l ≠ l') := fun he => e (by rw [HX.out, HY.out, he])
          go_wp2
          go_quiet (fail)
          go_wp2
          go_ret
          exact ⟨_, rfl, (decide_eq_false HF.out).symm, _, World.drewN_drewN _ _ _⟩
      · obtain rfl : k = n := by omega
        have HF : Hid (l = l') := by
          show l = l'
          apply List.ext_getElem
          · rw [HL.out, HL'.out]
          · intro i h1 h2
            have := HD.out i (by have := HL.out; omega)
            simpa [h1, h2] using this
        go_wp2
        go_ret
        exact ⟨_, rfl, (decide_eq_true HF.out).symm, _, rfl⟩
  · have e2 : (n == n') = false := by simpa using hn
    have e3 : ((n : Int) != (n' : Int)) = true := by simp; omega
    have HF : Hid (l ≠ l') := fun he => hn (by rw [← HL.out, ← HL'.out, he])
    go_enter Try.func133, Try.ntmps133
    go_wp2
    go_ret
    exact ⟨_, rfl, (decide_eq_false HF.out).symm, 0, rfl⟩

set_option maxRecDepth 100000 in
set_option maxHeartbeats 1000000 in
theorem sSameM (a : Option Addr) (n cap : Nat) (R : List (List Int)) (a' : Option Addr) (cap' : Nat) (R' : List (List Int)) (w : World) (h : Mat w a n R) (h' : Mat w a' n R') (hn : n ≤ 1000) :
    Calls Try.prog 106 #[.slice a n cap, .slice a' n cap'] w fun e w' => e = .returned (.bool (decide (R = R'))) ∧ ∃ q, w' = w.drewN q := by
  have HA := Lib.hid h
  have HA' := Lib.hid h'
  have HL := Lib.hid h.1
  have HL' := Lib.hid h'.1
  clear h h'
  have hD0 : Hid (∀ i, i < 0 → R.getD i [] = R'.getD i []) := fun i hi => absurd hi (Nat.not_lt_zero i)
  go_enter Try.func106, Try.ntmps106
  go_wp2
  go_loopw [5] (fun i wr => ∃ k : Nat, k ≤ n ∧ i = .int .i64 k ∧ Hid (∀ i, i < k → R.getD i [] = R'.getD i []) ∧ ∃ q, wr = w.drewN q) (fun i _ => n - (intOf i).toNat)
  case atStart => exact ⟨0, Nat.zero_le _, rfl, hD0, 0, rfl⟩
  case round =>
    obtain ⟨k, hk, rfl, HD, q2, rfl⟩ := hrel
    clear hD0
    by_cases hlt : k < n
    · have hki : (k : Int) < (n : Int) := by omega
      obtain ⟨b, off, ra, rc, L, l, rfl, hb, hl, hc, hI⟩ := HA.out.at k hlt
      obtain ⟨b', off', ra', rc', L', l', rfl, hb', hl', hc', hI'⟩ := HA'.out.at k hlt
      have HI := Lib.hid hI
      have HI' := Lib.hid hI'
      have HX := Lib.hid hl
      have HY := Lib.hid hl'
      obtain ⟨z, hz⟩ : ∃ z, z = decide (l = l') := ⟨_, rfl⟩
      have HZ := Lib.hid hz
      have HC : ∀ q3, Calls Try.prog 133 #[.slice ra L rc, .slice ra' L' rc'] (w.drewN q3) fun e w' => e = .returned (.bool z) ∧ ∃ q, w' = (w.drewN q3).drewN q := by
        intro q3
        refine (sSame _ _ _ _ _ _ _ _ _ (HI.out.below (b_draws w _)) (HI'.out.below (b_draws w _))).mono ?_
        rintro e w' ⟨b, rfl, hb, hq⟩
        exact ⟨by rw [HZ.out, hb.out], hq⟩
      clear hl hl' hI hI' hz hb hb'
      cases z with
      | true =>
        have HD2 : Hid (∀ i, i < k + 1 → R.getD i [] = R'.getD i []) := fun i hi => by
          by_cases ei : i = k
          · subst ei; rw [← HX.out, ← HY.out]; exact of_decide_eq_true HZ.out.symm
          · exact HD.out i (by omega)
        go_wp2
        go_quiet ((go_at_call 133; exact q_more (HC _)))
        go_wp2
        go_roundw
        case rel => exact ⟨k + 1, by omega, by go_num, HD2, _, rfl⟩
        case measure => simp [intOf]; omega
      | false =>
        have HF : Hid (R ≠ R') := fun he => of_decide_eq_false HZ.out.symm (by rw [HX.out, HY.out, he])
        go_wp2
        go_quiet ((go_at_call 133; exact q_more (HC _)))
        go_wp2
        go_ret
        exact ⟨retB (decide_eq_false HF.out).symm, _, World.drewN_drewN _ _ _⟩
    · obtain rfl : k = n := by omega
      have HF : Hid (R = R') := by
        show R = R'
        apply List.ext_getElem
        · rw [HL.out, HL'.out]
        · intro i h1 h2
          have := HD.out i (by have := HL.out; omega)
          simpa [h1, h2] using this
      go_wp2
      go_ret
      exact ⟨retB (decide_eq_true HF.out).symm, _, rfl⟩

set_option maxRecDepth 100000 in
set_option maxHeartbeats 1000000 in
theorem sStar (a : Option Addr) (n cap : Nat) (R : List (List Int)) (w : World) (h : Sq w a n R) :
    Calls Try.prog 56 #[.slice a n cap] w fun e w' => ∃ b c, e = .returned (.tuple #[.slice b n c, .bool (M.noPos (M.ent R) n)]) ∧ OwnM w' w.heap.size (.slice b n c) (M.bmM R n n) ∧ Below w.heap.size w w' := by
  have HS := Lib.hid h
  obtain ⟨n1, n2⟩ := h.2.2.2
  have HSm : Hid (∀ i j, i < n → j < n → M.Sm 1000001000000 (M.ent R i j)) := h.2.2.1
  have HRB : Hid (∀ i j, i < n → j < n → M.Big (M.ent R i j)) := fun i j hi hj => M.big_sm (HSm.out i j hi hj) (by omega)
  have HBB : Hid (∀ t, t ≤ n → ∀ i j, i < n → j < n → M.Big (M.ent (M.bmM R n t) i j)) := fun t ht i j hi hj => M.bm_big HSm.out (by omega) hi hj
  clear h
  go_enter Try.func56, Try.ntmps56
  go_wp2_with (go_at_call 83; refine (sUnit n _ (by omega)).mono ?_; rintro e w1 ⟨a2, cap2, rfl, hO, hb⟩; rw [M.bm_zero R] at hO; have HO0 := Lib.hid hO; have HB0 := Lib.hid hb; clear hO hb)
  go_loopw [5, 6] (fun o i wr => ∃ (k : Nat) (b : Option Addr) (c : Nat), k ≤ n ∧ i = .int .i64 k ∧ o = .slice b n c ∧ OwnM wr w.heap.size (.slice b n c) (M.bmM R n k) ∧ Below w.heap.size w wr) (fun _ i _ => n - (intOf i).toNat)
  case atStart => exact ⟨0, _, _, Nat.zero_le _, rfl, rfl, HO0.out, HB0.out⟩
  case round =>
    obtain ⟨k, b, c, hk, rfl, rfl, hO, hb⟩ := hrel
    obtain ⟨wo, rfl⟩ : ∃ x, x = wr := ⟨_, rfl⟩
    have HO := Lib.hid hO
    have HB := Lib.hid hb
    clear hO hb HO0 HB0
    by_cases hlt : k < n
    · have hki : (k : Int) < (n : Int) := by omega
      go_wp2_with fail
      refine (sUnit n _ (by omega)).mono ?_
      rintro e w2 ⟨a3, cap3, rfl, hU, hb2⟩
      have HU2 := Lib.hid hU
      have HB2 := Lib.hid (bnext HB.out hb2)
      have HO2 := Lib.hid (HO.out.below hb2)
      clear hU hb2 HO HB
      go_wp2_with fail
      refine (sMultiplyB _ _ _ n R _ _ n (M.bmM R n k) _ (HS.out.1.below HB2.out) HO2.out.mat HS.out.2.1 (rect_mk _ _ _) HRB.out (HBB.out k (by omega)) n1 n2 n1 n2 n1 n2).mono ?_
      rintro e w3 ⟨a4, cap4, rfl, hP, hb3⟩
      have HP3 := Lib.hid hP
      have HB3 := Lib.hid (bnext HB2.out hb3)
      have HU3 := Lib.hid (HU2.out.below hb3)
      clear hP hb3 HO2 HU2
      go_wp2_with fail
      refine (sAddB _ _ _ _ _ _ _ n _ HU3.out.mat HP3.out.mat (rect_mk _ _ _) (rect_mk _ _ _) n1 n2 n1 n2).mono ?_
      rintro e w4 ⟨a5, cap5, rfl, hN, hb4⟩
      rw [M.bm_step] at hN
      have HN4 := Lib.hid (hN.mono HB3.out.size)
      have HB4 := Lib.hid (bnext HB3.out hb4)
      clear hN hb4 HU3 HP3
      go_wp2
      go_roundw
      case rel => exact ⟨k + 1, _, _, by omega, by go_num, rfl, HN4.out, HB4.out⟩
      case measure => simp [intOf]; omega
    · obtain rfl : k = n := by omega
      go_wp2_with fail
      refine (sUnit k _ (by omega)).mono ?_
      rintro e w2 ⟨a3, cap3, rfl, hU, hb2⟩
      have HU2 := Lib.hid hU
      have HB2 := Lib.hid (bnext HB.out hb2)
      have HO2 := Lib.hid (HO.out.below hb2)
      clear hU hb2 HO HB
      go_wp2_with fail
      refine (sMultiplyB _ _ _ k R _ _ k (M.bmM R k k) _ (HS.out.1.below HB2.out) HO2.out.mat HS.out.2.1 (rect_mk _ _ _) HRB.out (HBB.out k (by omega)) n1 n2 n1 n2 n1 n2).mono ?_
      rintro e w3 ⟨a4, cap4, rfl, hP, hb3⟩
      have HP3 := Lib.hid hP
      have HB3 := Lib.hid (bnext HB2.out hb3)
      have HU3 := Lib.hid (HU2.out.below hb3)
      have HO3 := Lib.hid (HO2.out.below hb3)
      clear hP hb3 HO2 HU2
      go_wp2_with fail
      refine (sAddB _ _ _ _ _ _ _ k _ HU3.out.mat HP3.out.mat (rect_mk _ _ _) (rect_mk _ _ _) n1 n2 n1 n2).mono ?_
      rintro e w4 ⟨a5, cap5, rfl, hN, hb4⟩
      rw [M.bm_step] at hN
      have HN4 := Lib.hid hN
      have HB4 := Lib.hid (bnext HB3.out hb4)
      have HO4 := Lib.hid (HO3.out.below hb4)
      clear hN hb4 HU3 HP3 HO3
      go_wp2_with fail
      refine (sSameM _ _ _ _ _ _ _ _ HN4.out.mat HO4.out.mat (by omega)).mono ?_
      rintro e w5 ⟨rfl, q, rfl⟩
      rw [M.bm_same n2 HSm.out]
      go_wp2
      go_ret2
      exact ⟨_, _, rfl, HO4.out.below (b_draws _ _), below_drewN HB4.out _⟩
end Go.Proofs.Ytjljplolonpldab.V

namespace Go.Proofs.Ytjljplolonpldab.V
open Go.RowKit

set_option maxRecDepth 100000 in
set_option maxHeartbeats 400000 in
theorem sResult (a : Option Addr) (n cap : Nat) (R : List (List Int)) (b : Bool) (hb : M.isMat R = b) (w : World) (h : Mat w a n R) :
    Calls Try.prog 57 #[.slice a n cap] w fun e w' => e = .returned (if b then .tuple #[.slice a n cap, .int .i64 0] else .tuple #[.slice none 0 0, .int .i64 3]) ∧ ∃ q, w' = w.drewN q := by
  have HA := Lib.hid h
  have HB := Lib.hid hb
  clear h hb
  cases b with
  | true =>
    go_enter Try.func57, Try.ntmps57
    go_wp2_with (go_at_call 69; refine (sIsMatrix_b _ _ _ R _ true HB.out HA.out).mono ?_; rintro e w' ⟨rfl, q, rfl⟩)
    go_ret2
    exact ⟨rfl, _, rfl⟩
  | false =>
    go_enter Try.func57, Try.ntmps57
    go_wp2_with (go_at_call 69; refine (sIsMatrix_b _ _ _ R _ false HB.out HA.out).mono ?_; rintro e w' ⟨rfl, q, rfl⟩)
    go_ret2
    exact ⟨rfl, _, rfl⟩

set_option maxRecDepth 100000 in
set_option maxHeartbeats 1000000 in
theorem sStarMatrix (a : Option Addr) (n cap : Nat) (R : List (List Int)) (w : World) (h : Mat w a n R) :
    Calls Try.prog 20 #[.slice a n cap] w (MRes (M.starRes R) w) := by
  have HA := Lib.hid h
  by_cases hs : M.sqB R = true
  · have HS := Lib.hid hs
    have HQ := Lib.hid (sq_of h hs)
    have HSm := Lib.hid (sq_of h hs).2.2.1
    obtain ⟨-, -, -, n1, n2⟩ := sq_of h hs
    have HL := Lib.hid h.1
    by_cases hp : M.noPos (M.ent R) n = true
    · have HP := Lib.hid hp
      have HC : ∀ w1, Below w.heap.size w w1 → Calls Try.prog 56 #[.slice a n cap] w1 fun e w' => ∃ b c, e = .returned (.tuple #[.slice b n c, .bool true]) ∧ OwnM w' w1.heap.size (.slice b n c) (M.starM R n) ∧ Below w1.heap.size w1 w' := by
        intro w1 hb
        have := sStar a n cap R w1 (HQ.out.below hb)
        rw [hp, M.bm_star n2 HSm.out hp] at this
        exact this
      obtain ⟨b, hb⟩ : ∃ b, b = M.isMat (M.starM R n) := ⟨_, rfl⟩
      have HM := Lib.hid hb.symm
      have HE : Hid (M.starRes R = if b then (M.starM R n, 0) else ([], 3)) := by
        show _ = _; rw [hb]; unfold M.starRes; rw [hs, HL.out, hp]; rfl
      clear h hs hp hb
      cases b with
      | true =>
        go_enter Try.func20, Try.ntmps20
        go_wp2_with (first | (go_at_call 55; refine (sSquare_b _ _ _ R _ true HS.out HA.out).mono ?_; rintro e w' ⟨rfl, q, rfl⟩) | (go_at_call 56; refine (HC _ (b_draws _ _)).mono ?_; rintro e w1 ⟨a2, cap2, rfl, hO, hb⟩; have HO := Lib.hid (hO.mono (b_draws w q).size); have HB := Lib.hid (bnext (b_draws w q) hb); clear hO hb) | (go_at_call 57; refine (sResult _ _ _ _ true HM.out _ HO.out.mat).mono ?_; rintro e w' ⟨rfl, q2, rfl⟩))
        go_ret2
        rw [HE.out]
        exact ⟨_, _, _, rfl, HO.out.below (b_draws _ _), below_drewN HB.out _⟩
      | false =>
        go_enter Try.func20, Try.ntmps20
        go_wp2_with (first | (go_at_call 55; refine (sSquare_b _ _ _ R _ true HS.out HA.out).mono ?_; rintro e w' ⟨rfl, q, rfl⟩) | (go_at_call 56; refine (HC _ (b_draws _ _)).mono ?_; rintro e w1 ⟨a2, cap2, rfl, hO, hb⟩; have HO := Lib.hid (hO.mono (b_draws w q).size); have HB := Lib.hid (bnext (b_draws w q) hb); clear hO hb) | (go_at_call 57; refine (sResult _ _ _ _ false HM.out _ HO.out.mat).mono ?_; rintro e w' ⟨rfl, q2, rfl⟩))
        go_ret2
        exact MRes.nil HE.out (below_drewN HB.out _)
    · simp only [Bool.not_eq_true] at hp
      have HC : ∀ w1, Below w.heap.size w w1 → Calls Try.prog 56 #[.slice a n cap] w1 fun e w' => ∃ b c, e = .returned (.tuple #[.slice b n c, .bool false]) ∧ OwnM w' w1.heap.size (.slice b n c) (M.bmM R n n) ∧ Below w1.heap.size w1 w' := by
        intro w1 hb
        have := sStar a n cap R w1 (HQ.out.below hb)
        rw [hp] at this
        exact this
      have HE : Hid (M.starRes R = ([], 5)) := by
        show _ = _; unfold M.starRes; rw [hs, HL.out, hp]; rfl
      clear h hs hp
      go_enter Try.func20, Try.ntmps20
      go_wp2_with (first | (go_at_call 55; refine (sSquare_b _ _ _ R _ true HS.out HA.out).mono ?_; rintro e w' ⟨rfl, q, rfl⟩) | (go_at_call 56; refine (HC _ (b_draws _ _)).mono ?_; rintro e w1 ⟨a2, cap2, rfl, hO, hb⟩; have HB := Lib.hid (bnext (b_draws w q) hb); clear hO hb))
      go_ret2
      exact MRes.nil HE.out HB.out
  · simp only [Bool.not_eq_true] at hs
    have HS := Lib.hid hs
    have HE : Hid (M.starRes R = ([], 1)) := by show _ = _; unfold M.starRes; rw [hs]; rfl
    clear h hs
    go_enter Try.func20, Try.ntmps20
    go_wp2_with (go_at_call 55; refine (sSquare_b _ _ _ R _ false HS.out HA.out).mono ?_; rintro e w' ⟨rfl, q, rfl⟩)
    go_ret2
    exact MRes.nil HE.out (b_draws _ _)

set_option maxRecDepth 100000 in
set_option maxHeartbeats 1000000 in
theorem sPlusMatrix (a : Option Addr) (n cap : Nat) (R : List (List Int)) (w : World) (h : Mat w a n R) :
    Calls Try.prog 14 #[.slice a n cap] w (MRes (M.plusRes R) w) := by
  have HA := Lib.hid h
  by_cases hs : M.sqB R = true
  · have HS := Lib.hid hs
    have HQ := Lib.hid (sq_of h hs)
    have HSm := Lib.hid (sq_of h hs).2.2.1
    obtain ⟨-, -, -, n1, n2⟩ := sq_of h hs
    have HL := Lib.hid h.1
    by_cases hp : M.noPos (M.ent R) n = true
    · have HP := Lib.hid hp
      have HC : ∀ w1, Below w.heap.size w w1 → Calls Try.prog 56 #[.slice a n cap] w1 fun e w' => ∃ b c, e = .returned (.tuple #[.slice b n c, .bool true]) ∧ OwnM w' w1.heap.size (.slice b n c) (M.bmM R n n) ∧ Below w1.heap.size w1 w' := by
        intro w1 hb
        have := sStar a n cap R w1 (HQ.out.below hb)
        rw [hp] at this
        exact this
      have HC2 : ∀ w1 b c, Below w.heap.size w w1 → OwnM w1 w.heap.size (.slice b n c) (M.bmM R n n) → Calls Try.prog 58 #[.slice a n cap, .slice b n c] w1 (MPost n (M.plusM R n) w1) := by
        intro w1 b c hb ho
        have := sMultiplyB a n cap n R b c n (M.bmM R n n) w1 (HQ.out.1.below hb) ho.mat HQ.out.2.1 (rect_mk _ _ _) (fun i j hi hj => M.big_sm (HSm.out i j hi hj) (by omega)) (fun i j hi hj => M.bm_big HSm.out (by omega) hi hj) n1 n2 n1 n2 n1 n2
        rw [M.bm_plus n2 HSm.out HP.out] at this
        exact this
      obtain ⟨b, hb⟩ : ∃ b, b = M.isMat (M.plusM R n) := ⟨_, rfl⟩
      have HM := Lib.hid hb.symm
      have HE : Hid (M.plusRes R = if b then (M.plusM R n, 0) else ([], 3)) := by
        show _ = _; rw [hb]; unfold M.plusRes; rw [hs, HL.out, hp]; rfl
      clear h hs hp hb
      cases b with
      | true =>
        go_enter Try.func14, Try.ntmps14
        go_wp2_with (first | (go_at_call 55; refine (sSquare_b _ _ _ R _ true HS.out HA.out).mono ?_; rintro e w' ⟨rfl, q, rfl⟩) | (go_at_call 56; refine (HC _ (b_draws _ _)).mono ?_; rintro e w1 ⟨a2, cap2, rfl, hO, hb⟩; have HO := Lib.hid (hO.mono (b_draws w q).size); have HB := Lib.hid (bnext (b_draws w q) hb); clear hO hb) | (go_at_call 58; refine (HC2 _ _ _ HB.out HO.out).mono ?_; rintro e w2 ⟨a3, cap3, rfl, hO, hb⟩; have HO3 := Lib.hid (hO.mono HB.out.size); have HB3 := Lib.hid (bnext HB.out hb); clear hO hb) | (go_at_call 57; refine (sResult _ _ _ _ true HM.out _ HO3.out.mat).mono ?_; rintro e w' ⟨rfl, q2, rfl⟩))
        go_ret2
        rw [HE.out]
        exact ⟨_, _, _, rfl, HO3.out.below (b_draws _ _), below_drewN HB3.out _⟩
      | false =>
        go_enter Try.func14, Try.ntmps14
        go_wp2_with (first | (go_at_call 55; refine (sSquare_b _ _ _ R _ true HS.out HA.out).mono ?_; rintro e w' ⟨rfl, q, rfl⟩) | (go_at_call 56; refine (HC _ (b_draws _ _)).mono ?_; rintro e w1 ⟨a2, cap2, rfl, hO, hb⟩; have HO := Lib.hid (hO.mono (b_draws w q).size); have HB := Lib.hid (bnext (b_draws w q) hb); clear hO hb) | (go_at_call 58; refine (HC2 _ _ _ HB.out HO.out).mono ?_; rintro e w2 ⟨a3, cap3, rfl, hO, hb⟩; have HO3 := Lib.hid (hO.mono HB.out.size); have HB3 := Lib.hid (bnext HB.out hb); clear hO hb) | (go_at_call 57; refine (sResult _ _ _ _ false HM.out _ HO3.out.mat).mono ?_; rintro e w' ⟨rfl, q2, rfl⟩))
        go_ret2
        exact MRes.nil HE.out (below_drewN HB3.out _)
    · simp only [Bool.not_eq_true] at hp
      have HC : ∀ w1, Below w.heap.size w w1 → Calls Try.prog 56 #[.slice a n cap] w1 fun e w' => ∃ b c, e = .returned (.tuple #[.slice b n c, .bool false]) ∧ OwnM w' w1.heap.size (.slice b n c) (M.bmM R n n) ∧ Below w1.heap.size w1 w' := by
        intro w1 hb
        have := sStar a n cap R w1 (HQ.out.below hb)
        rw [hp] at this
        exact this
      have HE : Hid (M.plusRes R = ([], 5)) := by
        show _ = _; unfold M.plusRes; rw [hs, HL.out, hp]; rfl
      clear h hs hp
      go_enter Try.func14, Try.ntmps14
      go_wp2_with (first | (go_at_call 55; refine (sSquare_b _ _ _ R _ true HS.out HA.out).mono ?_; rintro e w' ⟨rfl, q, rfl⟩) | (go_at_call 56; refine (HC _ (b_draws _ _)).mono ?_; rintro e w1 ⟨a2, cap2, rfl, hO, hb⟩; have HB := Lib.hid (bnext (b_draws w q) hb); clear hO hb))
      go_ret2
      exact MRes.nil HE.out HB.out
  · simp only [Bool.not_eq_true] at hs
    have HS := Lib.hid hs
    have HE : Hid (M.plusRes R = ([], 1)) := by show _ = _; unfold M.plusRes; rw [hs]; rfl
    clear h hs
    go_enter Try.func14, Try.ntmps14
    go_wp2_with (go_at_call 55; refine (sSquare_b _ _ _ R _ false HS.out HA.out).mono ?_; rintro e w' ⟨rfl, q, rfl⟩)
    go_ret2
    exact MRes.nil HE.out (b_draws _ _)
end Go.Proofs.Ytjljplolonpldab.V
