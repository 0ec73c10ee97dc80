/- Texts laid together: Clo4, Clo5, Fix1, Pot1. -/
import Derived.Test.YtmhpgnndjagogaaQc6
import Derived.Test.YtmhpgnndjagogaaQc8
import Derived.Test.YtmhpgnndjagogaaQc7
import Derived.Deep.RegionWith
import Derived.Deep.RegionHeld3
set_option linter.unusedSimpArgs false
set_option linter.unusedVariables false
set_option linter.unusedSectionVars false
namespace Go.Proofs.Ytmhpgnndjagogaa.V
open Go.RowKit

set_option maxRecDepth 100000 in
set_option maxHeartbeats 400000 in
theorem sSame (a : Option Addr) (n cap : Nat) (l : List Int) (a' : Option Addr) (n' cap' : Nat) (l' : List Int) (w : World) (h : Ints .i64 w a n l) (h' : Ints .i64 w a' n' l') :
    Calls Try.prog 121 #[.slice a n cap, .slice a' n' cap'] w fun e w' => ∃ b, e = .returned (.bool b) ∧ Hid (b = decide (l = l')) ∧ ∃ q, w' = w.drewN q := by
  have HI := Lib.hid h
  have HI' := Lib.hid h'
  have HL := Lib.hid h.1
  have HL' := Lib.hid h'.1
  have hm := h.2.1
  unfold maxLen at hm
  clear h h'
  by_cases hn : n = n'
  · subst hn
    have hD0 : Hid (∀ i, i < 0 → l.getD i 0 = l'.getD i 0) := fun i hi => absurd hi (Nat.not_lt_zero i)
    go_enter Try.func121, Try.ntmps121
    go_wp2
    go_loopw [5] (fun i wr => ∃ k : Nat, k ≤ n ∧ i = .int .i64 k ∧ Hid (∀ i, i < k → l.getD i 0 = l'.getD i 0) ∧ ∃ q, wr = w.drewN q) (fun i _ => n - (intOf i).toNat)
    case atStart => exact ⟨0, Nat.zero_le _, rfl, hD0, 0, rfl⟩
    case round =>
      obtain ⟨k, hk, rfl, HD, q2, rfl⟩ := hrel
      clear hD0
      by_cases hlt : k < n
      · have hki : (k : Int) < (n : Int) := by omega
        obtain ⟨b, off, x, rfl, hd, hx, c1⟩ := HI.out.at k hlt
        obtain ⟨b', off', y, rfl, hd', hy, c2⟩ := HI'.out.at k hlt
        have HX := Lib.hid hx
        have HY := Lib.hid hy
        clear hx hy hd hd'
        by_cases e : x = y
        · have HD2 : Hid (∀ i, i < k + 1 → l.getD i 0 = l'.getD i 0) := fun i hi => by
            by_cases ei : i = k
            · subst ei; rw [← HX.out, ← HY.out, e]
            · exact HD.out i (by omega)
          subst e
          go_wp2
          go_quiet (fail)
          go_wp2
          go_roundw
          case rel => exact ⟨k + 1, by omega, by go_num, HD2, _, rfl⟩
          case measure => simp [intOf]; omega
        · have e2 : (x == y) = false := by simpa using e
          have e3 : (x != y) = true := by simpa using e
          have HF : Hid (l ≠ l') := fun he => e (by rw [HX.out, HY.out, he])
          go_wp2
          go_quiet (fail)
          go_wp2
          go_ret
          exact ⟨_, rfl, (decide_eq_false HF.out).symm, _, World.drewN_drewN _ _ _⟩
      · obtain rfl : k = n := by omega
        have HF : Hid (l = l') := by
          show l = l'
          apply List.ext_getElem
          · rw [HL.out, HL'.out]
          · intro i h1 h2
            have := HD.out i (by have := HL.out; omega)
            simpa [h1, h2] using this
        go_wp2
        go_ret
        exact ⟨_, rfl, (decide_eq_true HF.out).symm, _, rfl⟩
  · have e2 : (n == n') = false := by simpa using hn
    have e3 : ((n : Int) != (n' : Int)) = true := by simp; omega
    have HF : Hid (l ≠ l') := fun he => hn (by rw [← HL.out, ← HL'.out, he])
    go_enter Try.func121, Try.ntmps121
    go_wp2
    go_ret
    exact ⟨_, rfl, (decide_eq_false HF.out).symm, 0, rfl⟩

set_option maxRecDepth 100000 in
set_option maxHeartbeats 1000000 in
theorem sSameM (a : Option Addr) (n cap : Nat) (R : List (List Int)) (a' : Option Addr) (cap' : Nat) (R' : List (List Int)) (w : World) (h : Mat w a n R) (h' : Mat w a' n R') (hn : n ≤ 1000) :
    Calls Try.prog 103 #[.slice a n cap, .slice a' n cap'] w fun e w' => e = .returned (.bool (decide (R = R'))) ∧ ∃ q, w' = w.drewN q := by
  have HA := Lib.hid h
  have HA' := Lib.hid h'
  have HL := Lib.hid h.1
  have HL' := Lib.hid h'.1
  clear h h'
  have hD0 : Hid (∀ i, i < 0 → R.getD i [] = R'.getD i []) := fun i hi => absurd hi (Nat.not_lt_zero i)
  go_enter Try.func103, Try.ntmps103
  go_wp2
  go_loopw [5] (fun i wr => ∃ k : Nat, k ≤ n ∧ i = .int .i64 k ∧ Hid (∀ i, i < k → R.getD i [] = R'.getD i []) ∧ ∃ q, wr = w.drewN q) (fun i _ => n - (intOf i).toNat)
  case atStart => exact ⟨0, Nat.zero_le _, rfl, hD0, 0, rfl⟩
  case round =>
    obtain ⟨k, hk, rfl, HD, q2, rfl⟩ := hrel
    clear hD0
    by_cases hlt : k < n
    · have hki : (k : Int) < (n : Int) := by omega
      obtain ⟨b, off, ra, rc, L, l, rfl, hb, hl, hc, hI⟩ := HA.out.at k hlt
      obtain ⟨b', off', ra', rc', L', l', rfl, hb', hl', hc', hI'⟩ := HA'.out.at k hlt
      have HI := Lib.hid hI
      have HI' := Lib.hid hI'
      have HX := Lib.hid hl
      have HY := Lib.hid hl'
      obtain ⟨z, hz⟩ : ∃ z, z = decide (l = l') := ⟨_, rfl⟩
      have HZ := Lib.hid hz
      have HC : ∀ q3, Calls Try.prog 121 #[.slice ra L rc, .slice ra' L' rc'] (w.drewN q3) fun e w' => e = .returned (.bool z) ∧ ∃ q, w' = (w.drewN q3).drewN q := by
        intro q3
        refine (sSame _ _ _ _ _ _ _ _ _ (HI.out.below (b_draws w _)) (HI'.out.below (b_draws w _))).mono ?_
        rintro e w' ⟨b, rfl, hb, hq⟩
        exact ⟨by rw [HZ.out, hb.out], hq⟩
      clear hl hl' hI hI' hz hb hb'
      cases z with
      | true =>
        have HD2 : Hid (∀ i, i < k + 1 → R.getD i [] = R'.getD i []) := fun i hi => by
          by_cases ei : i = k
          · subst ei; rw [← HX.out, ← HY.out]; exact of_decide_eq_true HZ.out.symm
          · exact HD.out i (by omega)
        go_wp2
        go_quiet ((go_at_call 121; exact q_more (HC _)))
        go_wp2
        go_roundw
        case rel => exact ⟨k + 1, by omega, by go_num, HD2, _, rfl⟩
        case measure => simp [intOf]; omega
      | false =>
        have HF : Hid (R ≠ R') := fun he => of_decide_eq_false HZ.out.symm (by rw [HX.out, HY.out, he])
        go_wp2
        go_quiet ((go_at_call 121; exact q_more (HC _)))
        go_wp2
        go_ret
        exact ⟨retB (decide_eq_false HF.out).symm, _, World.drewN_drewN _ _ _⟩
    · obtain rfl : k = n := by omega
      have HF : Hid (R = R') := by
        show R = R'
        apply List.ext_getElem
        · rw [HL.out, HL'.out]
        · intro i h1 h2
          have := HD.out i (by have := HL.out; omega)
          simpa [h1, h2] using this
      go_wp2
      go_ret
      exact ⟨retB (decide_eq_true HF.out).symm, _, rfl⟩

set_option maxRecDepth 100000 in
set_option maxHeartbeats 1000000 in
theorem sStar (a : Option Addr) (n cap : Nat) (R : List (List Int)) (w : World) (h : Sq w a n R) :
    Calls Try.prog 80 #[.slice a n cap] w fun e w' => ∃ b c, e = .returned (.tuple #[.slice b n c, .bool (M.noPos (M.ent R) n)]) ∧ OwnM w' w.heap.size (.slice b n c) (M.bmM R n n) ∧ Below w.heap.size w w' := by
  have HS := Lib.hid h
  obtain ⟨n1, n2⟩ := h.2.2.2
  have HSm : Hid (∀ i j, i < n → j < n → M.Sm 1000001000000 (M.ent R i j)) := h.2.2.1
  have HRB : Hid (∀ i j, i < n → j < n → M.Big (M.ent R i j)) := fun i j hi hj => M.big_sm (HSm.out i j hi hj) (by omega)
  have HBB : Hid (∀ t, t ≤ n → ∀ i j, i < n → j < n → M.Big (M.ent (M.bmM R n t) i j)) := fun t ht i j hi hj => M.bm_big HSm.out (by omega) hi hj
  clear h
  go_enter Try.func80, Try.ntmps80
  go_wp2_with (go_at_call 100; refine (sUnit n _ (by omega)).mono ?_; rintro e w1 ⟨a2, cap2, rfl, hO, hb⟩; rw [M.bm_zero R] at hO; have HO0 := Lib.hid hO; have HB0 := Lib.hid hb; clear hO hb)
  go_loopw [5, 6] (fun o i wr => ∃ (k : Nat) (b : Option Addr) (c : Nat), k ≤ n ∧ i = .int .i64 k ∧ o = .slice b n c ∧ OwnM wr w.heap.size (.slice b n c) (M.bmM R n k) ∧ Below w.heap.size w wr) (fun _ i _ => n - (intOf i).toNat)
  case atStart => exact ⟨0, _, _, Nat.zero_le _, rfl, rfl, HO0.out, HB0.out⟩
  case round =>
    obtain ⟨k, b, c, hk, rfl, rfl, hO, hb⟩ := hrel
    obtain ⟨wo, rfl⟩ : ∃ x, x = wr := ⟨_, rfl⟩
    have HO := Lib.hid hO
    have HB := Lib.hid hb
    clear hO hb HO0 HB0
    by_cases hlt : k < n
    · have hki : (k : Int) < (n : Int) := by omega
      go_wp2_with fail
      refine (sUnit n _ (by omega)).mono ?_
      rintro e w2 ⟨a3, cap3, rfl, hU, hb2⟩
      have HU2 := Lib.hid hU
      have HB2 := Lib.hid (bnext HB.out hb2)
      have HO2 := Lib.hid (HO.out.below hb2)
      clear hU hb2 HO HB
      go_wp2_with fail
      refine (sMultiplyB _ _ _ n R _ _ n (M.bmM R n k) _ (HS.out.1.below HB2.out) HO2.out.mat HS.out.2.1 (rect_mk _ _ _) HRB.out (HBB.out k (by omega)) n1 n2 n1 n2 n1 n2).mono ?_
      rintro e w3 ⟨a4, cap4, rfl, hP, hb3⟩
      have HP3 := Lib.hid hP
      have HB3 := Lib.hid (bnext HB2.out hb3)
      have HU3 := Lib.hid (HU2.out.below hb3)
      clear hP hb3 HO2 HU2
      go_wp2_with fail
      refine (sAddB _ _ _ _ _ _ _ n _ HU3.out.mat HP3.out.mat (rect_mk _ _ _) (rect_mk _ _ _) n1 n2 n1 n2).mono ?_
      rintro e w4 ⟨a5, cap5, rfl, hN, hb4⟩
      rw [M.bm_step] at hN
      have HN4 := Lib.hid (hN.mono HB3.out.size)
      have HB4 := Lib.hid (bnext HB3.out hb4)
      clear hN hb4 HU3 HP3
      go_wp2
      go_roundw
      case rel => exact ⟨k + 1, _, _, by omega, by go_num, rfl, HN4.out, HB4.out⟩
      case measure => simp [intOf]; omega
    · obtain rfl : k = n := by omega
      go_wp2_with fail
      refine (sUnit k _ (by omega)).mono ?_
      rintro e w2 ⟨a3, cap3, rfl, hU, hb2⟩
      have HU2 := Lib.hid hU
      have HB2 := Lib.hid (bnext HB.out hb2)
      have HO2 := Lib.hid (HO.out.below hb2)
      clear hU hb2 HO HB
      go_wp2_with fail
      refine (sMultiplyB _ _ _ k R _ _ k (M.bmM R k k) _ (HS.out.1.below HB2.out) HO2.out.mat HS.out.2.1 (rect_mk _ _ _) HRB.out (HBB.out k (by omega)) n1 n2 n1 n2 n1 n2).mono ?_
      rintro e w3 ⟨a4, cap4, rfl, hP, hb3⟩
      have HP3 := Lib.hid hP
      have HB3 := Lib.hid (bnext HB2.out hb3)
      have HU3 := Lib.hid (HU2.out.below hb3)
      have HO3 := Lib.hid (HO2.out.below hb3)
      clear hP hb3 HO2 HU2
      go_wp2_with fail
      refine (sAddB _ _ _ _ _ _ _ k _ HU3.out.mat HP3.out.mat (rect_mk _ _ _) (rect_mk _ _ _) n1 n2 n1 n2).mono ?_
      rintro e w4 ⟨a5, cap5, rfl, hN, hb4⟩
      rw [M.bm_step] at hN
      have HN4 := Lib.hid hN
      have HB4 := Lib.hid (bnext HB3.out hb4)
      have HO4 := Lib.hid (HO3.out.below hb4)
      clear hN hb4 HU3 HP3 HO3
      go_wp2_with fail
      refine (sSameM _ _ _ _ _ _ _ _ HN4.out.mat HO4.out.mat (by omega)).mono ?_
      rintro e w5 ⟨rfl, q, rfl⟩
      rw [M.bm_same n2 HSm.out]
      go_wp2
      go_ret2
      exact ⟨_, _, rfl, HO4.out.below (b_draws _ _), below_drewN HB4.out _⟩
end Go.Proofs.Ytmhpgnndjagogaa.V

namespace Go.Proofs.Ytmhpgnndjagogaa.V
open Go.RowKit



end Go.Proofs.Ytmhpgnndjagogaa.V

namespace Go.Proofs.Ytmhpgnndjagogaa.V
open Go.RowKit

/-- What the least fixed point of a matrix and a vector that fit is. -/
def M.lfpL (R : List (List Int)) (n : Nat) (l : List Int) : List Int × Int := if M.noPos (M.ent R) n then (if M.isVec (M.applyM (M.starM R n) l) then (M.applyM (M.starM R n) l, 0) else ([], 3)) else ([], 5)

end Go.Proofs.Ytmhpgnndjagogaa.V

namespace Go.Proofs.Ytmhpgnndjagogaa
namespace M
theorem noPos_mk (n : Nat) (f : Nat → Nat → Int) : noPos (ent (mk n n f)) n = noPos f n := noPos_congr fun _ _ hi hj => ent_mk _ _ _ _ _ hi hj
theorem starM_mk (n : Nat) (f : Nat → Nat → Int) : starM (mk n n f) n = mk n n (starF f n) := mk_congr fun _ hi _ hj => starF_congr (fun _ _ hi hj => ent_mk _ _ _ _ _ hi hj) hi hj
def finV (x : Int) : Bool := isFin x
theorem zeros_len (n : Nat) : (zerosL n).length = n := by simp [zerosL]
theorem zeros_made (n : Nat) : ((List.range n).map fun _ => (0 : Int)) = zerosL n := by
  unfold zerosL
  apply List.ext_getElem
  · simp
  · intro i h1 h2; simp
end M
namespace V
open Go.RowKit
theorem sq_shift {w : World} {a : Option Addr} {n : Nat} {f : Nat → Nat → Int} (h : Mat w a n (M.mk n n f)) (hf : ∀ i j, i < n → j < n → M.Sm 1000001000000 (f i j)) (n1 : 1 ≤ n) (n2 : n ≤ 10) : Sq w a n (M.mk n n f) :=
  ⟨h, rect_mk _ _ _, fun i j hi hj => by rw [M.ent_mk _ _ _ _ _ hi hj]; exact hf i j hi hj, n1, n2⟩
set_option maxRecDepth 100000 in
set_option maxHeartbeats 400000 in
theorem sAllF (a : Option Addr) (n cap : Nat) (l : List Int) (w : World) (h : Ints .i64 w a n l) :
    Calls Try.prog 66 #[.slice a n cap, .bool true] w fun e w' => e = .returned (.bool (l.all M.isFin)) ∧ w = w' := by
  obtain ⟨hl, hm, hr⟩ := h
  unfold maxLen at hm
  have HL := Lib.hid hl
  clear hl
  go_enter Try.func66, Try.ntmps66
  go_wp2
  go_loop [5] (fun i => ∃ k : Nat, k ≤ n ∧ i = .int .i64 k ∧ Hid ((l.take k).all M.isFin = true)) (fun i => n - (intOf i).toNat)
  case atStart => exact ⟨0, Nat.zero_le _, rfl, rfl⟩
  case round =>
    obtain ⟨k, hk, rfl, HA⟩ := hrel
    by_cases hlt : k < n
    · rcases hr with h0 | ⟨b, off, rfl, hbl, hc⟩
      · omega
      · have hck := hc k hlt
        have hsn := M.take_snoc l k (by have := HL.out; omega)
        obtain ⟨x, hx⟩ : ∃ x, x = l.getD k 0 := ⟨_, rfl⟩
        rw [← hx] at hck hsn
        have HX := Lib.hid hx
        have HS := Lib.hid hsn
        clear hc hx hsn
        by_cases hb : x = -1000000000000000
        · have HF : Hid (l.all M.isFin = false) := M.all_false _ l k (by have := HL.out; omega) (by rw [← HX.out, hb]; rfl)
          have hv : M.isVal x = true := by rw [hb]; exact M.bot_val
          subst hb
          go_wp2_with (first | (go_at_call 94; refine (sIsValue _ _).mono ?_; rintro e w' ⟨rfl, rfl⟩))
          go_ret
          exact ⟨retB (by rw [HF.out]), rfl⟩
        · have hb2 : (x == -1000000000000000) = false := by simpa using hb
          have hvf : M.isVal x = M.isFin x := by unfold M.isVal; rw [decide_eq_false hb, Bool.false_or]
          by_cases hv : M.isVal x = true
          · have HA2 : Hid ((l.take (k + 1)).all M.isFin = true) := by show _ = _; rw [HS.out, M.all_snoc, HA.out, ← hvf, hv]; rfl
            clear hvf
            go_wp2_with (first | (go_at_call 94; refine (sIsValue _ _).mono ?_; rintro e w' ⟨rfl, rfl⟩))
            go_round
            case rel => exact ⟨k + 1, by omega, by go_num, HA2⟩
            case measure => simp [intOf]; omega
          · simp only [Bool.not_eq_true] at hv
            have HF : Hid (l.all M.isFin = false) := M.all_false _ l k (by have := HL.out; omega) (by rw [← HX.out, ← hvf, hv])
            clear hvf
            go_wp2_with (first | (go_at_call 94; refine (sIsValue _ _).mono ?_; rintro e w' ⟨rfl, rfl⟩))
            go_ret
            exact ⟨retB (by rw [HF.out]), rfl⟩
    · have hkn : k = n := by omega
      subst hkn
      have HT : Hid (l.take k = l) := M.take_all l k (by have := HL.out; omega)
      clear hr
      go_wp2
      go_ret
      exact ⟨retB (by rw [← HT.out, HA.out]), rfl⟩
theorem sAllF_b (a : Option Addr) (n cap : Nat) (l : List Int) (b : Bool) (hb : l.all M.isFin = b) (w : World) (h : Ints .i64 w a n l) :
    Calls Try.prog 66 #[.slice a n cap, .bool true] w fun e w' => e = .returned (.bool b) ∧ w = w' := by subst hb; exact sAllF a n cap l w h
/-- The plain answer, by the shifted matrix. -/
theorem pot_lfp {R : List (List Int)} {n : Nat} {num den : Int} (hn : R.length = n) (hs : M.sqB R = true) (hr : M.isRat num den = true) : M.potRes R num den = M.lfpL (M.mk n n (M.shf (M.ent R) num den)) n (M.zerosL n) := by
  subst hn
  unfold M.potRes M.lfpL
  rw [hs, hr, M.noPos_mk]
  rfl
end V
end Go.Proofs.Ytmhpgnndjagogaa
