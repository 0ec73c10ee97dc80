/- Texts laid together: Clo4, Clo3, Clo5, Fix1, Pot1, Cms. -/
import Derived.Test.YtlljnfljcdljaabGreatQz8
import Derived.Test.YtlljnfljcdljaabGreatQz6
import Derived.Test.YtlljnfljcdljaabGreatQz9
import Derived.Deep.RegionWith
import Derived.Deep.RegionHeld3
import Derived.Test.YtlljnfljcdljaabGreatQz4
import Derived.Test.YtlljnfljcdljaabGreatQz10
import Derived.Test.YtlljnfljcdljaabGreatQz5
set_option linter.unusedSimpArgs false
set_option linter.unusedVariables false
set_option linter.unusedSectionVars false
namespace Go.Proofs.YtlljnfljcdljaabGreat.V
open Go.RowKit

set_option maxRecDepth 100000 in
set_option maxHeartbeats 400000 in
theorem sSame (a : Option Addr) (n cap : Nat) (l : List Int) (a' : Option Addr) (n' cap' : Nat) (l' : List Int) (w : World) (h : Ints .i64 w a n l) (h' : Ints .i64 w a' n' l') :
    Calls Tryz.prog 109 #[.slice a n cap, .slice a' n' cap'] w fun e w' => ∃ b, e = .returned (.bool b) ∧ Hid (b = decide (l = l')) ∧ ∃ q, w' = w.drewN q := by
  have HI := Lib.hid h
  have HI' := Lib.hid h'
  have HL := Lib.hid h.1
  have HL' := Lib.hid h'.1
  have hm := h.2.1
  unfold maxLen at hm
  clear h h'
  by_cases hn : n = n'
  · subst hn
    have hD0 : Hid (∀ i, i < 0 → l.getD i 0 = l'.getD i 0) := fun i hi => absurd hi (Nat.not_lt_zero i)
    go_enter Tryz.func109, Tryz.ntmps109
    go_wp2
    go_loopw [5] (fun i wr => ∃ k : Nat, k ≤ n ∧ i = .int .i64 k ∧ Hid (∀ i, i < k → l.getD i 0 = l'.getD i 0) ∧ ∃ q, wr = w.drewN q) (fun i _ => n - (intOf i).toNat)
    case atStart => exact ⟨0, Nat.zero_le _, rfl, hD0, 0, rfl⟩
    case round =>
      obtain ⟨k, hk, rfl, HD, q2, rfl⟩ := hrel
      clear hD0
      by_cases hlt : k < n
      · have hki : (k : Int) < (n : Int) := by omega
        obtain ⟨b, off, x, rfl, hd, hx, c1⟩ := HI.out.at k hlt
        obtain ⟨b', off', y, rfl, hd', hy, c2⟩ := HI'.out.at k hlt
        have HX := Lib.hid hx
        have HY := Lib.hid hy
        clear hx hy hd hd'
        by_cases e : x = y
        · have HD2 : Hid (∀ i, i < k + 1 → l.getD i 0 = l'.getD i 0) := fun i hi => by
            by_cases ei : i = k
            · subst ei; rw [← HX.out, ← HY.out, e]
            · exact HD.out i (by omega)
          subst e
          go_wp2
          go_quiet (fail)
          go_wp2
          go_roundw
          case rel => exact ⟨k + 1, by omega, by go_num, HD2, _, rfl⟩
          case measure => simp [intOf]; omega
        · have e2 : (x == y) = false := by simpa using e
          have e3 : (x != y) = true := by simpa using e
          have HF : Hid (l ≠ l') := fun he => e (by rw [HX.out, HY.out, he])
          go_wp2
          go_quiet (fail)
          go_wp2
          go_ret
          exact ⟨_, rfl, (decide_eq_false HF.out).symm, _, World.drewN_drewN _ _ _⟩
      · obtain rfl : k = n := by omega
        have HF : Hid (l = l') := by
          show l = l'
          apply List.ext_getElem
          · rw [HL.out, HL'.out]
          · intro i h1 h2
            have := HD.out i (by have := HL.out; omega)
            simpa [h1, h2] using this
        go_wp2
        go_ret
        exact ⟨_, rfl, (decide_eq_true HF.out).symm, _, rfl⟩
  · have e2 : (n == n') = false := by simpa using hn
    have e3 : ((n : Int) != (n' : Int)) = true := by simp; omega
    have HF : Hid (l ≠ l') := fun he => hn (by rw [← HL.out, ← HL'.out, he])
    go_enter Tryz.func109, Tryz.ntmps109
    go_wp2
    go_ret
    exact ⟨_, rfl, (decide_eq_false HF.out).symm, 0, rfl⟩

set_option maxRecDepth 100000 in
set_option maxHeartbeats 1000000 in
theorem sSameM (a : Option Addr) (n cap : Nat) (R : List (List Int)) (a' : Option Addr) (cap' : Nat) (R' : List (List Int)) (w : World) (h : Mat w a n R) (h' : Mat w a' n R') (hn : n ≤ 1000) :
    Calls Tryz.prog 85 #[.slice a n cap, .slice a' n cap'] w fun e w' => e = .returned (.bool (decide (R = R'))) ∧ ∃ q, w' = w.drewN q := by
  have HA := Lib.hid h
  have HA' := Lib.hid h'
  have HL := Lib.hid h.1
  have HL' := Lib.hid h'.1
  clear h h'
  have hD0 : Hid (∀ i, i < 0 → R.getD i [] = R'.getD i []) := fun i hi => absurd hi (Nat.not_lt_zero i)
  go_enter Tryz.func85, Tryz.ntmps85
  go_wp2
  go_loopw [5] (fun i wr => ∃ k : Nat, k ≤ n ∧ i = .int .i64 k ∧ Hid (∀ i, i < k → R.getD i [] = R'.getD i []) ∧ ∃ q, wr = w.drewN q) (fun i _ => n - (intOf i).toNat)
  case atStart => exact ⟨0, Nat.zero_le _, rfl, hD0, 0, rfl⟩
  case round =>
    obtain ⟨k, hk, rfl, HD, q2, rfl⟩ := hrel
    clear hD0
    by_cases hlt : k < n
    · have hki : (k : Int) < (n : Int) := by omega
      obtain ⟨b, off, ra, rc, L, l, rfl, hb, hl, hc, hI⟩ := HA.out.at k hlt
      obtain ⟨b', off', ra', rc', L', l', rfl, hb', hl', hc', hI'⟩ := HA'.out.at k hlt
      have HI := Lib.hid hI
      have HI' := Lib.hid hI'
      have HX := Lib.hid hl
      have HY := Lib.hid hl'
      obtain ⟨z, hz⟩ : ∃ z, z = decide (l = l') := ⟨_, rfl⟩
      have HZ := Lib.hid hz
      have HC : ∀ q3, Calls Tryz.prog 109 #[.slice ra L rc, .slice ra' L' rc'] (w.drewN q3) fun e w' => e = .returned (.bool z) ∧ ∃ q, w' = (w.drewN q3).drewN q := by
        intro q3
        refine (sSame _ _ _ _ _ _ _ _ _ (HI.out.below (b_draws w _)) (HI'.out.below (b_draws w _))).mono ?_
        rintro e w' ⟨b, rfl, hb, hq⟩
        exact ⟨by rw [HZ.out, hb.out], hq⟩
      clear hl hl' hI hI' hz hb hb'
      cases z with
      | true =>
        have HD2 : Hid (∀ i, i < k + 1 → R.getD i [] = R'.getD i []) := fun i hi => by
          by_cases ei : i = k
          · subst ei; rw [← HX.out, ← HY.out]; exact of_decide_eq_true HZ.out.symm
          · exact HD.out i (by omega)
        go_wp2
        go_quiet ((go_at_call 109; exact q_more (HC _)))
        go_wp2
        go_roundw
        case rel => exact ⟨k + 1, by omega, by go_num, HD2, _, rfl⟩
        case measure => simp [intOf]; omega
      | false =>
        have HF : Hid (R ≠ R') := fun he => of_decide_eq_false HZ.out.symm (by rw [HX.out, HY.out, he])
        go_wp2
        go_quiet ((go_at_call 109; exact q_more (HC _)))
        go_wp2
        go_ret
        exact ⟨retB (decide_eq_false HF.out).symm, _, World.drewN_drewN _ _ _⟩
    · obtain rfl : k = n := by omega
      have HF : Hid (R = R') := by
        show R = R'
        apply List.ext_getElem
        · rw [HL.out, HL'.out]
        · intro i h1 h2
          have := HD.out i (by have := HL.out; omega)
          simpa [h1, h2] using this
      go_wp2
      go_ret
      exact ⟨retB (decide_eq_true HF.out).symm, _, rfl⟩

set_option maxRecDepth 100000 in
set_option maxHeartbeats 1000000 in
theorem sStar (a : Option Addr) (n cap : Nat) (R : List (List Int)) (w : World) (h : Sq w a n R) :
    Calls Tryz.prog 54 #[.slice a n cap] w fun e w' => ∃ b c, e = .returned (.tuple #[.slice b n c, .bool (M.noPos (M.ent R) n)]) ∧ OwnM w' w.heap.size (.slice b n c) (M.bmM R n n) ∧ Below w.heap.size w w' := by
  have HS := Lib.hid h
  obtain ⟨n1, n2⟩ := h.2.2.2
  have HSm : Hid (∀ i j, i < n → j < n → M.Sm 1000001000000 (M.ent R i j)) := h.2.2.1
  have HRB : Hid (∀ i j, i < n → j < n → M.Big (M.ent R i j)) := fun i j hi hj => M.big_sm (HSm.out i j hi hj) (by omega)
  have HBB : Hid (∀ t, t ≤ n → ∀ i j, i < n → j < n → M.Big (M.ent (M.bmM R n t) i j)) := fun t ht i j hi hj => M.bm_big HSm.out (by omega) hi hj
  clear h
  go_enter Tryz.func54, Tryz.ntmps54
  go_wp2_with (go_at_call 82; refine (sUnit n _ (by omega)).mono ?_; rintro e w1 ⟨a2, cap2, rfl, hO, hb⟩; rw [M.bm_zero R] at hO; have HO0 := Lib.hid hO; have HB0 := Lib.hid hb; clear hO hb)
  go_loopw [5, 6] (fun o i wr => ∃ (k : Nat) (b : Option Addr) (c : Nat), k ≤ n ∧ i = .int .i64 k ∧ o = .slice b n c ∧ OwnM wr w.heap.size (.slice b n c) (M.bmM R n k) ∧ Below w.heap.size w wr) (fun _ i _ => n - (intOf i).toNat)
  case atStart => exact ⟨0, _, _, Nat.zero_le _, rfl, rfl, HO0.out, HB0.out⟩
  case round =>
    obtain ⟨k, b, c, hk, rfl, rfl, hO, hb⟩ := hrel
    obtain ⟨wo, rfl⟩ : ∃ x, x = wr := ⟨_, rfl⟩
    have HO := Lib.hid hO
    have HB := Lib.hid hb
    clear hO hb HO0 HB0
    by_cases hlt : k < n
    · have hki : (k : Int) < (n : Int) := by omega
      go_wp2_with fail
      refine (sUnit n _ (by omega)).mono ?_
      rintro e w2 ⟨a3, cap3, rfl, hU, hb2⟩
      have HU2 := Lib.hid hU
      have HB2 := Lib.hid (bnext HB.out hb2)
      have HO2 := Lib.hid (HO.out.below hb2)
      clear hU hb2 HO HB
      go_wp2_with fail
      refine (sMultiplyB _ _ _ n R _ _ n (M.bmM R n k) _ (HS.out.1.below HB2.out) HO2.out.mat HS.out.2.1 (rect_mk _ _ _) HRB.out (HBB.out k (by omega)) n1 n2 n1 n2 n1 n2).mono ?_
      rintro e w3 ⟨a4, cap4, rfl, hP, hb3⟩
      have HP3 := Lib.hid hP
      have HB3 := Lib.hid (bnext HB2.out hb3)
      have HU3 := Lib.hid (HU2.out.below hb3)
      clear hP hb3 HO2 HU2
      go_wp2_with fail
      refine (sAddB _ _ _ _ _ _ _ n _ HU3.out.mat HP3.out.mat (rect_mk _ _ _) (rect_mk _ _ _) n1 n2 n1 n2).mono ?_
      rintro e w4 ⟨a5, cap5, rfl, hN, hb4⟩
      rw [M.bm_step] at hN
      have HN4 := Lib.hid (hN.mono HB3.out.size)
      have HB4 := Lib.hid (bnext HB3.out hb4)
      clear hN hb4 HU3 HP3
      go_wp2
      go_roundw
      case rel => exact ⟨k + 1, _, _, by omega, by go_num, rfl, HN4.out, HB4.out⟩
      case measure => simp [intOf]; omega
    · obtain rfl : k = n := by omega
      go_wp2_with fail
      refine (sUnit k _ (by omega)).mono ?_
      rintro e w2 ⟨a3, cap3, rfl, hU, hb2⟩
      have HU2 := Lib.hid hU
      have HB2 := Lib.hid (bnext HB.out hb2)
      have HO2 := Lib.hid (HO.out.below hb2)
      clear hU hb2 HO HB
      go_wp2_with fail
      refine (sMultiplyB _ _ _ k R _ _ k (M.bmM R k k) _ (HS.out.1.below HB2.out) HO2.out.mat HS.out.2.1 (rect_mk _ _ _) HRB.out (HBB.out k (by omega)) n1 n2 n1 n2 n1 n2).mono ?_
      rintro e w3 ⟨a4, cap4, rfl, hP, hb3⟩
      have HP3 := Lib.hid hP
      have HB3 := Lib.hid (bnext HB2.out hb3)
      have HU3 := Lib.hid (HU2.out.below hb3)
      have HO3 := Lib.hid (HO2.out.below hb3)
      clear hP hb3 HO2 HU2
      go_wp2_with fail
      refine (sAddB _ _ _ _ _ _ _ k _ HU3.out.mat HP3.out.mat (rect_mk _ _ _) (rect_mk _ _ _) n1 n2 n1 n2).mono ?_
      rintro e w4 ⟨a5, cap5, rfl, hN, hb4⟩
      rw [M.bm_step] at hN
      have HN4 := Lib.hid hN
      have HB4 := Lib.hid (bnext HB3.out hb4)
      have HO4 := Lib.hid (HO3.out.below hb4)
      clear hN hb4 HU3 HP3 HO3
      go_wp2_with fail
      refine (sSameM _ _ _ _ _ _ _ _ HN4.out.mat HO4.out.mat (by omega)).mono ?_
      rintro e w5 ⟨rfl, q, rfl⟩
      rw [M.bm_same n2 HSm.out]
      go_wp2
      go_ret2
      exact ⟨_, _, rfl, HO4.out.below (b_draws _ _), below_drewN HB4.out _⟩
end Go.Proofs.YtlljnfljcdljaabGreat.V

namespace Go.Proofs.YtlljnfljcdljaabGreat.V
open Go.RowKit

/-- The matrix whose diagonal is 0 before row k. -/
def M.diaF (A : Nat → Nat → Int) (n k i j : Nat) : Int := if i = j ∧ i < k then 0 else M.cfw A n i j
set_option maxRecDepth 100000 in
set_option maxHeartbeats 1000000 in
theorem starOf (a : Option Addr) (n cap : Nat) (R : List (List Int)) (w : World) (h : Sq w a n R) :
    Calls Tryz.prog 89 #[.slice a n cap] w (CPost (M.starL R n) w) := by
  have HS := Lib.hid h
  obtain ⟨n1, n2⟩ := h.2.2.2
  clear h
  obtain ⟨r, hr⟩ : ∃ r, r = M.plusL R n := ⟨_, rfl⟩
  have HC : Calls Tryz.prog 111 #[.slice a n cap] w (CPost r w) := by rw [hr]; exact plusOf _ _ _ _ _ HS.out
  by_cases hp : M.noPos (M.ent R) n = true
  · have hr2 : r = (M.plusM R n, true) := by rw [hr]; unfold M.plusL; rw [hp]; rfl
    have HF : Hid (M.starL R n = (M.starM R n, true)) := by show _ = _; unfold M.starL; rw [hp]; rfl
    clear hr hp
    subst hr2
    go_enter Tryz.func89, Tryz.ntmps89
    go_wp2_with fail
    refine HC.mono ?_
    rintro e w1 ⟨a2, m, cap2, rfl, hO, hb⟩
    obtain rfl : m = n := by have := hO.len; simpa [M.plusM] using this
    have HO0 : Hid (OwnM w1 w.heap.size (.slice a2 m cap2) (M.mk m m (M.diaF (M.ent R) m 0))) :=
      (congrArg (OwnM _ _ _) (M.mk_congr fun i _ j _ => by unfold M.diaF; rw [if_neg (by omega)])).mp hO
    have HB0 := Lib.hid hb
    clear hO hb HC
    go_wp2
    go_loopw [6, 14] (fun _ i wr => ∃ k : Nat, k ≤ m ∧ i = .int .i64 k ∧ OwnM wr w.heap.size (.slice a2 m cap2) (M.mk m m (M.diaF (M.ent R) m k)) ∧ Below w.heap.size w wr) (fun _ i _ => m - (intOf i).toNat)
    case atStart => exact ⟨0, Nat.zero_le _, rfl, HO0.out, HB0.out⟩
    case round =>
      obtain ⟨k, hk, rfl, hO, hb⟩ := hrel
      have HO := Lib.hid hO
      have HB := Lib.hid hb
      clear hO hb HO0 HB0
      by_cases hlt : k < m
      · obtain ⟨g, q, L, c, x, rfl, hg, hq, hL, hx, h1, h2, h3, h4⟩ := HO.out.at k k hlt (by rw [M.mk_rowlen _ _ _ _ hlt]; exact hlt)
        rw [M.mk_rowlen _ _ _ _ hlt] at hL
        obtain rfl : m = L := hL.symm
        have hN := h4 0
        rw [M.mk_set _ _ _ _ _ _ hlt] at hN
        have HN := Lib.hid hN
        have hki : (k : Int) < (m : Int) := by omega
        clear hx h4 hN
        go_wp2
        go_roundw
        case rel =>
          refine ⟨k + 1, by omega, by go_num, (congrArg (OwnM _ _ _) (M.mk_congr fun i _ j _ => ?_)).mp HN.out, HB.out.setCell hq _⟩
          unfold M.diaF
          by_cases e : i = k
          · subst e
            by_cases e2 : j = i
            · subst e2; simp
            · rw [if_pos rfl, if_neg e2, if_neg (by omega), if_neg (by omega)]
          · rw [if_neg e]
            by_cases e2 : i = j ∧ i < k
            · rw [if_pos e2, if_pos (by omega)]
            · rw [if_neg e2, if_neg (by omega)]
        case measure => simp [intOf]; omega
      · obtain rfl : k = m := by omega
        go_wp2
        go_ret2
        rw [HF.out]
        refine ⟨_, _, _, rfl, (congrArg (OwnM _ _ _) (M.mk_congr fun i hi j _ => ?_)).mp HO.out, HB.out⟩
        unfold M.diaF M.starF
        by_cases e : i = j
        · rw [if_pos ⟨e, hi⟩, if_pos e]
        · rw [if_neg (by omega), if_neg e]
  · simp only [Bool.not_eq_true] at hp
    have hr2 : r = ([], false) := by rw [hr]; unfold M.plusL; rw [hp]; rfl
    have HF : Hid (M.starL R n = ([], false)) := by show _ = _; unfold M.starL; rw [hp]; rfl
    clear hr hp
    subst hr2
    go_enter Tryz.func89, Tryz.ntmps89
    go_wp2_with fail
    refine HC.mono ?_
    rintro e w1 ⟨a2, m, cap2, rfl, hO, hb⟩
    obtain rfl : m = 0 := by have := hO.len; simpa using this
    have HB0 := Lib.hid hb
    have HO0 := Lib.hid hO
    clear hO hb HC
    go_wp2
    go_loop [14] (fun i => i = .int .i64 0) (fun _ => 0)
    case atStart => rfl
    case round =>
      subst hrel
      go_wp2
      go_ret2
      rw [HF.out]
      exact ⟨_, _, _, rfl, HO0.out, HB0.out⟩



end Go.Proofs.YtlljnfljcdljaabGreat.V

namespace Go.Proofs.YtlljnfljcdljaabGreat.V
open Go.RowKit



end Go.Proofs.YtlljnfljcdljaabGreat.V

namespace Go.Proofs.YtlljnfljcdljaabGreat.V
open Go.RowKit

/-- What the least fixed point of a matrix and a vector that fit is. -/
def M.lfpL (R : List (List Int)) (n : Nat) (l : List Int) : List Int × Int := if M.noPos (M.ent R) n then (if M.isVec (M.applyM (M.starM R n) l) then (M.applyM (M.starM R n) l, 0) else ([], 3)) else ([], 5)

end Go.Proofs.YtlljnfljcdljaabGreat.V

namespace Go.Proofs.YtlljnfljcdljaabGreat
namespace M
theorem noPos_mk (n : Nat) (f : Nat → Nat → Int) : noPos (ent (mk n n f)) n = noPos f n := noPos_congr fun _ _ hi hj => ent_mk _ _ _ _ _ hi hj
theorem starM_mk (n : Nat) (f : Nat → Nat → Int) : starM (mk n n f) n = mk n n (starF f n) := mk_congr fun _ hi _ hj => starF_congr (fun _ _ hi hj => ent_mk _ _ _ _ _ hi hj) hi hj
def finV (x : Int) : Bool := isFin x
theorem zeros_len (n : Nat) : (zerosL n).length = n := by simp [zerosL]
theorem zeros_made (n : Nat) : ((List.range n).map fun _ => (0 : Int)) = zerosL n := by
  unfold zerosL
  apply List.ext_getElem
  · simp
  · intro i h1 h2; simp
end M
namespace V
open Go.RowKit
theorem sq_shift {w : World} {a : Option Addr} {n : Nat} {f : Nat → Nat → Int} (h : Mat w a n (M.mk n n f)) (hf : ∀ i j, i < n → j < n → M.Sm 1000001000000 (f i j)) (n1 : 1 ≤ n) (n2 : n ≤ 10) : Sq w a n (M.mk n n f) :=
  ⟨h, rect_mk _ _ _, fun i j hi hj => by rw [M.ent_mk _ _ _ _ _ hi hj]; exact hf i j hi hj, n1, n2⟩
set_option maxRecDepth 100000 in
set_option maxHeartbeats 400000 in
theorem sAllF (a : Option Addr) (n cap : Nat) (l : List Int) (w : World) (h : Ints .i64 w a n l) :
    Calls Tryz.prog 138 #[.slice a n cap, .bool true] w fun e w' => e = .returned (.bool (l.all M.isFin)) ∧ w = w' := by
  obtain ⟨hl, hm, hr⟩ := h
  unfold maxLen at hm
  have HL := Lib.hid hl
  clear hl
  go_enter Tryz.func138, Tryz.ntmps138
  go_wp2
  go_loop [5] (fun i => ∃ k : Nat, k ≤ n ∧ i = .int .i64 k ∧ Hid ((l.take k).all M.isFin = true)) (fun i => n - (intOf i).toNat)
  case atStart => exact ⟨0, Nat.zero_le _, rfl, rfl⟩
  case round =>
    obtain ⟨k, hk, rfl, HA⟩ := hrel
    by_cases hlt : k < n
    · rcases hr with h0 | ⟨b, off, rfl, hbl, hc⟩
      · omega
      · have hck := hc k hlt
        have hsn := M.take_snoc l k (by have := HL.out; omega)
        obtain ⟨x, hx⟩ : ∃ x, x = l.getD k 0 := ⟨_, rfl⟩
        rw [← hx] at hck hsn
        have HX := Lib.hid hx
        have HS := Lib.hid hsn
        clear hc hx hsn
        by_cases hb : x = -1000000000000000
        · have HF : Hid (l.all M.isFin = false) := M.all_false _ l k (by have := HL.out; omega) (by rw [← HX.out, hb]; rfl)
          have hv : M.isVal x = true := by rw [hb]; exact M.bot_val
          subst hb
          go_wp2_with (first | (go_at_call 150; refine (sIsValue _ _).mono ?_; rintro e w' ⟨rfl, rfl⟩))
          go_ret
          exact ⟨retB (by rw [HF.out]), rfl⟩
        · have hb2 : (x == -1000000000000000) = false := by simpa using hb
          have hvf : M.isVal x = M.isFin x := by unfold M.isVal; rw [decide_eq_false hb, Bool.false_or]
          by_cases hv : M.isVal x = true
          · have HA2 : Hid ((l.take (k + 1)).all M.isFin = true) := by show _ = _; rw [HS.out, M.all_snoc, HA.out, ← hvf, hv]; rfl
            clear hvf
            go_wp2_with (first | (go_at_call 150; refine (sIsValue _ _).mono ?_; rintro e w' ⟨rfl, rfl⟩))
            go_round
            case rel => exact ⟨k + 1, by omega, by go_num, HA2⟩
            case measure => simp [intOf]; omega
          · simp only [Bool.not_eq_true] at hv
            have HF : Hid (l.all M.isFin = false) := M.all_false _ l k (by have := HL.out; omega) (by rw [← HX.out, ← hvf, hv])
            clear hvf
            go_wp2_with (first | (go_at_call 150; refine (sIsValue _ _).mono ?_; rintro e w' ⟨rfl, rfl⟩))
            go_ret
            exact ⟨retB (by rw [HF.out]), rfl⟩
    · have hkn : k = n := by omega
      subst hkn
      have HT : Hid (l.take k = l) := M.take_all l k (by have := HL.out; omega)
      clear hr
      go_wp2
      go_ret
      exact ⟨retB (by rw [← HT.out, HA.out]), rfl⟩
theorem sAllF_b (a : Option Addr) (n cap : Nat) (l : List Int) (b : Bool) (hb : l.all M.isFin = b) (w : World) (h : Ints .i64 w a n l) :
    Calls Tryz.prog 138 #[.slice a n cap, .bool true] w fun e w' => e = .returned (.bool b) ∧ w = w' := by subst hb; exact sAllF a n cap l w h
/-- The plain answer, by the shifted matrix. -/
theorem pot_lfp {R : List (List Int)} {n : Nat} {num den : Int} (hn : R.length = n) (hs : M.sqB R = true) (hr : M.isRat num den = true) : M.potRes R num den = M.lfpL (M.mk n n (M.shf (M.ent R) num den)) n (M.zerosL n) := by
  subst hn
  unfold M.potRes M.lfpL
  rw [hs, hr, M.noPos_mk]
  rfl
end V
end Go.Proofs.YtlljnfljcdljaabGreat

namespace Go.Proofs.YtlljnfljcdljaabGreat
namespace M
def arcsQ (R : List (List Int)) (j i : Nat) : List (List Int) := arcsP R j ++ arcRow R j i
theorem arcsQ_zero (R : List (List Int)) (j : Nat) : arcsQ R j 0 = arcsP R j := by simp [arcsQ, arcRow]
theorem arcsQ_next (R : List (List Int)) (j i : Nat) : arcsQ R j (i + 1) = arcsQ R j i ++ (if crB R j i then [[(j : Int), (i : Int)]] else []) := by
  unfold arcsQ; rw [arcRow_next, List.append_assoc]
theorem arcsQ_end (R : List (List Int)) (j : Nat) : arcsQ R j R.length = arcsP R (j + 1) := by unfold arcsQ; rw [arcsP_next]
theorem arcsQ_len (R : List (List Int)) {j i : Nat} (hj : j ≤ R.length) (hi : i ≤ R.length) (hn : R.length ≤ 10) : (arcsQ R j i).length ≤ 200 := by
  have h1 := arcsP_len R j
  have h2 := arcRow_len R j i
  have h3 := Nat.mul_le_mul hj (Nat.le_refl R.length)
  have h4 := Nat.mul_le_mul hn hn
  unfold arcsQ
  rw [List.length_append]
  omega
end M
namespace V
set_option maxRecDepth 100000
open Go.RowKit
set_option maxRecDepth 100000 in
set_option maxHeartbeats 1000000 in
theorem sCode (a : Option Addr) (n cap : Nat) (R : List (List Int)) (w : World) (h : Mat w a n R) :
    Calls Tryz.prog 26 #[.slice a n cap] w fun e w' => e = .returned (.int .i64 (M.crCode R)) ∧ Below w.heap.size w w' := by
  have HA := Lib.hid h
  have HRn := Lib.hid h.1
  by_cases hs : M.sqB R = true
  · have HS := Lib.hid hs
    obtain ⟨c, hc⟩ : ∃ c, c = M.hasCyc (M.ent R) n := ⟨_, rfl⟩
    have HNo := Lib.hid hc.symm
    have HE : Hid (M.crCode R = if c then 0 else 4) := by show _ = _; unfold M.crCode; rw [if_pos hs, HRn.out, ← hc]
    clear h hs hc
    go_enter Tryz.func26, Tryz.ntmps26
    go_wp2_with fail
    refine (sSquare_b _ _ _ R _ true HS.out HA.out).mono ?_
    rintro e w' ⟨rfl, qd, rfl⟩
    go_wp2_with fail
    refine (sBest _ _ _ R _ (HA.out.below (b_draws _ _)) HS.out).mono ?_
    rintro e w1 ⟨b', n', c', rfl, ho, hb0⟩
    rw [HNo.out]
    have HB := Lib.hid ((b_draws w qd).trans hb0)
    clear ho hb0
    cases c with
    | false =>
      go_wp2
      go_ret
      exact ⟨by rw [HE.out]; rfl, HB.out⟩
    | true =>
      go_wp2
      go_ret
      exact ⟨by rw [HE.out]; rfl, HB.out⟩
  · simp only [Bool.not_eq_true] at hs
    have HS := Lib.hid hs
    have HE : Hid (M.crCode R = 1) := by show _ = _; unfold M.crCode; rw [if_neg (by rw [hs]; exact Bool.false_ne_true)]
    clear h hs
    go_enter Tryz.func26, Tryz.ntmps26
    go_wp2_with fail
    refine (sSquare_b _ _ _ R _ false HS.out HA.out).mono ?_
    rintro e w' ⟨rfl, qd, rfl⟩
    go_wp2
    go_ret
    exact ⟨by rw [HE.out]; rfl, b_draws _ _⟩
theorem ownLit2 (w : World) (x y : Int) : Own (w.alloc (.cells #[.int .i64 x, .int .i64 y] 2)) w.heap.size (.slice (some ⟨w.heap.size, 0, none⟩) 2 2) [x, y] := World.ownsRow_lit w #[.int .i64 x, .int .i64 y] 2 (Nat.le_refl _) (by decide) rfl
theorem appendRowLit (w0 : World) {ops : Array Oper} {rest : List Oper} {o : Oper} {a : Act} {Q : Exit → Act → World → Prop} (hgd : o.guard = none) (s x : Operand)
    (ho : o.op = .call { callee := .builtin .append, args := #[s, x], argTypes := #[22, 22] }) (B : Nat) (v : Value) (L : List (List Int)) (p q : Int) (n : Nat) (hn : L.length = n) (hs : a.eval s = v) (hown : OwnM w0 B v L)
    (hx : a.eval x = .slice (some ⟨w0.heap.size + 1, 0, none⟩) 1 1) (hlen : L.length ≤ 2000000) (hB : B ≤ w0.heap.size)
    (h : ∀ b' c' w', OwnM w' B (.slice b' (n + 1) c') (L ++ [[p, q]]) → Below B w0 w' → wpList Tryz.prog ops Q rest (a.put o.dst (.slice b' (n + 1) c')) w') :
    wpList Tryz.prog ops Q (o :: rest) a ((w0.alloc (.cells #[.int .i64 p, .int .i64 q] 2)).alloc (.cells #[.slice (some ⟨w0.heap.size, 0, none⟩) 2 2] 32)) :=
  appendRow w0 (w0.alloc (.cells #[.int .i64 p, .int .i64 q] 2)) hgd s x ho B v (.slice (some ⟨w0.heap.size, 0, none⟩) 2 2) L [p, q] n hn hs hown (b_alloc _ _) (ownLit2 _ _ _) (by rw [hx]; simp) hlen hB fun b' c' w' h1 h2 _ => h b' c' w' h1 (((b_alloc _ _).mono hB).trans h2)
set_option maxRecDepth 100000 in
set_option maxHeartbeats 4000000 in
theorem sArcs (a : Option Addr) (n cap : Nat) (R : List (List Int)) (w : World) (h : Mat w a n R) (hs : M.sqB R = true) (hc : M.hasCyc (M.ent R) R.length = true) :
    Calls Tryz.prog 27 #[.slice a n cap] w fun e w' => ∃ b c, e = .returned (.slice b (M.arcsL R).length c) ∧ OwnM w' w.heap.size (.slice b (M.arcsL R).length c) (M.arcsL R) ∧ Below w.heap.size w w' := by
  have HA := Lib.hid h
  have hRn : R.length = n := h.1
  have HRn := Lib.hid hRn
  have HS := Lib.hid hs
  obtain ⟨hr, n1, n2, hsm⟩ := sq_parts h hs
  have HR := Lib.hid hr
  have HSm := Lib.hid hsm
  obtain ⟨hnear, hshm, hp⟩ := M.cr_t hs hc
  have hbc := M.best_cyc hs hc
  have hC : M.mean2 R (M.best2 R) = (M.bestR (M.ent R) n, true) := by
    unfold M.best2
    rw [hc, if_pos rfl]
    unfold M.mean2
    rw [if_pos hbc.1, hbc.2.1, hRn]
  have HCb : Hid (∀ i j, M.crB R j i = decide (M.times (M.crS R i j) (M.starF (M.crS R) n j i) = 0)) := fun i j => by unfold M.crB; rw [hRn]
  have hS : M.crS R = M.shf (M.ent R) (M.bestR (M.ent R) n).1 (M.bestR (M.ent R) n).2 := by
    funext i j; unfold M.crS; rw [hRn]
  rw [hRn] at hc hnear hp hshm
  obtain ⟨r, hrr⟩ : ∃ r, r = M.bestR (M.ent R) n := ⟨_, rfl⟩
  rw [← hrr] at hnear hS hC
  have HC := Lib.hid hC
  have HSe := Lib.hid hS
  have HNear := Lib.hid hnear
  have HP := Lib.hid hp
  have HSh := Lib.hid hshm
  have HSb : Hid (∀ i j, i < n → j < n → M.Big (M.crS R i j)) := fun i j hi hj => M.big_sm (hshm i j hi hj) (by omega)
  have HTb : Hid (∀ i j, i < n → j < n → M.Big (M.starF (M.crS R) n i j)) := fun i j hi hj => M.big_sm (M.star_sm n2 hshm hp hi hj) (by omega)
  have HLa : Hid (∀ j i, j ≤ n → i ≤ n → (M.arcsQ R j i).length ≤ 200) := fun j i hj hi => M.arcsQ_len R (by rw [hRn]; exact hj) (by rw [hRn]; exact hi) (by rw [hRn]; exact n2)
  obtain ⟨r1, r2⟩ := r
  clear h hs hr hsm hc hnear hp hrr hS hRn hshm hC hbc
  go_enter Tryz.func27, Tryz.ntmps27
  go_wp2_with fail
  refine (sBest _ _ _ R _ HA.out HS.out).mono ?_
  rintro e w1 ⟨b1, m1, c1, rfl, ho, hb⟩
  have HO1 := Lib.hid ho
  have HB1 := Lib.hid hb
  have HCp := Lib.hid (own_caps ho)
  clear ho hb
  go_wp2_with fail
  refine (sMean _ _ _ R _ _ _ (M.best2 R) _ (HA.out.below HB1.out) HS.out HO1.out.ints' HCp.out.1 HCp.out.2).mono ?_
  rintro e w2 ⟨rfl, hb⟩
  rw [HC.out]
  have HB2 := Lib.hid (HB1.out.trans (hb.mono HB1.out.size))
  clear hb HO1 HCp
  obtain ⟨wb, hwb⟩ : ∃ x, x = w2.alloc (rbox r1 r2) := ⟨_, rfl⟩
  have HX : Hid (Boxed w2 wb r1 r2) := by show Boxed _ _ _ _; rw [hwb]; exact boxed _ _ _
  have HBx := Lib.hid (HB2.out.trans (HX.out.below.mono HB2.out.size))
  go_wp2_with fail
  change Calls _ _ _ (w2.alloc (rbox r1 r2)) _
  rw [← hwb]
  clear hwb
  refine (sShift _ _ _ R r1 r2 _ (HA.out.below HBx.out) HR.out n1 n2 HSm.out HNear.out).mono ?_
  rintro e w3 ⟨b3, c3, rfl, ho, hb⟩
  rw [← HSe.out] at ho
  have HSq3 : Hid (Sq w3 b3 n (M.mk n n (M.crS R))) := ⟨ho.mat, rect_mk _ _ _, fun i j hi hj => by rw [M.ent_mk _ _ _ _ _ hi hj]; exact HSh.out i j hi hj, n1, n2⟩
  obtain ⟨g3, q0, L0, c0, x0, hgg, hgB, -⟩ := ho.at 0 0 (by omega) (by rw [(rect_mk n n _).2 0 (by omega)]; omega)
  subst hgg
  have HO3 := Lib.hid ho
  have HB3 := Lib.hid (HBx.out.trans (hb.mono HBx.out.size))
  clear ho hb hgB
  go_wp2_with fail
  refine (sStar _ _ _ (M.mk n n (M.crS R)) _ HSq3.out).mono ?_
  rintro e w4 ⟨b4, c4, rfl, ho, hb⟩
  have hnp : M.noPos (M.ent (M.mk n n (M.crS R))) n = true := by rw [M.noPos_mk]; exact HP.out
  rw [M.bm_star n2 HSq3.out.2.2.1 hnp, M.starM_mk] at ho
  rw [hnp]
  obtain ⟨g4, q0, L0, c0, x0, hgg, hgB, -⟩ := ho.at 0 0 (by omega) (by rw [(rect_mk n n _).2 0 (by omega)]; omega)
  subst hgg
  have HO4 := Lib.hid ho
  have HO34 := Lib.hid (HO3.out.below hb)
  have HB4 := Lib.hid (HB3.out.trans (hb.mono HB3.out.size))
  have hz4 := HB4.out.size
  clear ho hb hgB hnp HSq3 HO3
  go_wp2
  go_loopw [10, 11, 12] (fun o jv _ wr => ∃ (j : Nat) (b : Option Addr) (c : Nat), j ≤ n ∧ jv = .int .i64 j ∧ o = .slice b (M.arcsP R j).length c ∧ Hid (OwnM wr w4.heap.size (.slice b (M.arcsP R j).length c) (M.arcsP R j)) ∧ Hid (Below w4.heap.size w4 wr)) (fun _ jv _ _ => n - (intOf jv).toNat)
  case atStart => exact ⟨0, _, _, Nat.zero_le _, rfl, rfl, ownM_lit0 _ _ (Nat.le_refl _), b_alloc _ _⟩
  case round =>
    obtain ⟨j, b, c, hj, rfl, rfl, HO, HB⟩ := hrel
    by_cases hjl : j < n
    · have hji : (j : Int) < (n : Int) := by omega
      have e0 : M.arcsP R j = M.arcsQ R j 0 := (M.arcsQ_zero R j).symm
      have HO' : Hid (OwnM wr w4.heap.size (.slice b (M.arcsQ R j 0).length c) (M.arcsQ R j 0)) := by show OwnM _ _ _ _; rw [← e0]; exact HO.out
      rw [e0]
      clear e0 HO
      go_wp2
      go_loopw [10, 12] (fun o iv wr => ∃ (i : Nat) (b : Option Addr) (c : Nat), i ≤ n ∧ iv = .int .i64 i ∧ o = .slice b (M.arcsQ R j i).length c ∧ Hid (OwnM wr w4.heap.size (.slice b (M.arcsQ R j i).length c) (M.arcsQ R j i)) ∧ Hid (Below w4.heap.size w4 wr)) (fun _ iv _ => n - (intOf iv).toNat)
      case atStart => exact ⟨0, _, _, Nat.zero_le _, rfl, rfl, HO', HB⟩
      case round =>
        clear HO' HB
        obtain ⟨i, b, c, hi, rfl, rfl, HO, HB⟩ := hrel
        by_cases hil : i < n
        · have hii : (i : Int) < (n : Int) := by omega
          obtain ⟨gg, q, c5, -, -, hgg, -, s1, s2, -⟩ := (HO34.out.below HB.out).tri (rect_mk _ _ _) i j j hil hjl hjl
          injection hgg with hgg
          injection hgg with hgg
          subst hgg
          obtain ⟨gg, q2, c6, -, -, hgg, -, s3, s4, -⟩ := (HO4.out.below HB.out).tri (rect_mk _ _ _) j i i hjl hil hil
          injection hgg with hgg
          injection hgg with hgg
          subst hgg
          rw [M.ent_mk _ _ _ _ _ hil hjl] at s2
          rw [M.ent_mk _ _ _ _ _ hjl hil] at s4
          have hcb := HCb.out i j
          have hT : ∀ w : World, Calls Tryz.prog 55 #[.int .i64 (M.crS R i j), .int .i64 (M.starF (M.crS R) n j i)] w fun e w' => e = .returned (.int .i64 (M.times (M.crS R i j) (M.starF (M.crS R) n j i))) ∧ w = w' := fun w => sTimesB _ _ _ (HSb.out i j hil hjl) (HTb.out j i hjl hil)
          generalize M.crS R i j = x at *
          generalize M.starF (M.crS R) n j i = y at *
          generalize M.times x y = z at *
          have HT := Lib.hid hT
          have hlen := HLa.out j i hj hi
          have HNx := Lib.hid (M.arcsQ_next R j i)
          clear hT
          by_cases hz : z = 0
          · have hz2 : (z == 0) = true := by simp [hz]
            have HN : Hid (M.arcsQ R j (i + 1) = (M.arcsQ R j i) ++ [[(j : Int), (i : Int)]]) := by
              show _ = _; rw [HNx.out, hcb, decide_eq_true hz, if_pos rfl]
            clear hz hcb HNx
            go_wp2
            go_quiet ((go_at_call 55; exact q_one_s (HT.out _)))
            generalize M.arcsQ R j i = L at *
            generalize hwq : World.drewN wr _ = wq
            have HOq : Hid (OwnM wq w4.heap.size (.slice b L.length c) L) := by show OwnM _ _ _ _; rw [← hwq]; exact HO.out.below (b_draws _ _)
            have HBq : Hid (Below w4.heap.size w4 wq) := by show Below _ _ _; rw [← hwq]; exact HB.out.trans ((b_draws _ _).mono HB.out.size)
            clear hwq
            clear HO HB s1 s2 s3 s4
            go_wp2_with (at_builtin; refine appendRowLit _ rfl (.tmp 61) (.tmp 65) rfl w4.heap.size _ L (j : Int) (i : Int) _ rfl rfl HOq.out rfl (by omega) HBq.out.size ?_)
            intro b7 c7 w7 hO7 hb7
            have HO7 := Lib.hid hO7
            have HB7 := Lib.hid (HBq.out.trans hb7)
            clear hO7 hb7
            go_wp2
            go_roundw
            case rel => exact ⟨i + 1, b7, c7, by omega, by go_num, by rw [HN.out, List.length_append]; rfl, by show OwnM _ _ _ _; rw [HN.out, List.length_append]; exact HO7.out, HB7⟩
            case measure => simp [intOf]; omega
          · have hz2 : (z == 0) = false := by simpa using hz
            have HN : Hid (M.arcsQ R j (i + 1) = M.arcsQ R j i) := by
              show _ = _; rw [HNx.out, hcb, decide_eq_false hz]; simp
            clear hz hcb HNx hlen
            have HOd := fun q => Lib.hid (HO.out.below (b_draws wr q))
            have HBd := fun q => Lib.hid (HB.out.trans ((b_draws wr q).mono HB.out.size))
            go_wp2
            go_quiet ((go_at_call 55; exact q_one_s (HT.out _)))
            go_wp2
            go_roundw
            case rel => exact ⟨i + 1, b, c, by omega, by go_num, by rw [HN.out], by show OwnM _ _ _ _; rw [HN.out]; exact (HOd _).out, HBd _⟩
            case measure => simp [intOf]; omega
        · obtain rfl : i = n := by omega
          have HN : Hid (M.arcsQ R j i = M.arcsP R (j + 1)) := by show _ = _; rw [← M.arcsQ_end, HRn.out]
          have HO2 : Hid (OwnM wr w4.heap.size (.slice b (M.arcsP R (j + 1)).length c) (M.arcsP R (j + 1))) := by show OwnM _ _ _ _; rw [← HN.out]; exact HO.out
          rw [HN.out]
          clear HO
          go_wp2
          go_roundw
          case rel => exact ⟨j + 1, b, c, by omega, by go_num, rfl, HO2, HB⟩
          case measure => simp [intOf]; omega
    · obtain rfl : j = n := by omega
      have HN : Hid (M.arcsP R j = M.arcsL R) := by show _ = _; unfold M.arcsL; rw [HRn.out]
      have HO2 : Hid (OwnM wr w4.heap.size (.slice b (M.arcsL R).length c) (M.arcsL R)) := by show OwnM _ _ _ _; rw [← HN.out]; exact HO.out
      rw [HN.out]
      clear HO
      go_wp2
      go_ret
      exact ⟨b, c, rfl, HO2.out.mono HB4.out.size, HB4.out.trans (HB.out.mono HB4.out.size)⟩
end V
end Go.Proofs.YtlljnfljcdljaabGreat
