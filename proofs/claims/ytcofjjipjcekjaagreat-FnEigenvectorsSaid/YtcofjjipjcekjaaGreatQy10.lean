/- Texts laid together: Hv1, Clo4, Clo5, Fix1, Pot1, Egv, BstZ. -/
import Derived.Test.YtcofjjipjcekjaaGreatQy9
import Derived.Test.YtcofjjipjcekjaaGreatQy7
import Derived.Test.YtcofjjipjcekjaaGreatQy3
import Derived.Test.YtcofjjipjcekjaaGreatQy5
import Derived.Test.YtcofjjipjcekjaaGreatQy6
import Derived.Deep.RegionWith
import Derived.Deep.RegionHeld3
import Derived.Test.YtcofjjipjcekjaaGreatQy8
set_option linter.unusedSimpArgs false
set_option linter.unusedVariables false
set_option linter.unusedSectionVars false
namespace Go.Proofs.YtcofjjipjcekjaaGreat.V
open Go.RowKit

theorem OwnM.caps {w : World} {B n cap : Nat} {a : Option Addr} {R : List (List Int)} (h : OwnM w B (.slice a n cap) R) : n ≤ cap ∧ cap ≤ maxLen := by
  obtain ⟨V, h1, h2, _⟩ := h
  obtain ⟨a', c', hv, k1, k2, _⟩ := own_form h2
  injection hv with e1 e2 e3
  subst e2 e3
  exact ⟨k1, k2⟩
/-- One row of an owned matrix, as a list of its own. -/
theorem OwnM.row {w : World} {B n cap : Nat} {a : Option Addr} {R : List (List Int)} (h : OwnM w B (.slice a n cap) R) (i : Nat) (hi : i < n) :
    ∃ g ra rc, a = some ⟨g, 0, none⟩ ∧ w.cell? ⟨g, i, none⟩ = some (.slice ra (R.getD i []).length rc) ∧ Own w B (.slice ra (R.getD i []).length rc) (R.getD i []) := by
  have hl := h.len
  obtain ⟨V, h1, h2, h3, h4, h5⟩ := h
  obtain ⟨a', c', hv, hc, hm, hg⟩ := own_form h2
  injection hv with e1 e2 e3
  subst e1 e2 e3
  obtain ⟨g, rfl, hB, hlt⟩ := hg (by omega)
  have hr := h3 i (by omega)
  obtain ⟨ra, rc, hrv, _⟩ := own_form hr
  rw [hrv] at hr
  refine ⟨g, ra, rc, rfl, ?_, hr⟩
  rw [World.ownsRow.cellAt h2 i (by omega), ← hrv]
  simp [show i < V.length by omega]
theorem ownM_lit1 (w : World) (B : Nat) (hB : B ≤ w.heap.size) {rv : Value} {l : List Int} (ho : Own w B rv l) : OwnM (w.alloc (.cells #[rv] 26)) B (.slice (some ⟨w.heap.size, 0, none⟩) 1 1) [l] := by
  refine ⟨[rv], rfl, World.ownsRow_lit w #[rv] 1 hB (by decide) rfl, fun i hi => ?_, fun i hi k hk => ?_, fun i j hi hj hne => ?_⟩
  · obtain rfl : i = 0 := by simp at hi; omega
    exact ho.below (b_alloc w _)
  · obtain rfl : i = 0 := by simp at hi; omega
    have := (own_lt ho hk).2
    intro e
    simp only [Value.ownBlock, Option.some.injEq] at e
    omega
  · simp at hi hj; omega
/-- A part of one row. -/
theorem mat_sub {w : World} {b off n : Nat} {R : List (List Int)} (h : Mat w (some ⟨b, off, none⟩) n R) (k : Nat) (hk : k < n) : Mat w (some ⟨b, off + k, none⟩) 1 [R.getD k []] := by
  obtain ⟨h1, h2, h3⟩ := h
  refine ⟨rfl, by decide, .inr ?_⟩
  rcases h3 with h3 | ⟨b', off', e, hlt, hc⟩
  · omega
  · injection e with e
    injection e with e1 e2
    subst e1 e2
    refine ⟨b, off + k, rfl, hlt, fun i hi => ?_⟩
    obtain rfl : i = 0 := by omega
    obtain ⟨ra, rc, hr, hI⟩ := hc k hk
    exact ⟨ra, rc, hr, hI⟩
/-- The weights to a node, one row for each number of arcs. -/
def M.wtM (A : Nat → Nat → Int) (n t k : Nat) : List (List Int) := M.mk k n fun s j => M.cpw A n s t j
theorem M.wt_row (A : Nat → Nat → Int) (n t k s : Nat) (h : s < k) : (M.wtM A n t k).getD s [] = (List.range n).map fun j => M.cpw A n s t j := M.mk_row _ _ _ _ h
theorem M.wt_next (R : List (List Int)) (n t s : Nat) : (M.mk 1 n (fun i j => M.dot [(List.range n).map fun j => M.cpw (M.ent R) n s t j] R i j n)).getD 0 [] = (List.range n).map fun j => M.cpw (M.ent R) n (s + 1) t j := by
  rw [M.mk_row _ _ _ _ (by omega)]
  refine List.map_congr_left fun j _ => ?_
  unfold M.dot
  refine M.sumN_congr fun u hu => ?_
  congr 1
  unfold M.ent
  simp [hu]


end Go.Proofs.YtcofjjipjcekjaaGreat.V

namespace Go.Proofs.YtcofjjipjcekjaaGreat.V
open Go.RowKit

set_option maxRecDepth 100000 in
set_option maxHeartbeats 400000 in
theorem sSame (a : Option Addr) (n cap : Nat) (l : List Int) (a' : Option Addr) (n' cap' : Nat) (l' : List Int) (w : World) (h : Ints .i64 w a n l) (h' : Ints .i64 w a' n' l') :
    Calls Tryz.prog 95 #[.slice a n cap, .slice a' n' cap'] w fun e w' => ∃ b, e = .returned (.bool b) ∧ Hid (b = decide (l = l')) ∧ ∃ q, w' = w.drewN q := by
  have HI := Lib.hid h
  have HI' := Lib.hid h'
  have HL := Lib.hid h.1
  have HL' := Lib.hid h'.1
  have hm := h.2.1
  unfold maxLen at hm
  clear h h'
  by_cases hn : n = n'
  · subst hn
    have hD0 : Hid (∀ i, i < 0 → l.getD i 0 = l'.getD i 0) := fun i hi => absurd hi (Nat.not_lt_zero i)
    go_enter Tryz.func95, Tryz.ntmps95
    go_wp2
    go_loopw [5] (fun i wr => ∃ k : Nat, k ≤ n ∧ i = .int .i64 k ∧ Hid (∀ i, i < k → l.getD i 0 = l'.getD i 0) ∧ ∃ q, wr = w.drewN q) (fun i _ => n - (intOf i).toNat)
    case atStart => exact ⟨0, Nat.zero_le _, rfl, hD0, 0, rfl⟩
    case round =>
      obtain ⟨k, hk, rfl, HD, q2, rfl⟩ := hrel
      clear hD0
      by_cases hlt : k < n
      · have hki : (k : Int) < (n : Int) := by omega
        obtain ⟨b, off, x, rfl, hd, hx, c1⟩ := HI.out.at k hlt
        obtain ⟨b', off', y, rfl, hd', hy, c2⟩ := HI'.out.at k hlt
        have HX := Lib.hid hx
        have HY := Lib.hid hy
        clear hx hy hd hd'
        by_cases e : x = y
        · have HD2 : Hid (∀ i, i < k + 1 → l.getD i 0 = l'.getD i 0) := fun i hi => by
            by_cases ei : i = k
            · subst ei; rw [← HX.out, ← HY.out, e]
            · exact HD.out i (by omega)
          subst e
          go_wp2
          go_quiet (fail)
          go_wp2
          go_roundw
          case rel => exact ⟨k + 1, by omega, by go_num, HD2, _, rfl⟩
          case measure => simp [intOf]; omega
        · have e2 : (x == y) = false := by simpa using e
          have e3 : (x != y) = true := by simpa using e
          have HF : Hid (l ≠ l') := fun he => e (by rw [HX.out, HY.out, he])
          go_wp2
          go_quiet (fail)
          go_wp2
          go_ret
          exact ⟨_, rfl, (decide_eq_false HF.out).symm, _, World.drewN_drewN _ _ _⟩
      · obtain rfl : k = n := by omega
        have HF : Hid (l = l') := by
          show l = l'
          apply List.ext_getElem
          · rw [HL.out, HL'.out]
          · intro i h1 h2
            have := HD.out i (by have := HL.out; omega)
            simpa [h1, h2] using this
        go_wp2
        go_ret
        exact ⟨_, rfl, (decide_eq_true HF.out).symm, _, rfl⟩
  · have e2 : (n == n') = false := by simpa using hn
    have e3 : ((n : Int) != (n' : Int)) = true := by simp; omega
    have HF : Hid (l ≠ l') := fun he => hn (by rw [← HL.out, ← HL'.out, he])
    go_enter Tryz.func95, Tryz.ntmps95
    go_wp2
    go_ret
    exact ⟨_, rfl, (decide_eq_false HF.out).symm, 0, rfl⟩

set_option maxRecDepth 100000 in
set_option maxHeartbeats 1000000 in
theorem sSameM (a : Option Addr) (n cap : Nat) (R : List (List Int)) (a' : Option Addr) (cap' : Nat) (R' : List (List Int)) (w : World) (h : Mat w a n R) (h' : Mat w a' n R') (hn : n ≤ 1000) :
    Calls Tryz.prog 66 #[.slice a n cap, .slice a' n cap'] w fun e w' => e = .returned (.bool (decide (R = R'))) ∧ ∃ q, w' = w.drewN q := by
  have HA := Lib.hid h
  have HA' := Lib.hid h'
  have HL := Lib.hid h.1
  have HL' := Lib.hid h'.1
  clear h h'
  have hD0 : Hid (∀ i, i < 0 → R.getD i [] = R'.getD i []) := fun i hi => absurd hi (Nat.not_lt_zero i)
  go_enter Tryz.func66, Tryz.ntmps66
  go_wp2
  go_loopw [5] (fun i wr => ∃ k : Nat, k ≤ n ∧ i = .int .i64 k ∧ Hid (∀ i, i < k → R.getD i [] = R'.getD i []) ∧ ∃ q, wr = w.drewN q) (fun i _ => n - (intOf i).toNat)
  case atStart => exact ⟨0, Nat.zero_le _, rfl, hD0, 0, rfl⟩
  case round =>
    obtain ⟨k, hk, rfl, HD, q2, rfl⟩ := hrel
    clear hD0
    by_cases hlt : k < n
    · have hki : (k : Int) < (n : Int) := by omega
      obtain ⟨b, off, ra, rc, L, l, rfl, hb, hl, hc, hI⟩ := HA.out.at k hlt
      obtain ⟨b', off', ra', rc', L', l', rfl, hb', hl', hc', hI'⟩ := HA'.out.at k hlt
      have HI := Lib.hid hI
      have HI' := Lib.hid hI'
      have HX := Lib.hid hl
      have HY := Lib.hid hl'
      obtain ⟨z, hz⟩ : ∃ z, z = decide (l = l') := ⟨_, rfl⟩
      have HZ := Lib.hid hz
      have HC : ∀ q3, Calls Tryz.prog 95 #[.slice ra L rc, .slice ra' L' rc'] (w.drewN q3) fun e w' => e = .returned (.bool z) ∧ ∃ q, w' = (w.drewN q3).drewN q := by
        intro q3
        refine (sSame _ _ _ _ _ _ _ _ _ (HI.out.below (b_draws w _)) (HI'.out.below (b_draws w _))).mono ?_
        rintro e w' ⟨b, rfl, hb, hq⟩
        exact ⟨by rw [HZ.out, hb.out], hq⟩
      clear hl hl' hI hI' hz hb hb'
      cases z with
      | true =>
        have HD2 : Hid (∀ i, i < k + 1 → R.getD i [] = R'.getD i []) := fun i hi => by
          by_cases ei : i = k
          · subst ei; rw [← HX.out, ← HY.out]; exact of_decide_eq_true HZ.out.symm
          · exact HD.out i (by omega)
        go_wp2
        go_quiet ((go_at_call 95; exact q_more (HC _)))
        go_wp2
        go_roundw
        case rel => exact ⟨k + 1, by omega, by go_num, HD2, _, rfl⟩
        case measure => simp [intOf]; omega
      | false =>
        have HF : Hid (R ≠ R') := fun he => of_decide_eq_false HZ.out.symm (by rw [HX.out, HY.out, he])
        go_wp2
        go_quiet ((go_at_call 95; exact q_more (HC _)))
        go_wp2
        go_ret
        exact ⟨retB (decide_eq_false HF.out).symm, _, World.drewN_drewN _ _ _⟩
    · obtain rfl : k = n := by omega
      have HF : Hid (R = R') := by
        show R = R'
        apply List.ext_getElem
        · rw [HL.out, HL'.out]
        · intro i h1 h2
          have := HD.out i (by have := HL.out; omega)
          simpa [h1, h2] using this
      go_wp2
      go_ret
      exact ⟨retB (decide_eq_true HF.out).symm, _, rfl⟩

set_option maxRecDepth 100000 in
set_option maxHeartbeats 1000000 in
theorem sStar (a : Option Addr) (n cap : Nat) (R : List (List Int)) (w : World) (h : Sq w a n R) :
    Calls Tryz.prog 30 #[.slice a n cap] w fun e w' => ∃ b c, e = .returned (.tuple #[.slice b n c, .bool (M.noPos (M.ent R) n)]) ∧ OwnM w' w.heap.size (.slice b n c) (M.bmM R n n) ∧ Below w.heap.size w w' := by
  have HS := Lib.hid h
  obtain ⟨n1, n2⟩ := h.2.2.2
  have HSm : Hid (∀ i j, i < n → j < n → M.Sm 1000001000000 (M.ent R i j)) := h.2.2.1
  have HRB : Hid (∀ i j, i < n → j < n → M.Big (M.ent R i j)) := fun i j hi hj => M.big_sm (HSm.out i j hi hj) (by omega)
  have HBB : Hid (∀ t, t ≤ n → ∀ i j, i < n → j < n → M.Big (M.ent (M.bmM R n t) i j)) := fun t ht i j hi hj => M.bm_big HSm.out (by omega) hi hj
  clear h
  go_enter Tryz.func30, Tryz.ntmps30
  go_wp2_with (go_at_call 63; refine (sUnit n _ (by omega)).mono ?_; rintro e w1 ⟨a2, cap2, rfl, hO, hb⟩; rw [M.bm_zero R] at hO; have HO0 := Lib.hid hO; have HB0 := Lib.hid hb; clear hO hb)
  go_loopw [5, 6] (fun o i wr => ∃ (k : Nat) (b : Option Addr) (c : Nat), k ≤ n ∧ i = .int .i64 k ∧ o = .slice b n c ∧ OwnM wr w.heap.size (.slice b n c) (M.bmM R n k) ∧ Below w.heap.size w wr) (fun _ i _ => n - (intOf i).toNat)
  case atStart => exact ⟨0, _, _, Nat.zero_le _, rfl, rfl, HO0.out, HB0.out⟩
  case round =>
    obtain ⟨k, b, c, hk, rfl, rfl, hO, hb⟩ := hrel
    obtain ⟨wo, rfl⟩ : ∃ x, x = wr := ⟨_, rfl⟩
    have HO := Lib.hid hO
    have HB := Lib.hid hb
    clear hO hb HO0 HB0
    by_cases hlt : k < n
    · have hki : (k : Int) < (n : Int) := by omega
      go_wp2_with fail
      refine (sUnit n _ (by omega)).mono ?_
      rintro e w2 ⟨a3, cap3, rfl, hU, hb2⟩
      have HU2 := Lib.hid hU
      have HB2 := Lib.hid (bnext HB.out hb2)
      have HO2 := Lib.hid (HO.out.below hb2)
      clear hU hb2 HO HB
      go_wp2_with fail
      refine (sMultiplyB _ _ _ n R _ _ n (M.bmM R n k) _ (HS.out.1.below HB2.out) HO2.out.mat HS.out.2.1 (rect_mk _ _ _) HRB.out (HBB.out k (by omega)) n1 n2 n1 n2 n1 n2).mono ?_
      rintro e w3 ⟨a4, cap4, rfl, hP, hb3⟩
      have HP3 := Lib.hid hP
      have HB3 := Lib.hid (bnext HB2.out hb3)
      have HU3 := Lib.hid (HU2.out.below hb3)
      clear hP hb3 HO2 HU2
      go_wp2_with fail
      refine (sAddB _ _ _ _ _ _ _ n _ HU3.out.mat HP3.out.mat (rect_mk _ _ _) (rect_mk _ _ _) n1 n2 n1 n2).mono ?_
      rintro e w4 ⟨a5, cap5, rfl, hN, hb4⟩
      rw [M.bm_step] at hN
      have HN4 := Lib.hid (hN.mono HB3.out.size)
      have HB4 := Lib.hid (bnext HB3.out hb4)
      clear hN hb4 HU3 HP3
      go_wp2
      go_roundw
      case rel => exact ⟨k + 1, _, _, by omega, by go_num, rfl, HN4.out, HB4.out⟩
      case measure => simp [intOf]; omega
    · obtain rfl : k = n := by omega
      go_wp2_with fail
      refine (sUnit k _ (by omega)).mono ?_
      rintro e w2 ⟨a3, cap3, rfl, hU, hb2⟩
      have HU2 := Lib.hid hU
      have HB2 := Lib.hid (bnext HB.out hb2)
      have HO2 := Lib.hid (HO.out.below hb2)
      clear hU hb2 HO HB
      go_wp2_with fail
      refine (sMultiplyB _ _ _ k R _ _ k (M.bmM R k k) _ (HS.out.1.below HB2.out) HO2.out.mat HS.out.2.1 (rect_mk _ _ _) HRB.out (HBB.out k (by omega)) n1 n2 n1 n2 n1 n2).mono ?_
      rintro e w3 ⟨a4, cap4, rfl, hP, hb3⟩
      have HP3 := Lib.hid hP
      have HB3 := Lib.hid (bnext HB2.out hb3)
      have HU3 := Lib.hid (HU2.out.below hb3)
      have HO3 := Lib.hid (HO2.out.below hb3)
      clear hP hb3 HO2 HU2
      go_wp2_with fail
      refine (sAddB _ _ _ _ _ _ _ k _ HU3.out.mat HP3.out.mat (rect_mk _ _ _) (rect_mk _ _ _) n1 n2 n1 n2).mono ?_
      rintro e w4 ⟨a5, cap5, rfl, hN, hb4⟩
      rw [M.bm_step] at hN
      have HN4 := Lib.hid hN
      have HB4 := Lib.hid (bnext HB3.out hb4)
      have HO4 := Lib.hid (HO3.out.below hb4)
      clear hN hb4 HU3 HP3 HO3
      go_wp2_with fail
      refine (sSameM _ _ _ _ _ _ _ _ HN4.out.mat HO4.out.mat (by omega)).mono ?_
      rintro e w5 ⟨rfl, q, rfl⟩
      rw [M.bm_same n2 HSm.out]
      go_wp2
      go_ret2
      exact ⟨_, _, rfl, HO4.out.below (b_draws _ _), below_drewN HB4.out _⟩
end Go.Proofs.YtcofjjipjcekjaaGreat.V

namespace Go.Proofs.YtcofjjipjcekjaaGreat.V
open Go.RowKit

set_option maxRecDepth 100000 in
set_option maxHeartbeats 400000 in
theorem sResult (a : Option Addr) (n cap : Nat) (R : List (List Int)) (b : Bool) (hb : M.isMat R = b) (w : World) (h : Mat w a n R) :
    Calls Tryz.prog 42 #[.slice a n cap] w fun e w' => e = .returned (if b then .tuple #[.slice a n cap, .int .i64 0] else .tuple #[.slice none 0 0, .int .i64 3]) ∧ ∃ q, w' = w.drewN q := by
  have HA := Lib.hid h
  have HB := Lib.hid hb
  clear h hb
  cases b with
  | true =>
    go_enter Tryz.func42, Tryz.ntmps42
    go_wp2_with (go_at_call 75; refine (sIsMatrix_b _ _ _ R _ true HB.out HA.out).mono ?_; rintro e w' ⟨rfl, q, rfl⟩)
    go_ret2
    exact ⟨rfl, _, rfl⟩
  | false =>
    go_enter Tryz.func42, Tryz.ntmps42
    go_wp2_with (go_at_call 75; refine (sIsMatrix_b _ _ _ R _ false HB.out HA.out).mono ?_; rintro e w' ⟨rfl, q, rfl⟩)
    go_ret2
    exact ⟨rfl, _, rfl⟩


end Go.Proofs.YtcofjjipjcekjaaGreat.V

namespace Go.Proofs.YtcofjjipjcekjaaGreat.V
open Go.RowKit

/-- What the least fixed point of a matrix and a vector that fit is. -/
def M.lfpL (R : List (List Int)) (n : Nat) (l : List Int) : List Int × Int := if M.noPos (M.ent R) n then (if M.isVec (M.applyM (M.starM R n) l) then (M.applyM (M.starM R n) l, 0) else ([], 3)) else ([], 5)

end Go.Proofs.YtcofjjipjcekjaaGreat.V

namespace Go.Proofs.YtcofjjipjcekjaaGreat
namespace M
theorem noPos_mk (n : Nat) (f : Nat → Nat → Int) : noPos (ent (mk n n f)) n = noPos f n := noPos_congr fun _ _ hi hj => ent_mk _ _ _ _ _ hi hj
theorem starM_mk (n : Nat) (f : Nat → Nat → Int) : starM (mk n n f) n = mk n n (starF f n) := mk_congr fun _ hi _ hj => starF_congr (fun _ _ hi hj => ent_mk _ _ _ _ _ hi hj) hi hj
def finV (x : Int) : Bool := isFin x
theorem zeros_len (n : Nat) : (zerosL n).length = n := by simp [zerosL]
theorem zeros_made (n : Nat) : ((List.range n).map fun _ => (0 : Int)) = zerosL n := by
  unfold zerosL
  apply List.ext_getElem
  · simp
  · intro i h1 h2; simp
end M
namespace V
open Go.RowKit
theorem sq_shift {w : World} {a : Option Addr} {n : Nat} {f : Nat → Nat → Int} (h : Mat w a n (M.mk n n f)) (hf : ∀ i j, i < n → j < n → M.Sm 1000001000000 (f i j)) (n1 : 1 ≤ n) (n2 : n ≤ 10) : Sq w a n (M.mk n n f) :=
  ⟨h, rect_mk _ _ _, fun i j hi hj => by rw [M.ent_mk _ _ _ _ _ hi hj]; exact hf i j hi hj, n1, n2⟩
set_option maxRecDepth 100000 in
set_option maxHeartbeats 400000 in
theorem sAllF (a : Option Addr) (n cap : Nat) (l : List Int) (w : World) (h : Ints .i64 w a n l) :
    Calls Tryz.prog 69 #[.slice a n cap, .bool true] w fun e w' => e = .returned (.bool (l.all M.isFin)) ∧ w = w' := by
  obtain ⟨hl, hm, hr⟩ := h
  unfold maxLen at hm
  have HL := Lib.hid hl
  clear hl
  go_enter Tryz.func69, Tryz.ntmps69
  go_wp2
  go_loop [5] (fun i => ∃ k : Nat, k ≤ n ∧ i = .int .i64 k ∧ Hid ((l.take k).all M.isFin = true)) (fun i => n - (intOf i).toNat)
  case atStart => exact ⟨0, Nat.zero_le _, rfl, rfl⟩
  case round =>
    obtain ⟨k, hk, rfl, HA⟩ := hrel
    by_cases hlt : k < n
    · rcases hr with h0 | ⟨b, off, rfl, hbl, hc⟩
      · omega
      · have hck := hc k hlt
        have hsn := M.take_snoc l k (by have := HL.out; omega)
        obtain ⟨x, hx⟩ : ∃ x, x = l.getD k 0 := ⟨_, rfl⟩
        rw [← hx] at hck hsn
        have HX := Lib.hid hx
        have HS := Lib.hid hsn
        clear hc hx hsn
        by_cases hb : x = -1000000000000000
        · have HF : Hid (l.all M.isFin = false) := M.all_false _ l k (by have := HL.out; omega) (by rw [← HX.out, hb]; rfl)
          have hv : M.isVal x = true := by rw [hb]; exact M.bot_val
          subst hb
          go_wp2_with (first | (go_at_call 97; refine (sIsValue _ _).mono ?_; rintro e w' ⟨rfl, rfl⟩))
          go_ret
          exact ⟨retB (by rw [HF.out]), rfl⟩
        · have hb2 : (x == -1000000000000000) = false := by simpa using hb
          have hvf : M.isVal x = M.isFin x := by unfold M.isVal; rw [decide_eq_false hb, Bool.false_or]
          by_cases hv : M.isVal x = true
          · have HA2 : Hid ((l.take (k + 1)).all M.isFin = true) := by show _ = _; rw [HS.out, M.all_snoc, HA.out, ← hvf, hv]; rfl
            clear hvf
            go_wp2_with (first | (go_at_call 97; refine (sIsValue _ _).mono ?_; rintro e w' ⟨rfl, rfl⟩))
            go_round
            case rel => exact ⟨k + 1, by omega, by go_num, HA2⟩
            case measure => simp [intOf]; omega
          · simp only [Bool.not_eq_true] at hv
            have HF : Hid (l.all M.isFin = false) := M.all_false _ l k (by have := HL.out; omega) (by rw [← HX.out, ← hvf, hv])
            clear hvf
            go_wp2_with (first | (go_at_call 97; refine (sIsValue _ _).mono ?_; rintro e w' ⟨rfl, rfl⟩))
            go_ret
            exact ⟨retB (by rw [HF.out]), rfl⟩
    · have hkn : k = n := by omega
      subst hkn
      have HT : Hid (l.take k = l) := M.take_all l k (by have := HL.out; omega)
      clear hr
      go_wp2
      go_ret
      exact ⟨retB (by rw [← HT.out, HA.out]), rfl⟩
theorem sAllF_b (a : Option Addr) (n cap : Nat) (l : List Int) (b : Bool) (hb : l.all M.isFin = b) (w : World) (h : Ints .i64 w a n l) :
    Calls Tryz.prog 69 #[.slice a n cap, .bool true] w fun e w' => e = .returned (.bool b) ∧ w = w' := by subst hb; exact sAllF a n cap l w h
/-- The plain answer, by the shifted matrix. -/
theorem pot_lfp {R : List (List Int)} {n : Nat} {num den : Int} (hn : R.length = n) (hs : M.sqB R = true) (hr : M.isRat num den = true) : M.potRes R num den = M.lfpL (M.mk n n (M.shf (M.ent R) num den)) n (M.zerosL n) := by
  subst hn
  unfold M.potRes M.lfpL
  rw [hs, hr, M.noPos_mk]
  rfl
end V
end Go.Proofs.YtcofjjipjcekjaaGreat

namespace Go.Proofs.YtcofjjipjcekjaaGreat
namespace M
def eigL (R : List (List Int)) : List Int := (List.range R.length).map fun i => starF (shf (ent R) (bestR (ent R) R.length).1 (bestR (ent R) R.length).2) R.length i (vx (bestCyc R) 0)
def eigOk (R : List (List Int)) : List Int × (Int × Int) × Int := if isVec (eigL R) then (eigL R, bestR (ent R) R.length, 0) else ([], (0, 0), 3)
def eigRes (R : List (List Int)) : List Int × (Int × Int) × Int := if (cycMeanRes R).2 = 0 then eigOk R else ([], (0, 0), (cycMeanRes R).2)
/-- What is at hand where there is a cycle mean. -/
theorem eig_t {R : List (List Int)} (h : (cycMeanRes R).2 = 0) : ∃ (c : Nat) (L : List Int), sqB R = true ∧ hasCyc (ent R) R.length = true ∧ Near (bestR (ent R) R.length).1 (bestR (ent R) R.length).2 ∧ noPos (shf (ent R) (bestR (ent R) R.length).1 (bestR (ent R) R.length).2) R.length = true ∧ bestCyc R = (c : Int) :: L ∧ c < R.length ∧ vx (bestCyc R) 0 = c ∧
    overL (bestF (shf (ent R) (bestR (ent R) R.length).1 (bestR (ent R) R.length).2) R.length) R.length (-1) = bestCyc R := by
  obtain ⟨h1, h2, h3, h4⟩ := cyc_t h
  obtain ⟨n1, n2, hA⟩ := sq_sm h1
  obtain ⟨hbest, hnear, -⟩ := bestR_best n2 hA h2
  have hp := noPos_of_walk n2 hA hnear fun v s w _ _ h3 h4 _ h6 => hbest.2.2.1 v s w h3 h4 h6
  obtain ⟨q1, -, q3, q4⟩ := best_cyc h1 h2
  have hn : nodesB R.length (bestCyc R) = true := by
    unfold cycB at q1
    rw [Bool.and_eq_true, Bool.and_eq_true, Bool.and_eq_true] at q1
    exact q1.1.1.2
  have hlt := vx_lt hn (k := 0) (by omega)
  have hat := nodesB_at hn (k := 0) (by omega)
  cases e : bestCyc R with
  | nil => rw [e] at q3; simp at q3
  | cons y L =>
    rw [e] at hlt hat
    have hy : vx (y :: L) 0 = y.toNat := rfl
    have hy0 : (y :: L).getD 0 0 = y := rfl
    refine ⟨y.toNat, L, h1, h2, hnear, hp, ?_, by rw [hy] at hlt; exact hlt, hy, by rw [best_over n2 (sh_sm hA hnear) hp, ← e]; rfl⟩
    have : (0 : Int) ≤ y := by rw [hy0] at hat; omega
    congr 1
    omega
theorem eig_row {R : List (List Int)} {c : Nat} (hc : c < R.length) (hv : vx (bestCyc R) 0 = c) :
    (stcM (shf (ent R) (bestR (ent R) R.length).1 (bestR (ent R) R.length).2) R.length).getD c [] = eigL R := by
  unfold stcM
  rw [mk_row _ _ _ _ hc]
  unfold eigL
  refine List.map_congr_left fun i hi => ?_
  rw [ent_mk _ _ _ _ _ (List.mem_range.1 hi) hc, hv]
theorem eigRes_len (R : List (List Int)) : (eigRes R).1.length ≤ 10 := by
  unfold eigRes eigOk
  split
  · split
    · next h => exact (isVec_t h).2.1
    · simp
  · simp
theorem eigL_len (R : List (List Int)) : (eigL R).length = R.length := by unfold eigL; simp
end M
namespace V
set_option maxRecDepth 100000
open Go.RowKit
def EPost (r : List Int × (Int × Int) × Int) (w : World) (e : Ending) (w' : World) : Prop :=
  ∃ b m c, e = .returned (.tuple #[.slice b m c, .agg #[.int .i64 r.2.1.1, .int .i64 r.2.1.2], .int .i64 r.2.2]) ∧ Own w' w.heap.size (.slice b m c) r.1 ∧ Below w.heap.size w w'
theorem EPost.nil {r : List Int × (Int × Int) × Int} {c : Int} {w w' : World} (hr : r = ([], (0, 0), c)) (hb : Below w.heap.size w w') : EPost r w (.returned (.tuple #[.slice none 0 0, .agg #[.int .i64 0, .int .i64 0], .int .i64 c])) w' := by
  subst hr; exact ⟨none, 0, 0, rfl, own_nil _ _, hb⟩
theorem keep2' {w0 w1 w2 : World} {b i : Nat} {x : Value} (hb0 : b < w0.heap.size) (h : w1.cell? ⟨b, i, none⟩ = some x ∧ Below w0.heap.size w0 w1) (hb : Below w1.heap.size w1 w2) : w2.cell? ⟨b, i, none⟩ = some x ∧ Below w0.heap.size w0 w2 := by
  have hs := h.2.size
  exact ⟨(hb.cell (p := ⟨b, i, none⟩) (by show b < _; omega)).trans h.1, h.2.trans (hb.mono hs)⟩
theorem keep2 {w0 w1 w2 : World} {b i : Nat} {x : Value} (hb0 : b < w0.heap.size) (h : w1.cell? ⟨b, i, none⟩ = some x ∧ Below w0.heap.size w0 w1) (hb : Below w1.heap.size w1 w2) : w2.cell? ⟨b, i, none⟩ = some x ∧ Below w0.heap.size w0 w2 := by
  have hs := h.2.size
  exact ⟨(hb.cell (p := ⟨b, i, none⟩) (by show b < _; omega)).trans h.1, h.2.trans (hb.mono hs)⟩
set_option maxRecDepth 100000 in
set_option maxHeartbeats 4000000 in
theorem eigenVector (a : Option Addr) (n cap : Nat) (R : List (List Int)) (w : World) (h : Mat w a n R) :
    Calls Tryz.prog 6 #[.slice a n cap] w (EPost (M.eigRes R) w) := by
  have HA := Lib.hid h
  have hRn : R.length = n := h.1
  have HRn := Lib.hid hRn
  have HB0 : Hid (Below w.heap.size w (w.alloc (.cells #[.int .i64 0, .int .i64 0] 28))) := b_alloc _ _
  by_cases hc : (M.cycMeanRes R).2 = 0
  · obtain ⟨c, L, hs, hcyc, hnear, hp, hq, hcl, hvx, hov⟩ := M.eig_t hc
    have hE : M.eigRes R = M.eigOk R := by unfold M.eigRes; rw [if_pos hc]
    have hcm := (M.cyc_t hc).2.2.2
    have hrow := M.eig_row hcl hvx
    rw [hRn] at hcyc hnear hp hcl hov hcm hrow
    obtain ⟨hr, n1, n2, hsm⟩ := sq_parts h hs
    have HR := Lib.hid hr
    have HSm := Lib.hid hsm
    have HQ := Lib.hid (sq_of h hs)
    obtain ⟨r, hrr⟩ : ∃ r, r = M.bestR (M.ent R) n := ⟨_, rfl⟩
    have hOk : M.eigOk R = if M.isVec (M.eigL R) then (M.eigL R, r, 0) else ([], (0, 0), 3) := by unfold M.eigOk; rw [hRn, hrr]
    rw [← hrr] at hnear hp hov hcm hrow
    have HNear := Lib.hid hnear
    have HP := Lib.hid hp
    have HOv := Lib.hid hov
    have HCm := Lib.hid hcm
    have HRow := Lib.hid hrow
    have HQq := Lib.hid hq
    obtain ⟨r1, r2⟩ := r
    have HBm : Hid (∀ i j, i < n → j < n → M.Sm 1000001000000 (M.bestF (M.shf (M.ent R) r1 r2) n i j)) := fun i j hi hj => by
      unfold M.bestF
      split
      · exact M.sh_sm HSm.out HNear.out i j hi hj
      · exact .inl rfl
    obtain ⟨l, hl⟩ : ∃ l, l = M.eigL R := ⟨_, rfl⟩
    obtain ⟨bv, hbv⟩ : ∃ b, b = M.isVec l := ⟨_, rfl⟩
    have HV := Lib.hid hbv.symm
    have hll : l.length = n := by rw [hl, M.eigL_len, hRn]
    have HLl := Lib.hid hll
    have HE : Hid (M.eigRes R = if bv then (l, (r1, r2), 0) else ([], (0, 0), 3)) := by show _ = _; rw [hE, hOk, ← hl, ← hbv]
    rw [← hl] at HRow
    have hci : (c : Int) < (n : Int) := by omega
    clear hRn h hc hs hcyc hnear hp hq hvx hov hE hcm hrow hr hsm hrr hOk hl hbv hll
    go_enter Tryz.func6, Tryz.ntmps6
    go_wp2_with fail
    refine (cycleMean _ _ _ R _ (HA.out.below HB0.out)).mono ?_
    rintro e w1 ⟨rfl, hb⟩
    rw [HCm.out]
    have HB1 := Lib.hid hb
    clear hb
    obtain ⟨wb, hwb⟩ : ∃ x, x = w1.alloc (rbox r1 r2) := ⟨_, rfl⟩
    have HX : Hid (Boxed w1 wb r1 r2) := by show Boxed _ _ _ _; rw [hwb]; exact boxed _ _ _
    have HBx := Lib.hid (HB1.out.trans (HX.out.below.mono HB1.out.size))
    have HBy := Lib.hid (HB0.out.trans (HBx.out.mono HB0.out.size))
    go_wp2_with fail
    change Calls _ _ _ (w1.alloc (rbox r1 r2)) _
    rw [← hwb]
    clear hwb
    refine (bestArcs _ _ _ R r1 r2 _ (HA.out.below HBy.out) HR.out n1 n2 HSm.out HNear.out HP.out).mono ?_
    rintro e w3 ⟨b3, c3, rfl, ho, hb⟩
    have HSq3 : Hid (Sq w3 b3 n (M.mk n n (M.bestF (M.shf (M.ent R) r1 r2) n))) := ⟨ho.mat, rect_mk _ _ _, fun i j hi hj => by rw [M.ent_mk _ _ _ _ _ hi hj]; exact HBm.out i j hi hj, n1, n2⟩
    have HB3 := Lib.hid hb
    clear ho hb
    go_wp2_with fail
    refine (smallestCycle0 _ _ _ (M.mk n n (M.bestF (M.shf (M.ent R) r1 r2) n)) _ HSq3.out).mono ?_
    rintro e w4 ⟨b4, n4, c4, rfl, ho, hb⟩
    rw [M.over_congr (A := M.bestF (M.shf (M.ent R) r1 r2) n) n2 HBm.out fun i j hi hj => M.ent_mk _ _ _ _ _ hi hj, HOv.out, HQq.out] at ho
    obtain ⟨cb, co, x0, rfl, hcb, hx0, cx0⟩ := ho.ints'.at 0 (by rw [ho.len]; simp)
    have hn4 : 0 < n4 := by rw [ho.len]; simp
    rw [Nat.add_zero] at cx0
    have hx1 : x0 = (c : Int) := hx0
    clear hx0
    subst hx1
    have HB4 := Lib.hid (HB3.out.trans (hb.mono HB3.out.size))
    clear ho hb
    obtain ⟨p0, p1⟩ := HX.out.cells HB4.out
    obtain ⟨m6, hm6⟩ : ∃ m6, m6 = n := ⟨_, rfl⟩
    subst hm6
    have hcb6 : cb < w4.heap.size := cell_lt cx0
    go_wp2
    go_region_with (go_at_call 26; refine (starColumns _ _ _ R r1 r2 _ (HA.out.below (below_drewN (HBy.out.trans (HB4.out.mono HBy.out.size)) _)) HR.out n1 n2 HSm.out HNear.out HP.out).mono ?_; rintro e w7 ⟨b7, c7, rfl, ho, hb⟩; obtain ⟨g7, ra7, rc7, rfl, hcr7, hro7⟩ := ho.row c hcl; rw [HRow.out, HLl.out] at hcr7 hro7; have cx7 := (hb.cell (p := ⟨cb, co, none⟩) hcb6).trans cx0; have HO7 := Lib.hid hro7; have HB7 := Lib.hid ((below_drewN (Below.refl w4.heap.size w4) _).trans hb); clear hro7 ho hb)
    all_goals
      have HB8 := Lib.hid (HBx.out.trans ((HB4.out.trans (HB7.out.mono HB4.out.size)).mono HBx.out.size))
      have HX7 := HX.out.cells (HB4.out.trans (HB7.out.mono HB4.out.size))
      obtain ⟨p0, p1⟩ := HX7
      have hz8 := HB8.out.size
      simp at hz8
      obtain ⟨hcc, hff⟩ := bcell HB8.out
      have z1 : w.heap.size < w7.heap.size := by omega
      have hlt6 : w.heap.size < w4.heap.size := by have h1 := HB4.out.size; have h2 := HBx.out.size; simp at h2; omega
      have hlo : w.heap.size ≤ w4.heap.size := by omega
      cases bv with
      | false =>
        go_wp2_with fail
        refine (isVector_b _ _ _ l _ false HV.out HO7.out.ints').mono ?_
        rintro e w' ⟨rfl, rfl⟩
        go_wp2
        exact bodyPost_ret (v := .tuple #[.slice none 0 0, .agg #[.int .i64 0, .int .i64 0], .int .i64 3]) (by simp [results, Tryz.results6, go_sem, z1, hcc]) rfl (EPost.nil HE.out (bel1s HB8.out))
      | true =>
        go_wp2_with fail
        refine (isVector_b _ _ _ l _ true HV.out HO7.out.ints').mono ?_
        rintro e w' ⟨rfl, rfl⟩
        go_wp2
        go_region
        all_goals (try go_wp2)
        all_goals
          exact bodyPost_ret (v := .tuple #[.slice ra7 m6 rc7, .agg #[.int .i64 r1, .int .i64 r2], .int .i64 0]) (by simp [results, Tryz.results6, go_sem, z1, hcc]) rfl (by
            rw [HE.out]
            refine ⟨ra7, m6, rc7, rfl, (HO7.out.keep fun k k1 _ => ?_).mono hlo, by first | exact bel1s HB8.out | exact bel1s (below_drewN HB8.out 1)⟩
            have k2 : w4.heap.size ≤ k := k1
            exact (Below.heap_setCell _ _ _ k (by show k ≠ w.heap.size; omega)).trans (Below.heap_setCell _ _ _ k (by show k ≠ w.heap.size; omega)))
  · have HE : Hid (M.eigRes R = ([], (0, 0), (M.cycMeanRes R).2)) := by show _ = _; unfold M.eigRes; rw [if_neg hc]
    obtain ⟨r, hr⟩ : ∃ r, r = M.cycMeanRes R := ⟨_, rfl⟩
    rw [← hr] at hc HE
    have HR := Lib.hid hr.symm
    obtain ⟨⟨r1, r2⟩, r3⟩ := r
    have hr3 : (r3 != 0) = true := by simpa using hc
    clear h hc hr
    go_enter Tryz.func6, Tryz.ntmps6
    go_wp2_with fail
    refine (cycleMean _ _ _ R _ (HA.out.below HB0.out)).mono ?_
    rintro e w1 ⟨rfl, hb⟩
    rw [HR.out]
    have hz := hb.size
    simp at hz
    obtain ⟨hcc, hff⟩ := bcell hb
    have z1 : w.heap.size < w1.heap.size := by omega
    go_wp2
    exact bodyPost_ret (v := .tuple #[.slice none 0 0, .agg #[.int .i64 0, .int .i64 0], .int .i64 r3]) (by simp [results, Tryz.results6, go_sem, z1, hcc]) rfl (EPost.nil HE.out ((bel1s hb).alloc (bel1s hb).size _))
end V
end Go.Proofs.YtcofjjipjcekjaaGreat

namespace Go.Proofs.YtcofjjipjcekjaaGreat
namespace M
/-- A list that the search may stand at. -/
def Cyc0 (A : Nat → Nat → Int) (n : Nat) (q : List Int) : Prop :=
  (q = [] ∧ hasCyc A n = false) ∨ (nodesB n q = true ∧ diffB q = true ∧ 1 ≤ q.length ∧ arW A q ≠ -1000000000000000)
def best2 (R : List (List Int)) : List Int := if hasCyc (ent R) R.length then bestCyc R else []
theorem fnd_arW {A : Nat → Nat → Int} {n : Nat} {ov : Int} {q : List Int} (hn : n ≤ 10) (hA : ∀ i j, i < n → j < n → Sm 1000000 (A i j)) (h : Fnd A n ov q) : arW A q ≠ -1000000000000000 := by
  obtain ⟨g1, g2, g3, g4, g5, g6⟩ := h
  have hw : arW A q = wkc A (vx q) (q.length - 1) + A (vx q 0) (lastV q) := times_fin g4 g5
  intro e
  have hs := arW_sm hA g1 g3
  have hl := diffB_len g1 g2
  have h1 := hA (vx q 0) (lastV q) (vx_lt g1 (by omega)) (vx_lt g1 (by omega))
  have h2 := wkc_sm (A := A) (v := vx q) (t := q.length - 1) (fun u hu => sm_wide (hA _ _ (vx_lt g1 (by omega)) (vx_lt g1 (by omega))))
  unfold Sm at h1 h2 hs
  have hk : ((q.length - 1 : Nat) : Int) ≤ 9 := by omega
  generalize ((q.length - 1 : Nat) : Int) = k at *
  omega
theorem cyc0_start {A : Nat → Nat → Int} {n : Nat} (hn : n ≤ 10) (hA : ∀ i j, i < n → j < n → Sm 1000000 (A i j)) : Cyc0 A n (overL A n (-1000000000000000)) := by
  have hW : ∀ i j, i < n → j < n → Sm 1000001000000 (A i j) := fun i j hi hj => sm_wide (hA i j hi hj)
  have h := over_bot hn hA
  by_cases e : (overL A n (-1000000000000000)).length = 0
  · left
    rw [← h]
    exact ⟨List.eq_nil_of_length_eq_zero e, decide_eq_false (fun k => k e)⟩
  · right
    have hf := over_fnd hn hW e
    exact ⟨hf.1, hf.2.1, hf.2.2.1, fnd_arW hn hA hf⟩
theorem cyc0_mean {R : List (List Int)} {q : List Int} (h : nodesB R.length q = true ∧ diffB q = true ∧ 1 ≤ q.length ∧ arW (ent R) q ≠ -1000000000000000) : mean2 R q = (cMean (ent R) q, true) := by
  obtain ⟨h1, h2, h3, h4⟩ := h
  unfold mean2
  rw [if_pos (by unfold cycB; rw [h1, h2, around_arW, decide_eq_true h3, decide_eq_true h4]; rfl)]
  rfl
end M
namespace V
open Go.RowKit
/-- The integers of a slice, as the world has them. -/
def readL (w : World) : Value → List Int
  | .slice (some ⟨b, off, _⟩) n _ => (List.range n).map fun i => match w.cell? ⟨b, off + i, none⟩ with | some (.int _ x) => x | _ => 0
  | _ => []
theorem readL_ints {w : World} {a : Option Addr} {n c : Nat} {l : List Int} (h : Ints .i64 w a n l) : readL w (.slice a n c) = l := by
  obtain ⟨h1, -, h3⟩ := h
  rcases h3 with h3 | ⟨b, off, rfl, -, h3⟩
  · subst h3
    obtain rfl : l = [] := List.eq_nil_of_length_eq_zero h1
    cases a <;> rfl
  · show (List.range n).map _ = l
    apply List.ext_getElem
    · simp [h1]
    · intro k k1 k2
      have e := h3 k (by omega)
      simp only [List.getElem_map, List.getElem_range, e]
      simp [k2]
theorem readL_own {w : World} {B n c : Nat} {a : Option Addr} {l : List Int} (h : Own w B (.slice a n c) l) : readL w (.slice a n c) = l := by
  exact readL_ints h.ints'
theorem own_caps {w : World} {B n c : Nat} {a : Option Addr} {l : List Int} (h : Own w B (.slice a n c) l) : n ≤ c ∧ c ≤ maxLen := by
  have hl := h.len
  obtain ⟨a', c', hv, h1, h2, -⟩ := own_form h
  injection hv with e1 e2 e3
  subst e3
  exact ⟨by omega, h2⟩
set_option maxRecDepth 100000 in
set_option maxHeartbeats 2000000 in
theorem sBest (a : Option Addr) (n cap : Nat) (R : List (List Int)) (w : World) (h : Mat w a n R) (hs : M.sqB R = true) :
    Calls Tryz.prog 29 #[.slice a n cap] w fun e w' => ∃ b' n' c', e = .returned (.tuple #[.slice b' n' c', .bool (M.hasCyc (M.ent R) n)]) ∧ Own w' w.heap.size (.slice b' n' c') (M.best2 R) ∧ Below w.heap.size w w' := by
  have HS := Lib.hid (sq_of h hs)
  have HMt := Lib.hid h
  have HQ := Lib.hid hs
  have HSm := Lib.hid (sm_of h hs)
  have hRn : R.length = n := h.1
  have HRn := Lib.hid hRn
  obtain ⟨n1, n2⟩ := (sq_of h hs).2.2.2
  clear h hs hRn
  go_enter Tryz.func29, Tryz.ntmps29
  go_wp2_with fail
  refine (sOver _ _ _ R (-1000000000000000) _ HS.out).mono ?_
  rintro e w1 ⟨b1, N1, c1, rfl, ho, hb⟩
  have HO1 := Lib.hid ho
  have HB1 := Lib.hid hb
  have HC1 := Lib.hid (M.cyc0_start n2 HSm.out)
  clear ho hb
  go_wp2
  go_loopw [4, 5, 6, 7] (fun v _ _ _ wr => ∃ (b : Option Addr) (N c : Nat) (q : List Int), v = .slice b N c ∧ Hid (Own wr w.heap.size (.slice b N c) q) ∧ Hid (M.Cyc0 (M.ent R) n q) ∧ Hid (Below w.heap.size w wr)) (fun v _ _ _ wr => M.mu (M.ent R) (readL wr v))
  case atStart => exact ⟨b1, N1, c1, _, rfl, HO1, HC1, HB1⟩
  case round =>
    clear HO1 HB1 HC1
    obtain ⟨b, N, c, q, rfl, HO, HC, HB⟩ := hrel
    obtain ⟨wo, rfl⟩ : ∃ x, x = wr := ⟨_, rfl⟩
    have hNl := HO.out.len
    rcases HC.out with ⟨hq0, hno⟩ | hq
    · have hN0 : N = 0 := by rw [hNl, hq0]; rfl
      have HE : Hid (M.best2 R = []) := by show _ = _; unfold M.best2; rw [HRn.out, hno]; rfl
      have HNo := Lib.hid hno
      subst hN0
      clear hq0 hno hNl
      go_wp2
      go_ret2
      refine ⟨none, 0, 0, ?_, ?_, HB.out⟩
      · rw [HNo.out]; rfl
      · rw [HE.out]; exact own_nil _ _
    · have hlen := M.diffB_len hq.1 hq.2.1
      have hN1 : 0 < N := by omega
      have hcap := own_caps HO.out
      have HM2 : Hid (M.mean2 R q = (M.cMean (M.ent R) q, true)) := M.cyc0_mean (by rw [HRn.out]; exact hq)
      have HCap := Lib.hid hcap
      have HNear := Lib.hid (M.cMean_near HSm.out hq.2.2.1 (by omega) hq.1 hq.2.2.2).1
      have HQq := Lib.hid hq
      have HLen := Lib.hid hlen
      have HNl := Lib.hid hNl
      obtain ⟨r, hr⟩ : ∃ r, r = M.cMean (M.ent R) q := ⟨_, rfl⟩
      have HR := Lib.hid hr
      obtain ⟨r1, r2⟩ := r
      have HSh : Hid (∀ i j, i < n → j < n → M.Sm 1000001000000 (M.shf (M.ent R) r1 r2 i j)) := by
        show ∀ i j, _
        have := M.sh_sm HSm.out HNear.out
        rw [← hr] at this; exact this
      have HNe : Hid (M.Near r1 r2) := by show M.Near r1 r2; have := HNear.out; rw [← hr] at this; exact this
      clear hq hlen hcap hr hNl
      go_wp2_with fail
      refine (sMean _ _ _ R _ _ _ q _ (HMt.out.below HB.out) HQ.out HO.out.ints' HCap.out.1 HCap.out.2).mono ?_
      rintro e w2 ⟨rfl, hb2⟩
      rw [HM2.out, ← HR.out]
      have HB2 := Lib.hid hb2
      clear hb2
      go_wp2_with fail
      obtain ⟨wb, hwb⟩ : ∃ x, x = w2.alloc (rbox r1 r2) := ⟨_, rfl⟩
      have HX : Hid (Boxed w2 wb r1 r2) := by show Boxed _ _ _ _; rw [hwb]; exact boxed _ _ _
      have HBw := Lib.hid (HB.out.trans (HB2.out.mono HB.out.size))
      have HBx := Lib.hid (HBw.out.trans (HX.out.below.mono HBw.out.size))
      change Calls _ _ _ (w2.alloc (rbox r1 r2)) _
      rw [← hwb]
      clear hwb
      refine (sShift _ _ _ R r1 r2 _ (HMt.out.below HBx.out) HS.out.2.1 n1 n2 HSm.out HNe.out).mono ?_
      rintro e w3 ⟨b3, c3, rfl, ho, hb⟩
      have HO3 := Lib.hid ho
      have HB3 := Lib.hid hb
      clear ho hb
      obtain ⟨q', hq'⟩ : ∃ q', q' = M.overL (M.shf (M.ent R) r1 r2) n 0 := ⟨_, rfl⟩
      have HOv : Hid (M.overL (M.ent (M.mk n n (M.shf (M.ent R) r1 r2))) n 0 = q') := by
        show _ = _
        rw [hq']; exact M.over_congr n2 HSh.out fun i j hi hj => M.ent_mk _ _ _ _ _ hi hj
      have HQ' := Lib.hid hq'
      clear hq'
      have HSq : ∀ wx b c, OwnM wx wb.heap.size (.slice b n c) (M.mk n n (M.shf (M.ent R) r1 r2)) → Sq wx b n (M.mk n n (M.shf (M.ent R) r1 r2)) := fun wx b c ho =>
        ⟨ho.mat, rect_mk _ _ _, fun i j hi hj => by rw [M.ent_mk _ _ _ _ _ hi hj]; exact HSh.out i j hi hj, n1, n2⟩
      have HSQ := Lib.hid HSq
      clear HSq
      go_wp2_with fail
      refine (sOver _ _ _ (M.mk n n (M.shf (M.ent R) r1 r2)) 0 _ (HSQ.out _ _ _ HO3.out)).mono ?_
      rintro e w4 ⟨b4, N4, c4, rfl, ho, hb⟩
      rw [HOv.out] at ho
      have HO4 := Lib.hid ho
      have HB4 := Lib.hid (HB3.out.trans (hb.mono HB3.out.size))
      obtain ⟨p0, p1⟩ := HX.out.cells HB4.out
      have hN4 := ho.len
      have HN4 := Lib.hid hN4
      clear ho hb
      by_cases h4 : N4 = 0
      · have hfi := M.fnd_is n2 HSm.out HQq.out.1 HQq.out.2.1 HQq.out.2.2.1 HQq.out.2.2.2 (by rw [← HR.out, ← HQ'.out, ← hN4, h4])
        have HNo : Hid (M.hasCyc (M.ent R) n = true) := hfi.1
        have HE : Hid (M.best2 R = M.overL (M.shf (M.ent R) r1 r2) n (-1)) := by
          show _ = _
          unfold M.best2
          rw [HRn.out, hfi.1, if_pos rfl]
          unfold M.bestCyc
          rw [HRn.out, ← hfi.2, ← HR.out]
        clear hfi hN4
        subst h4
        go_wp2_with fail
        refine (sShift _ _ _ R r1 r2 _ (HMt.out.below (HBx.out.trans (HB4.out.mono HBx.out.size))) HS.out.2.1 n1 n2 HSm.out HNe.out).mono ?_
        rintro e w5 ⟨b5, c5, rfl, ho, hb⟩
        have HO5 := Lib.hid ho
        have HB5 := Lib.hid (HB4.out.trans (hb.mono HB4.out.size))
        have HSQ5 : Hid (Sq w5 b5 n (M.mk n n (M.shf (M.ent R) r1 r2))) := HSQ.out _ _ _ (ho.mono HB4.out.size)
        clear ho hb
        go_wp2_with fail
        refine (sOver _ _ _ (M.mk n n (M.shf (M.ent R) r1 r2)) (-1) _ HSQ5.out).mono ?_
        rintro e w6 ⟨b6, N6, c6, rfl, ho, hb⟩
        rw [M.over_congr (A := M.shf (M.ent R) r1 r2) n2 HSh.out fun i j hi hj => M.ent_mk _ _ _ _ _ hi hj, ← HE.out] at ho
        have HB6 := Lib.hid (HBx.out.trans ((HB5.out.trans (hb.mono HB5.out.size)).mono HBx.out.size))
        have HO6 := Lib.hid (ho.mono (Nat.le_trans HBx.out.size HB5.out.size))
        clear ho hb
        go_wp2
        go_ret2
        exact ⟨b6, N6, c6, by rw [HNo.out]; rfl, HO6.out, HB6.out⟩
      · have hf : M.Fnd (M.shf (M.ent R) (M.cMean (M.ent R) q).1 (M.cMean (M.ent R) q).2) n 0 q' := by
          have hne : (M.overL (M.shf (M.ent R) r1 r2) n 0).length ≠ 0 := by rw [← HQ'.out]; omega
          have := M.over_fnd n2 HSh.out hne
          rw [← HQ'.out] at this
          rw [← HR.out]; exact this
        obtain ⟨g1, g2, g3, g4, g5, g6⟩ := M.fnd_up n2 HSm.out HQq.out.1 HQq.out.2.1 HQq.out.2.2.1 HQq.out.2.2.2 hf
        have HC' : Hid (M.Cyc0 (M.ent R) n q') := .inr ⟨g1, g2, g3, g5⟩
        have HL : Hid (M.mu (M.ent R) q' < M.mu (M.ent R) q) := M.mu_lt HQq.out.2.2.1 (Nat.le_trans HLen.out n2) g3 g4 (M.cMean_near HSm.out g3 g4 g1 g5).2.2.1 g6
        have HB6 := Lib.hid (HBx.out.trans (HB4.out.mono HBx.out.size))
        have HO6 := Lib.hid (HO4.out.mono (Nat.le_trans HBx.out.size HB3.out.size))
        have hN4p : 0 < N4 := by omega
        clear hf g1 g2 g3 g4 g5 g6 hN4
        go_wp2
        go_roundw
        case rel => exact ⟨b4, N4, c4, q', rfl, HO6, HC', HB6⟩
        case measure =>
          show M.mu _ (readL w4 (.slice b4 N4 c4)) < M.mu _ (readL wo (.slice b N c))
          rw [readL_own HO6.out, readL_own HO.out]; exact HL.out
end V
end Go.Proofs.YtcofjjipjcekjaaGreat

namespace Go.Proofs.YtcofjjipjcekjaaGreat
namespace V
open Go.RowKit
set_option maxRecDepth 100000 in
set_option maxHeartbeats 1000000 in
theorem sCycleMean (a : Option Addr) (n cap : Nat) (R : List (List Int)) (w : World) (h : Mat w a n R) :
    Calls Tryz.prog 28 #[.slice a n cap] w fun e w' => e = .returned (.tuple #[.agg #[.int .i64 (M.cycMeanRes R).1.1, .int .i64 (M.cycMeanRes R).1.2], .int .i64 (M.cycMeanRes R).2]) ∧ Below w.heap.size w w' := by
  have HA := Lib.hid h
  have HRn := Lib.hid h.1
  by_cases hs : M.sqB R = true
  · have HS := Lib.hid hs
    have HB0 : ∀ qd, Below (w.alloc (.cells #[.int .i64 0, .int .i64 0] 28)).heap.size (w.alloc (.cells #[.int .i64 0, .int .i64 0] 28)) ((w.alloc (.cells #[.int .i64 0, .int .i64 0] 28)).drewN qd) := fun qd => b_draws _ _
    have HB0 := Lib.hid HB0
    have HA0 : Hid (∀ qd, Mat ((w.alloc (.cells #[.int .i64 0, .int .i64 0] 28)).drewN qd) a n R) := fun qd => HA.out.below ((b_alloc _ _).trans ((HB0.out qd).mono (by simp)))
    by_cases hc : M.hasCyc (M.ent R) n = true
    · have hb := M.best_cyc hs (by rw [h.1]; exact hc)
      have HC : Hid (M.mean2 R (M.best2 R) = (M.bestR (M.ent R) n, true)) := by
        show _ = _
        unfold M.best2
        rw [HRn.out, hc, if_pos rfl]
        unfold M.mean2
        rw [if_pos hb.1, hb.2.1, HRn.out]
      have HNo := Lib.hid hc
      obtain ⟨x, hx⟩ : ∃ x, x = M.bestR (M.ent R) n := ⟨_, rfl⟩
      have HE : Hid (M.cycMeanRes R = M.lim x) := by show _ = _; unfold M.cycMeanRes; rw [if_pos hs, HRn.out, if_pos hc, hx]
      rw [← hx] at HC
      clear h hs hc hb hx
      obtain ⟨x1, x2⟩ := x
      go_enter Tryz.func28, Tryz.ntmps28
      go_wp2_with fail
      refine (sSquare_b _ _ _ R _ true HS.out (HA.out.below (b_alloc _ _))).mono ?_
      rintro e w' ⟨rfl, qd, rfl⟩
      go_wp2_with fail
      refine (sBest _ _ _ R _ (HA0.out qd) HS.out).mono ?_
      rintro e w0 ⟨b', n', c', rfl, ho, hb0⟩
      rw [HNo.out]
      have HO := Lib.hid ho
      have HBb := Lib.hid ((HB0.out qd).trans (hb0.mono (HB0.out qd).size))
      have HM0 : Hid (Mat w0 a n R) := (HA0.out qd).below hb0
      have HCp := Lib.hid (own_caps ho)
      clear ho hb0
      go_wp2_with fail
      refine (sMean _ _ _ R _ _ _ (M.best2 R) _ HM0.out HS.out HO.out.ints' HCp.out.1 HCp.out.2).mono ?_
      rintro e w1 ⟨rfl, hb⟩
      rw [HC.out]
      have hb1 := HBb.out.trans (hb.mono HBb.out.size)
      have hz := hb1.size
      simp at hz
      obtain ⟨hcc, hff⟩ := bcell hb1
      have z1 : w.heap.size < w1.heap.size := by omega
      clear hb
      go_wp2_with fail
      refine (sResultR _ _ _).mono ?_
      rintro e w2 ⟨rfl, hb2⟩
      obtain ⟨r, hr⟩ : ∃ r, r = M.lim (x1, x2) := ⟨_, rfl⟩
      rw [← hr] at HE ⊢
      clear hr
      unfold retQ
      obtain ⟨⟨r1, r2⟩, r3⟩ := r
      have hbb := hb1.trans (((b_alloc w1 _).trans (hb2.mono (by simp))).mono hb1.size)
      have hz2 := hbb.size
      simp at hz2
      obtain ⟨hc2, hf2⟩ := bcell hbb
      have z2 : w.heap.size < w2.heap.size := by omega
      go_wp2
      exact bodyPost_ret (v := .tuple #[.agg #[.int .i64 r1, .int .i64 r2], .int .i64 r3]) (by simp [results, Tryz.results28, go_sem, z2, hc2]) rfl ⟨by rw [HE.out], bel1s hbb⟩
    · simp only [Bool.not_eq_true] at hc
      have HNo := Lib.hid hc
      have HE : Hid (M.cycMeanRes R = ((0, 0), 4)) := by show _ = _; unfold M.cycMeanRes; rw [if_pos hs, HRn.out, if_neg (by rw [hc]; exact Bool.false_ne_true)]
      clear h hs hc
      go_enter Tryz.func28, Tryz.ntmps28
      go_wp2_with fail
      refine (sSquare_b _ _ _ R _ true HS.out (HA.out.below (b_alloc _ _))).mono ?_
      rintro e w' ⟨rfl, qd, rfl⟩
      go_wp2_with fail
      refine (sBest _ _ _ R _ (HA0.out qd) HS.out).mono ?_
      rintro e w1 ⟨b', n', c', rfl, ho, hb0⟩
      rw [HNo.out]
      have hb1 := (HB0.out qd).trans (hb0.mono (HB0.out qd).size)
      have hz := hb1.size
      simp at hz
      obtain ⟨hcc, hff⟩ := bcell hb1
      have z1 : w.heap.size < w1.heap.size := by omega
      clear ho hb0
      go_wp2
      exact bodyPost_ret (v := .tuple #[.agg #[.int .i64 0, .int .i64 0], .int .i64 4]) (by simp [results, Tryz.results28, go_sem, z1, hcc]) rfl ⟨by rw [HE.out], bel1s hb1⟩
  · simp only [Bool.not_eq_true] at hs
    have HS := Lib.hid hs
    have HE : Hid (M.cycMeanRes R = ((0, 0), 1)) := by show _ = _; unfold M.cycMeanRes; rw [if_neg (by rw [hs]; exact Bool.false_ne_true)]
    clear h hs
    go_enter Tryz.func28, Tryz.ntmps28
    go_wp2_with fail
    refine (sSquare_b _ _ _ R _ false HS.out (HA.out.below (b_alloc _ _))).mono ?_
    rintro e w' ⟨rfl, qd, rfl⟩
    go_wp2
    exact bodyPost_ret (v := .tuple #[.agg #[.int .i64 0, .int .i64 0], .int .i64 1]) (by simp [results, Tryz.results28, go_sem]) rfl ⟨by rw [HE.out], bel1s (b_draws _ _)⟩
end V
end Go.Proofs.YtcofjjipjcekjaaGreat
