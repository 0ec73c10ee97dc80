/- Texts laid together: Pth1, Pth2, End1, End2, SAdd, Clo1. -/
import Derived.Test.YtmhpgnndjagogaaGreatRows
import Derived.Test.YtmhpgnndjagogaaGreatQz1
import Derived.Test.YtmhpgnndjagogaaGreatQz2
import Derived.WalkKit
import Derived.ProofKit
import Derived.WalkSmall
import Derived.Deep.QuietTactic
import Derived.BigQuiet
import Derived.BigRegion
import Derived.Deep.Draws
import Derived.Lib.Hide
import Derived.OpenShut
import Derived.Deep.OwnRows
import Derived.IntWalk
import Derived.Test.YtmhpgnndjagogaaGreatQz3
import Derived.Test.YtmhpgnndjagogaaGreatQz4
import Derived.Test.YtmhpgnndjagogaaGreatQz5
import Derived.StillTailTactics
import Derived.Lib.SliceRun
set_option linter.unusedSimpArgs false
set_option linter.unusedVariables false
set_option linter.unusedSectionVars false
namespace Go.Proofs.YtmhpgnndjagogaaGreat.V
open Go.RowKit

set_option maxRecDepth 100000 in
set_option maxHeartbeats 400000 in
theorem isSquare (a : Option Addr) (n cap : Nat) (R : List (List Int)) (w : World) (h : Mat w a n R) :
    Calls Tryz.prog 59 #[.slice a n cap] w fun e w' => e = .returned (.bool (M.sqB R)) ∧ w = w' := by
  have HA := Lib.hid h
  have HL := Lib.hid h.1
  by_cases hR : M.isMat R = true
  · have HR := Lib.hid hR
    obtain ⟨m1, m2, c1, c2, -, -⟩ := M.isMat_t hR
    rw [h.1] at m1 m2
    obtain ⟨b, off, ra, L, rc, rfl, hL, hc⟩ := h.first (by omega)
    have HW := Lib.hid hL
    clear h hR hL c1 c2
    go_enter Tryz.func59, Tryz.ntmps59
    go_wp2_with fail
    refine (isMatrix_b _ _ _ R _ true HR.out HA.out).mono ?_
    rintro e w' ⟨rfl, rfl⟩
    go_wp2
    go_ret
    exact ⟨retB (by unfold M.sqB; rw [HR.out, HL.out, ← HW.out, Bool.true_and, Bool.eq_iff_iff]; simp; omega), rfl⟩
  · simp only [Bool.not_eq_true] at hR
    have HR := Lib.hid hR
    clear h hR
    go_enter Tryz.func59, Tryz.ntmps59
    go_wp2_with fail
    refine (isMatrix_b _ _ _ R _ false HR.out HA.out).mono ?_
    rintro e w' ⟨rfl, rfl⟩
    go_wp2
    go_ret
    exact ⟨retB (by unfold M.sqB; rw [HR.out, Bool.false_and]), rfl⟩
theorem isSquare_b (a : Option Addr) (n cap : Nat) (R : List (List Int)) (w : World) (b : Bool) (hb : M.sqB R = b) (h : Mat w a n R) :
    Calls Tryz.prog 59 #[.slice a n cap] w fun e w' => e = .returned (.bool b) ∧ w = w' := by
  subst hb; exact isSquare a n cap R w h

set_option maxRecDepth 100000 in
set_option maxHeartbeats 400000 in
theorem sSquare (a : Option Addr) (n cap : Nat) (R : List (List Int)) (w : World) (h : Mat w a n R) :
    Calls Tryz.prog 62 #[.slice a n cap] w fun e w' => e = .returned (.bool (M.sqB R)) ∧ ∃ q, w' = w.drewN q := by
  have HA := Lib.hid h
  have HL := Lib.hid h.1
  by_cases hR : M.isMat R = true
  · have HR := Lib.hid hR
    obtain ⟨m1, m2, c1, c2, -, -⟩ := M.isMat_t hR
    rw [h.1] at m1 m2
    obtain ⟨b, off, ra, L, rc, rfl, hL, hc⟩ := h.first (by omega)
    have HW := Lib.hid hL
    clear h hR hL c1 c2
    go_enter Tryz.func62, Tryz.ntmps62
    go_wp2_with fail
    refine (sIsMatrix_b _ _ _ R _ true HR.out HA.out).mono ?_
    rintro e w' ⟨rfl, q, rfl⟩
    go_wp2
    go_ret
    exact ⟨retB (by unfold M.sqB; rw [HR.out, HL.out, ← HW.out, Bool.true_and, Bool.eq_iff_iff]; simp; omega), q, rfl⟩
  · simp only [Bool.not_eq_true] at hR
    have HR := Lib.hid hR
    clear h hR
    go_enter Tryz.func62, Tryz.ntmps62
    go_wp2_with fail
    refine (sIsMatrix_b _ _ _ R _ false HR.out HA.out).mono ?_
    rintro e w' ⟨rfl, q, rfl⟩
    go_wp2
    go_ret
    exact ⟨retB (by unfold M.sqB; rw [HR.out, Bool.false_and]), q, rfl⟩
theorem sSquare_b (a : Option Addr) (n cap : Nat) (R : List (List Int)) (w : World) (b : Bool) (hb : M.sqB R = b) (h : Mat w a n R) :
    Calls Tryz.prog 62 #[.slice a n cap] w fun e w' => e = .returned (.bool b) ∧ ∃ q, w' = w.drewN q := by
  subst hb; exact sSquare a n cap R w h

set_option maxRecDepth 100000 in
set_option maxHeartbeats 400000 in
theorem areNodes (a : Option Addr) (n cap : Nat) (a' : Option Addr) (N cap' : Nat) (l : List Int) (w : World) (hn : n ≤ 1000) (h : Ints .i64 w a' N l) :
    Calls Tryz.prog 86 #[.slice a n cap, .slice a' N cap'] w fun e w' => e = .returned (.bool (M.nodesB n l)) ∧ w = w' := by
  obtain ⟨hl, hm, hr⟩ := h
  unfold maxLen at hm
  have HL := Lib.hid hl
  clear hl
  go_enter Tryz.func86, Tryz.ntmps86
  go_wp2
  go_loop [6, 9] (fun _ i => ∃ k : Nat, k ≤ N ∧ i = .int .i64 k ∧ Hid ((l.take k).all (M.inN n) = true)) (fun _ i => N - (intOf i).toNat)
  case atStart => exact ⟨0, Nat.zero_le _, rfl, rfl⟩
  case round =>
    obtain ⟨k, hk, rfl, HA⟩ := hrel
    by_cases hlt : k < N
    · rcases hr with h0 | ⟨b, off, rfl, hbl, hc⟩
      · omega
      · have hck := hc k hlt
        have hsn := M.take_snoc l k (by have := HL.out; omega)
        obtain ⟨x, hx⟩ : ∃ x, x = l.getD k 0 := ⟨_, rfl⟩
        rw [← hx] at hck hsn
        have HX := Lib.hid hx
        have HS := Lib.hid hsn
        clear hc hx hsn
        by_cases hv : M.inN n x = true
        · have HA2 : Hid ((l.take (k + 1)).all (M.inN n) = true) := by show _ = _; rw [HS.out, M.all_snoc, HA.out, hv]; rfl
          obtain ⟨v1, v2⟩ := M.inN_t hv
          clear hv
          go_wp2
          go_round
          case rel => exact ⟨k + 1, by omega, by go_num, HA2⟩
          case measure => simp [intOf]; omega
        · simp only [Bool.not_eq_true] at hv
          have HF : Hid (l.all (M.inN n) = false) := M.all_false _ l k (by have := HL.out; omega) (by rw [← HX.out]; exact hv)
          have hv := M.inN_f hv
          by_cases h0 : x < 0
          · go_wp2
            go_ret
            exact ⟨retB HF.out.symm, rfl⟩
          · have h1 : (n : Int) ≤ x := by omega
            have h2 : 0 ≤ x := by omega
            go_wp2
            go_ret
            exact ⟨retB HF.out.symm, rfl⟩
    · have hkn : k = N := by omega
      subst hkn
      have HT : Hid (l.take k = l) := M.take_all l k (by have := HL.out; omega)
      clear hr
      go_wp2
      go_ret
      exact ⟨retB (by have h2 := HA.out; rw [HT.out] at h2; exact h2.symm), rfl⟩
theorem areNodes_b (a : Option Addr) (n cap : Nat) (a' : Option Addr) (N cap' : Nat) (l : List Int) (w : World) (b : Bool) (hb : M.nodesB n l = b) (hn : n ≤ 1000) (h : Ints .i64 w a' N l) :
    Calls Tryz.prog 86 #[.slice a n cap, .slice a' N cap'] w fun e w' => e = .returned (.bool b) ∧ w = w' := by
  subst hb; exact areNodes a n cap a' N cap' l w hn h

set_option maxRecDepth 100000 in
set_option maxHeartbeats 400000 in
theorem sWithin (n : Nat) (a' : Option Addr) (N cap' : Nat) (l : List Int) (w : World) (hn : n ≤ 1000) (h : Ints .i64 w a' N l) :
    Calls Tryz.prog 182 #[.slice a' N cap', .int .i64 N, .int .i64 0, .int .i64 ((n : Int) - 1)] w fun e w' => e = .returned (.bool (M.nodesB n l)) ∧ w = w' := by
  obtain ⟨hl, hm, hr⟩ := h
  unfold maxLen at hm
  have HL := Lib.hid hl
  clear hl
  go_enter Tryz.func182, Tryz.ntmps182
  go_wp2
  go_loop [9] (fun i => ∃ k : Nat, k ≤ N ∧ i = .int .i64 k ∧ Hid ((l.take k).all (M.inN n) = true)) (fun i => N - (intOf i).toNat)
  case atStart => exact ⟨0, Nat.zero_le _, rfl, rfl⟩
  case round =>
    obtain ⟨k, hk, rfl, HA⟩ := hrel
    by_cases hlt : k < N
    · rcases hr with h0 | ⟨b, off, rfl, hbl, hc⟩
      · omega
      · have hck := hc k hlt
        have hsn := M.take_snoc l k (by have := HL.out; omega)
        obtain ⟨x, hx⟩ : ∃ x, x = l.getD k 0 := ⟨_, rfl⟩
        rw [← hx] at hck hsn
        have HX := Lib.hid hx
        have HS := Lib.hid hsn
        clear hc hx hsn
        obtain ⟨q, hq⟩ : ∃ q, q = M.inN n x := ⟨_, rfl⟩
        have HQ : Hid ((decide (0 ≤ x) && decide (x ≤ (n : Int) - 1)) = q) := by
          show _ = _; rw [hq]; unfold M.inN
          rw [Bool.eq_iff_iff]; simp; omega
        have HC : ∀ w : World, Calls Tryz.prog 131 #[.int .i64 x, .int .i64 0, .int .i64 ((n : Int) - 1)] w fun e w' => e = .returned (.bool q) ∧ w = w' := by
          intro w
          have := sIn x 0 ((n : Int) - 1) w
          rw [HQ.out] at this
          exact this
        cases q with
        | true =>
          have HA2 : Hid ((l.take (k + 1)).all (M.inN n) = true) := by show _ = _; rw [HS.out, M.all_snoc, HA.out, ← hq]; rfl
          clear hq
          go_wp2_with (go_at_call 131; refine (HC _).mono ?_; rintro e w' ⟨rfl, rfl⟩)
          go_round
          case rel => exact ⟨k + 1, by omega, by go_num, HA2⟩
          case measure => simp [intOf]; omega
        | false =>
          have HF : Hid (l.all (M.inN n) = false) := M.all_false _ l k (by have := HL.out; omega) (by rw [← HX.out]; exact hq.symm)
          clear hq
          go_wp2_with (go_at_call 131; refine (HC _).mono ?_; rintro e w' ⟨rfl, rfl⟩)
          go_ret
          exact ⟨retB HF.out.symm, rfl⟩
    · have hkn : k = N := by omega
      subst hkn
      have HT : Hid (l.take k = l) := M.take_all l k (by have := HL.out; omega)
      clear hr
      go_wp2
      go_ret
      exact ⟨retB (by have h2 := HA.out; rw [HT.out] at h2; exact h2.symm), rfl⟩
set_option maxRecDepth 100000 in
set_option maxHeartbeats 400000 in
theorem sNodes (a : Option Addr) (n cap : Nat) (a' : Option Addr) (N cap' : Nat) (l : List Int) (w : World) (hn : n ≤ 1000) (h : Ints .i64 w a' N l) :
    Calls Tryz.prog 170 #[.slice a n cap, .slice a' N cap'] w fun e w' => e = .returned (.bool (M.nodesB n l)) ∧ w = w' := by
  have HI := Lib.hid h
  have hm := h.2.1
  unfold maxLen at hm
  clear h
  go_enter Tryz.func170, Tryz.ntmps170
  go_wp2_with fail
  refine (sWithin n _ _ _ l _ hn HI.out).mono ?_
  rintro e w' ⟨rfl, rfl⟩
  go_wp2
  go_ret
  exact ⟨rfl, rfl⟩
theorem sNodes_b (a : Option Addr) (n cap : Nat) (a' : Option Addr) (N cap' : Nat) (l : List Int) (w : World) (b : Bool) (hb : M.nodesB n l = b) (hn : n ≤ 1000) (h : Ints .i64 w a' N l) :
    Calls Tryz.prog 170 #[.slice a n cap, .slice a' N cap'] w fun e w' => e = .returned (.bool b) ∧ w = w' := by
  subst hb; exact sNodes a n cap a' N cap' l w hn h
end Go.Proofs.YtmhpgnndjagogaaGreat.V

namespace Go.Proofs.YtmhpgnndjagogaaGreat.V
open Go.RowKit

/-- A square matrix of values. -/
def Sq (w : World) (a : Option Addr) (n : Nat) (R : List (List Int)) : Prop := Mat w a n R ∧ Rect R n n ∧ (∀ i j, i < n → j < n → M.Sm 1000001000000 (M.ent R i j)) ∧ 1 ≤ n ∧ n ≤ 10
theorem sq_of {w : World} {a : Option Addr} {n : Nat} {R : List (List Int)} (h : Mat w a n R) (hs : M.sqB R = true) : Sq w a n R := by
  obtain ⟨h1, h2⟩ := M.sqB_t hs
  have hr := rect_mat h1
  obtain ⟨m1, m2, -⟩ := M.isMat_t h1
  rw [← h2, h.1] at hr
  rw [h.1] at m1 m2
  exact ⟨h, hr, fun i j hi hj => M.sm_wide (M.sm_val (tm_val h1 hr m1 hi hj)), m1, m2⟩
theorem Sq.below {w w' : World} {a : Option Addr} {n : Nat} {R : List (List Int)} (h : Sq w a n R) (hb : Below w.heap.size w w') : Sq w' a n R := ⟨h.1.below hb, h.2⟩
theorem Sq.arc {w : World} {a : Option Addr} {n : Nat} {R : List (List Int)} {l : List Int} (h : Sq w a n R) (hv : M.nodesB n l = true) {i j : Nat} (hi : i < l.length) (hj : j < l.length) : M.Sm 1000001000000 (M.ent R (M.vx l i) (M.vx l j)) :=
  h.2.2.1 _ _ (M.vx_lt hv hi) (M.vx_lt hv hj)
/-- The weights along a list of nodes are near to 0. -/
theorem Sq.along {w : World} {a : Option Addr} {n : Nat} {R : List (List Int)} {l : List Int} (h : Sq w a n R) (hv : M.nodesB n l = true) {t : Nat} (ht : t < l.length) : M.Sm (1000001000000 * t) (M.wkc (M.ent R) (M.vx l) t) :=
  M.wkc_sm fun u hu => h.arc hv (by omega) (by omega)
theorem wn_big {L v : Int} {t : Nat} (h : M.Sm (1000001000000 * t) v) (ht : t ≤ 99) : M.Big v := M.big_sm h (by omega)

set_option maxRecDepth 100000 in
set_option maxHeartbeats 1000000 in
theorem weightAlong (a : Option Addr) (n cap : Nat) (R : List (List Int)) (a' : Option Addr) (N cap' : Nat) (l : List Int) (w : World) (h : Sq w a n R) (h' : Ints .i64 w a' N l) (hv : M.nodesB n l = true) (hc1 : N ≤ cap') (hc2 : cap' ≤ maxLen) (N1 : 1 ≤ N) (N2 : N ≤ 100) :
    Calls Tryz.prog 169 #[.slice a n cap, .slice a' N cap'] w fun e w' => e = .returned (.int .i64 (M.alongW R l)) ∧ ∃ q, w' = w.drewN q := by
  unfold maxLen at hc2
  have HS := Lib.hid h
  have HI := Lib.hid h'
  have HV := Lib.hid hv
  have HL := Lib.hid h'.1
  obtain ⟨b', off', x0, rfl, -, -, -⟩ := h'.at 0 (by omega)
  obtain ⟨b, off, ra, rc, rfl, -, -⟩ := h.1.rect_first h.2.1 h.2.2.2.1
  obtain ⟨n1, n2⟩ := h.2.2.2
  clear h h' hv
  by_cases h1 : N = 1
  · subst h1
    have HE : Hid (M.alongW R l = 0) := by show _ = _; unfold M.alongW; rw [HL.out]; rfl
    by_cases hk : cap' = 1
    · subst hk
      go_enter Tryz.func169, Tryz.ntmps169
      go_wp2
      go_loop [5, 11] (fun sm i => sm = .int .i64 0 ∧ i = .int .i64 0) (fun _ _ => 0)
      case atStart => exact ⟨rfl, rfl⟩
      case round =>
        obtain ⟨rfl, rfl⟩ := hrel
        go_wp2
        go_ret
        exact ⟨retI HE.out.symm, 0, rfl⟩
    · have hk2 : (cap' : Nat) ≠ 1 := hk
      go_enter Tryz.func169, Tryz.ntmps169
      go_wp2
      go_loop [5, 11] (fun sm i => sm = .int .i64 0 ∧ i = .int .i64 0) (fun _ _ => 0)
      case atStart => exact ⟨rfl, rfl⟩
      case round =>
        obtain ⟨rfl, rfl⟩ := hrel
        go_wp2
        go_ret
        exact ⟨retI HE.out.symm, 0, rfl⟩
  · have hk : (cap' : Nat) ≠ 1 := by omega
    have hk1 : 1 ≤ cap' := by omega
    have HA0 : Hid ((0 : Int) = M.wkc (M.ent R) (M.vx l) 0) := rfl
    go_enter Tryz.func169, Tryz.ntmps169
    go_wp2
    go_loopw [5, 6, 7, 11] (fun sm _ _ i wr => ∃ (k : Nat) (y : Int), k ≤ N - 1 ∧ i = .int .i64 k ∧ sm = .int .i64 y ∧ Hid (y = M.wkc (M.ent R) (M.vx l) k) ∧ ∃ q, wr = w.drewN q) (fun _ _ _ i _ => N - (intOf i).toNat)
    case atStart => exact ⟨0, _, Nat.zero_le _, rfl, rfl, HA0, 0, rfl⟩
    case round =>
      obtain ⟨k, y, hk', rfl, rfl, HY, q2, rfl⟩ := hrel
      by_cases hlt : k + 1 < N
      · have hki : (k : Int) < (N : Int) - 1 := by omega
        obtain ⟨d, od, x1, hdd, hd, hx1, c1⟩ := HI.out.at k (by omega)
        injection hdd with hdd
        injection hdd with e1 e2
        subst e1 e2
        obtain ⟨d, od, x2, hdd, hd, hx2, c2⟩ := HI.out.at (k + 1) hlt
        injection hdd with hdd
        injection hdd with e1 e2
        subst e1 e2
        have hl := HL.out
        have hb1 := M.nodesB_at HV.out (k := k) (by omega)
        have hb2 := M.nodesB_at HV.out (k := k + 1) (by omega)
        have hv1 : x1 = ((M.vx l k : Nat) : Int) := by rw [hx1]; unfold M.vx; omega
        have hv2 : x2 = ((M.vx l (k + 1) : Nat) : Int) := by rw [hx2]; unfold M.vx; omega
        have hw1 := M.vx_lt HV.out (k := k) (by omega)
        have hw2 := M.vx_lt HV.out (k := k + 1) (by omega)
        obtain ⟨d, od, rd, rdo, c4, z, hdd, hz, c41, c42⟩ := HS.out.1.rect_ent HS.out.2.1 (M.vx l (k + 1)) (M.vx l k) hw2 hw1
        injection hdd with hdd
        injection hdd with e1 e2
        subst e1 e2
        have HY2 : Hid (M.times y z = M.wkc (M.ent R) (M.vx l) (k + 1)) := by show _ = _; rw [HY.out, hz]; rfl
        have HB1 : Hid (M.Big y) := by
          show M.Big _
          rw [HY.out]
          exact M.big_sm (HS.out.along HV.out (t := k) (by omega)) (by omega)
        have HB2 : Hid (M.Big z) := by
          show M.Big _
          rw [hz]
          exact M.big_sm (HS.out.arc HV.out (by omega) (by omega)) (by omega)
        generalize M.vx l k = u1 at hv1 hw1 c42
        generalize M.vx l (k + 1) = u2 at hv2 hw2 c41
        subst hv1 hv2
        obtain ⟨y2, hy2⟩ : ∃ y2, y2 = M.times y z := ⟨_, rfl⟩
        rw [← hy2] at HY2
        have HC1 : ∀ w : World, Calls Tryz.prog 165 #[.int .i64 y, .int .i64 z] w fun e w' => e = .returned (.int .i64 y2) ∧ w = w' := by
          intro w
          rw [hy2]
          exact timesB _ _ _ HB1.out HB2.out
        have c2' : w.cell? ⟨b', off' + 1 + k, none⟩ = some (.int .i64 (u2 : Int)) := by rw [show off' + 1 + k = off' + (k + 1) by omega]; exact c2
        clear hx1 hx2 hz hd hb1 hb2 hl hy2 c2
        go_wp2
        go_quiet ((go_at_call 165; exact q_more_s (HC1 _)))
        go_wp2
        go_roundw
        case rel => exact ⟨k + 1, _, by omega, by go_num, rfl, HY2, _, rfl⟩
        case measure => simp [intOf]; omega
      · obtain rfl : N = k + 1 := by omega
        go_wp2
        go_ret
        exact ⟨retI (by rw [HY.out]; unfold M.alongW; rw [HL.out]; rfl), _, rfl⟩

set_option maxRecDepth 100000 in
set_option maxHeartbeats 1000000 in
theorem weightAround (a : Option Addr) (n cap : Nat) (R : List (List Int)) (a' : Option Addr) (N cap' : Nat) (l : List Int) (w : World) (h : Sq w a n R) (h' : Ints .i64 w a' N l) (hv : M.nodesB n l = true) (hc1 : N ≤ cap') (hc2 : cap' ≤ maxLen) (N1 : 1 ≤ N) (N2 : N ≤ 100) :
    Calls Tryz.prog 122 #[.slice a n cap, .slice a' N cap'] w fun e w' => e = .returned (.int .i64 (M.aroundW R l)) ∧ ∃ q, w' = w.drewN q := by
  have HM := Lib.hid hc2
  have HS := Lib.hid h
  have HI := Lib.hid h'
  have HV := Lib.hid hv
  have HL := Lib.hid h'.1
  obtain ⟨b', off', x0, rfl, hd0, hx0, c0⟩ := h'.at 0 (by omega)
  obtain ⟨d, od, x1, hdd, hd1, hx1, c1⟩ := h'.at (N - 1) (by omega)
  injection hdd with hdd
  injection hdd with e1 e2
  subst e1 e2
  have hl := h'.1
  have hb1 := M.nodesB_at hv (k := 0) (by omega)
  have hb2 := M.nodesB_at hv (k := N - 1) (by omega)
  have hv1 : x0 = ((M.vx l 0 : Nat) : Int) := by rw [hx0]; unfold M.vx; omega
  have hv2 : x1 = ((M.vx l (N - 1) : Nat) : Int) := by rw [hx1]; unfold M.vx; omega
  have hw1 := M.vx_lt hv (k := 0) (by omega)
  have hw2 := M.vx_lt hv (k := N - 1) (by omega)
  obtain ⟨b, off, rd, rdo, c4, z, rfl, hz, c41, c42⟩ := h.1.rect_ent h.2.1 (M.vx l 0) (M.vx l (N - 1)) hw1 hw2
  obtain ⟨y, hy⟩ : ∃ y, y = M.alongW R l := ⟨_, rfl⟩
  have HY := Lib.hid hy
  obtain ⟨y2, hy2⟩ : ∃ y2, y2 = M.times y z := ⟨_, rfl⟩
  have HY2 : Hid (y2 = M.aroundW R l) := by show _ = _; rw [hy2, hy, hz, ← hl]; rfl
  have HB1 : Hid (M.Big y) := by
    show M.Big _
    rw [hy]; unfold M.alongW
    exact M.big_sm (h.along hv (t := l.length - 1) (by omega)) (by omega)
  have HB2 : Hid (M.Big z) := by
    show M.Big _
    rw [hz]
    exact M.big_sm (h.arc hv (by omega) (by omega)) (by omega)
  have HC1 : ∀ w : World, Calls Tryz.prog 165 #[.int .i64 y, .int .i64 z] w fun e w' => e = .returned (.int .i64 y2) ∧ w = w' := by
    intro w
    rw [hy2]
    exact timesB _ _ _ HB1.out HB2.out
  have HC2 : ∀ q, Calls Tryz.prog 169 #[.slice (some ⟨b, off, none⟩) n cap, .slice (some ⟨b', off', none⟩) N cap'] (w.drewN q) fun e w' => e = .returned (.int .i64 y) ∧ ∃ p, w' = (w.drewN q).drewN p := by
    intro q
    rw [HY.out]
    exact weightAlong _ _ _ _ _ _ _ _ _ (HS.out.below (b_draws _ _)) (HI.out.below (b_draws _ _)) HV.out hc1 HM.out N1 N2
  obtain ⟨n1, n2⟩ := h.2.2.2
  generalize M.vx l 0 = u1 at hv1 hw1 c41
  generalize M.vx l (N - 1) = u2 at hv2 hw2 c42
  subst hv1 hv2
  unfold maxLen at hc2
  have hn0 : ((N : Int) - 1).toNat = N - 1 := by omega
  have hn1 : 0 ≤ (N : Int) - 1 := by omega
  have hn2 : (N : Int) - 1 < N := by omega
  have hn3 : IntKind.i64.wrap ((N : Int) - 1) = (N : Int) - 1 := IntWalk.i64_in _ (by omega)
  clear h h' hv hl hb1 hb2 hx0 hx1 hz hd0 hd1 hy hy2
  rw [Nat.add_zero] at c0
  go_enter Tryz.func122, Tryz.ntmps122
  go_wp2
  go_quiet (fail)
  go_wp2
  go_quiet (first | (go_at_call 169; exact q_more (HC2 _)) | (go_at_call 165; exact q_more_s (HC1 _)))
  go_wp2
  go_ret
  exact ⟨retI HY2.out, _, World.drewN_drewN _ _ _⟩

set_option maxRecDepth 100000 in
set_option maxHeartbeats 1000000 in
theorem sWalk (a : Option Addr) (n cap : Nat) (R : List (List Int)) (a' : Option Addr) (N cap' : Nat) (l : List Int) (w : World) (h : Sq w a n R) (h' : Ints .i64 w a' N l) (hv : M.nodesB n l = true) (N1 : 1 ≤ N) (N2 : N ≤ 100) :
    Calls Tryz.prog 171 #[.slice a n cap, .slice a' N cap'] w fun e w' => e = .returned (.tuple #[.int .i64 (M.walkR R l).1, .bool (M.walkR R l).2]) ∧ ∃ q, w' = w.drewN q := by
  have HS := Lib.hid h
  have HI := Lib.hid h'
  have HV := Lib.hid hv
  have HL := Lib.hid h'.1
  obtain ⟨b', off', x0, rfl, -, -, -⟩ := h'.at 0 (by omega)
  obtain ⟨b, off, ra, rc, rfl, -, -⟩ := h.1.rect_first h.2.1 h.2.2.2.1
  obtain ⟨n1, n2⟩ := h.2.2.2
  clear h h' hv
  have HA0 : Hid ((0 : Int) = M.wkc (M.ent R) (M.vx l) 0) := rfl
  go_enter Tryz.func171, Tryz.ntmps171
  go_wp2
  go_loopw [6, 7, 8] (fun sm i _ wr => ∃ (k : Nat) (y : Int), 1 ≤ k ∧ k ≤ N ∧ i = .int .i64 k ∧ sm = .int .i64 y ∧ y ≠ -1000000000000000 ∧ Hid (y = M.wkc (M.ent R) (M.vx l) (k - 1)) ∧ ∃ q, wr = w.drewN q) (fun _ i _ _ => N - (intOf i).toNat)
  case atStart => exact ⟨1, _, Nat.le_refl _, N1, rfl, rfl, by omega, HA0, 0, rfl⟩
  case round =>
    obtain ⟨k, y, hk1, hk', rfl, rfl, hy0, HY, q2, rfl⟩ := hrel
    by_cases hlt : k < N
    · have hki : (k : Int) < (N : Int) := by omega
      obtain ⟨d, od, x1, hdd, hd, hx1, c1⟩ := HI.out.at (k - 1) (by omega)
      injection hdd with hdd
      injection hdd with e1 e2
      subst e1 e2
      obtain ⟨d, od, x2, hdd, hd, hx2, c2⟩ := HI.out.at k hlt
      injection hdd with hdd
      injection hdd with e1 e2
      subst e1 e2
      have hl := HL.out
      have hb1 := M.nodesB_at HV.out (k := k - 1) (by omega)
      have hb2 := M.nodesB_at HV.out (k := k) (by omega)
      have hv1 : x1 = ((M.vx l (k - 1) : Nat) : Int) := by rw [hx1]; unfold M.vx; omega
      have hv2 : x2 = ((M.vx l k : Nat) : Int) := by rw [hx2]; unfold M.vx; omega
      have hw1 := M.vx_lt HV.out (k := k - 1) (by omega)
      have hw2 := M.vx_lt HV.out (k := k) (by omega)
      obtain ⟨d, od, rd, rdo, c4, z, hdd, hz, c41, c42⟩ := HS.out.1.rect_ent HS.out.2.1 (M.vx l k) (M.vx l (k - 1)) hw2 hw1
      injection hdd with hdd
      injection hdd with e1 e2
      subst e1 e2
      have HK : Hid (M.wkc (M.ent R) (M.vx l) k = M.times y z) := by
        show _ = _
        have e : k = k - 1 + 1 := by omega
        rw [HY.out, hz]
        conv => lhs; rw [e]
        show M.times _ (M.ent R (M.vx l (k - 1 + 1)) (M.vx l (k - 1))) = _
        rw [← e]
      have hsy := HS.out.along HV.out (t := k - 1) (by omega)
      rw [← HY.out] at hsy
      have hsz := HS.out.arc HV.out (l := l) (i := k) (j := k - 1) (by omega) (by omega)
      rw [← hz] at hsz
      generalize M.vx l (k - 1) = u1 at hv1 hw1 c42
      generalize M.vx l k = u2 at hv2 hw2 c41
      subst hv1 hv2
      have hn0 : ((k : Int) - 1).toNat = k - 1 := by omega
      have hn1 : 0 ≤ (k : Int) - 1 := by omega
      have hn2 : (k : Int) - 1 < N := by omega
      have hn3 : IntKind.i64.wrap ((k : Int) - 1) = (k : Int) - 1 := IntWalk.i64_in _ (by omega)
      clear hx1 hx2 hz hd hb1 hb2 hl
      by_cases hz0 : z = -1000000000000000
      · subst hz0
        have HF : Hid (M.walkR R l = (0, false)) := by
          show _ = _
          have e : M.wkc (M.ent R) (M.vx l) k = -1000000000000000 := by rw [HK.out]; exact M.times_bot y
          unfold M.walkR M.alongW
          rw [if_pos (M.wkc_bot e (by have := HL.out; omega))]
        clear hsy hsz
        go_wp2
        go_quiet (fail)
        go_wp2
        go_ret2
        rw [HF.out]
        exact ⟨rfl, _, rfl⟩
      · have hz1 : (z == -1000000000000000) = false := by simpa using hz0
        have ey : -100000100000000 ≤ y ∧ y ≤ 100000100000000 := by unfold M.Sm at hsy; omega
        have ez : -1000001000000 ≤ z ∧ z ≤ 1000001000000 := by unfold M.Sm at hsz; omega
        obtain ⟨ey1, ey2⟩ := ey
        obtain ⟨ez1, ez2⟩ := ez
        have HK2 : Hid (y + z = M.wkc (M.ent R) (M.vx l) (k + 1 - 1)) := by
          show _ = _
          rw [Nat.add_sub_cancel, HK.out]; unfold M.times; rw [if_neg (by omega)]
        clear hsy hsz
        go_wp2
        go_quiet (fail)
        clear c1 c2 c41 c42 hn0 hn1 hn2 hn3
        go_wp2
        go_roundw
        case rel => exact ⟨k + 1, y + z, by omega, by omega, by go_num, rfl, by omega, HK2, _, rfl⟩
        case measure => simp [intOf]; omega
    · obtain rfl : N = k := by omega
      have HF : Hid (M.walkR R l = (y, true)) := by
        show _ = _
        unfold M.walkR M.alongW
        rw [HL.out, ← HY.out, if_neg hy0]
      clear hy0
      go_wp2
      go_ret2
      rw [HF.out]
      exact ⟨rfl, _, rfl⟩
end Go.Proofs.YtmhpgnndjagogaaGreat.V

namespace Go.Proofs.YtmhpgnndjagogaaGreat.V
open Go.RowKit
/-- One row of an owned matrix, as a list of its own. -/
theorem OwnM.rowOf {w : World} {B n cap : Nat} {a : Option Addr} {R : List (List Int)} (h : OwnM w B (.slice a n cap) R) (i : Nat) (hi : i < n) :
    ∃ g ra rc, a = some ⟨g, 0, none⟩ ∧ w.cell? ⟨g, i, none⟩ = some (.slice ra (R.getD i []).length rc) ∧ Own w B (.slice ra (R.getD i []).length rc) (R.getD i []) := by
  have hl := h.len
  obtain ⟨V, h1, h2, h3, h4, h5⟩ := h
  obtain ⟨a', c', hv, hc, hm, hg⟩ := own_form h2
  injection hv with e1 e2 e3
  subst e1 e2 e3
  obtain ⟨g, rfl, hB, hlt⟩ := hg (by omega)
  have hr := h3 i (by omega)
  obtain ⟨ra, rc, hrv, _⟩ := own_form hr
  rw [hrv] at hr
  refine ⟨g, ra, rc, rfl, ?_, hr⟩
  rw [World.ownsRow.cellAt h2 i (by omega), ← hrv]
  simp [show i < V.length by omega]
theorem ownM_first (w : World) (B : Nat) (hB : B ≤ w.heap.size) {rv : Value} {l : List Int} (ho : Own w B rv l) : OwnM (w.alloc (.cells #[rv] 28)) B (.slice (some ⟨w.heap.size, 0, none⟩) 1 1) [l] := by
  refine ⟨[rv], rfl, World.ownsRow_lit w #[rv] 1 hB (by decide) rfl, fun i hi => ?_, fun i hi k hk => ?_, fun i j hi hj hne => ?_⟩
  · obtain rfl : i = 0 := by simp at hi; omega
    exact ho.below (b_alloc w _)
  · obtain rfl : i = 0 := by simp at hi; omega
    have := (own_lt ho hk).2
    intro e
    simp only [Value.ownBlock, Option.some.injEq] at e
    omega
  · simp at hi hj; omega
/-- The greatest weights of paths with so many arcs. -/
def M.fkL (A : Nat → Nat → Int) (n k : Nat) : List Int := (List.range n).map (M.Fk A n k)
theorem M.fkL_len (A : Nat → Nat → Int) (n k : Nat) : (M.fkL A n k).length = n := by unfold M.fkL; simp
theorem M.fkL_at (A : Nat → Nat → Int) (n k v : Nat) (hv : v < n) : (M.fkL A n k).getD v 0 = M.Fk A n k v := by unfold M.fkL; simp [hv]
def M.endM (A : Nat → Nat → Int) (n k : Nat) : List (List Int) := M.mk k n fun s j => M.Fk A n s j
theorem M.end_row (A : Nat → Nat → Int) (n k s : Nat) (h : s < k) : (M.endM A n k).getD s [] = M.fkL A n s := M.mk_row _ _ _ _ h
theorem M.end_next {R : List (List Int)} {n : Nat} (h : R.length = n) (k : Nat) : M.applyM R (M.fkL (M.ent R) n k) = M.fkL (M.ent R) n (k + 1) := by
  unfold M.applyM
  rw [h, M.fkL_len]
  show _ = (List.range n).map (M.Fk (M.ent R) n (k + 1))
  refine List.map_congr_left fun i hi => ?_
  unfold M.dotV
  show _ = M.sumN n fun u => M.times (M.ent R i u) (M.Fk (M.ent R) n k u)
  refine M.sumN_congr fun u hu => ?_
  rw [M.fkL_at _ _ _ _ hu]

set_option maxRecDepth 100000 in
set_option maxHeartbeats 1000000 in
theorem endWeights (a : Option Addr) (n cap : Nat) (R : List (List Int)) (w : World) (h : Sq w a n R) (hA : ∀ i j, i < n → j < n → M.Sm 1000000 (M.ent R i j)) :
    Calls Tryz.prog 117 #[.slice a n cap] w (MPost (n + 1) (M.endM (M.ent R) n (n + 1)) w) := by
  have HS := Lib.hid h
  have HA := Lib.hid hA
  have HL := Lib.hid h.1.1
  have HRB : Hid (∀ i j, i < n → j < n → M.Big (M.ent R i j)) := fun i j hi hj => M.big_sm (hA i j hi hj) (by omega)
  obtain ⟨n1, n2⟩ := h.2.2.2
  clear h hA
  have HO0 : Hid (Own (w.alloc (.cells (madeCells #[.int .i64 0] n) 2)) w.heap.size (.slice (some ⟨w.heap.size, 0, none⟩) n n) (M.fkL (M.ent R) n 0)) := own_made w _ n (Nat.le_refl _) (by unfold maxLen; omega)
  have HB0 : Hid (Below w.heap.size w (w.alloc (.cells (madeCells #[.int .i64 0] n) 2))) := b_alloc _ _
  obtain ⟨wa, hwa⟩ : ∃ wa, wa = w.alloc (.cells (madeCells #[.int .i64 0] n) 2) := ⟨_, rfl⟩
  rw [← hwa] at HO0 HB0
  have HO1 : Hid (OwnM (wa.alloc (.cells #[.slice (some ⟨w.heap.size, 0, none⟩) n n] 28)) w.heap.size (.slice (some ⟨wa.heap.size, 0, none⟩) 1 1) (M.endM (M.ent R) n 1)) := ownM_first wa _ HB0.out.size HO0.out
  have HB1 : Hid (Below w.heap.size w (wa.alloc (.cells #[.slice (some ⟨w.heap.size, 0, none⟩) n n] 28))) := HB0.out.alloc HB0.out.size _
  have HI1 : Hid (Ints .i64 (wa.alloc (.cells #[.slice (some ⟨w.heap.size, 0, none⟩) n n] 28)) (some ⟨w.heap.size, 0, none⟩) n (M.fkL (M.ent R) n 0)) := (HO0.out.below (b_alloc wa _)).ints'
  have hmk := run_make_row' (P := Tryz.prog) 28 2 (.int .i64 0) 8 Tryz.underlying28 info64 rfl .i64 .i64 n (by omega) (by omega)
  clear HO0 HB0
  subst hwa
  go_enter Tryz.func117, Tryz.ntmps117
  go_wp2
  clear hmk
  go_loopw [3, 4, 12] (fun ends table i wr => ∃ (k : Nat) (b : Option Addr) (c : Nat) (ra : Option Addr) (rc : Nat), k ≤ n ∧ i = .int .i64 k ∧ table = .slice b (k + 1) c ∧ ends = .slice ra n rc ∧ OwnM wr w.heap.size (.slice b (k + 1) c) (M.endM (M.ent R) n (k + 1)) ∧ Ints .i64 wr ra n (M.fkL (M.ent R) n k) ∧ Below w.heap.size w wr) (fun _ _ i _ => n - (intOf i).toNat)
  case atStart => exact ⟨0, _, _, _, _, Nat.zero_le _, rfl, rfl, rfl, by simpa using HO1.out, HI1.out, HB1.out⟩
  case round =>
    obtain ⟨k, b, c, ra, rc, hk, rfl, rfl, rfl, hO, hI, hb⟩ := hrel
    obtain ⟨wo, rfl⟩ : ∃ x, x = wr := ⟨_, rfl⟩
    have HO := Lib.hid hO
    have HI := Lib.hid hI
    have HB := Lib.hid hb
    have hzo : w.heap.size ≤ wo.heap.size := hb.size
    clear hO hI hb HO1 HI1 HB1
    by_cases hlt : k < n
    · have hki : (k : Int) < (n : Int) := by omega
      have HLB : Hid (∀ i, i < n → M.Big ((M.fkL (M.ent R) n k).getD i 0)) := fun i hi => by
        rw [M.fkL_at _ _ _ _ hi]
        exact M.big_sm (M.Fk_sm HA.out k i hi) (by omega)
      go_wp2_with fail
      refine (timesColumn _ _ _ R _ _ _ _ _ (HS.out.1.below HB.out) HI.out HS.out.2.1 HRB.out HLB.out n1 n2 n1 n2).mono ?_
      rintro e w3 ⟨b3, c3, rfl, ho3, hb3⟩
      rw [M.end_next HL.out] at ho3
      have HR3 := Lib.hid ho3
      have HB3 := Lib.hid hb3
      have hz3 : wo.heap.size ≤ w3.heap.size := hb3.size
      obtain ⟨g, ra0, rc0, rfl, -, -⟩ := HO.out.rowOf 0 (by omega)
      have hg : g < wo.heap.size := HO.out.lt rfl
      have hml : (M.endM (M.ent R) n (k + 1)).length = k + 1 := M.mk_length _ _ _
      have HML := Lib.hid hml
      have HAS : Hid (M.endM (M.ent R) n (k + 1) ++ [M.fkL (M.ent R) n (k + 1)] = M.endM (M.ent R) n (k + 1 + 1)) := (M.mk_snoc _ _ _).symm
      clear ho3 hb3 hml
      go_wp2_with (at_builtin; refine appendRow wo _ rfl (.tmp 17) (.tmp 19) rfl w.heap.size _ _ _ _ (k + 1) HML.out rfl HO.out HB3.out HR3.out rfl (by rw [HML.out]; omega) hzo ?_)
      intro b4 c4 w4 hO4 hb4 hkeep
      rw [HAS.out] at hO4
      have HO4 := Lib.hid hO4
      have HI4 := Lib.hid (HR3.out.keep (w' := w4) (fun q h1 h2 => hkeep q h2 (by intro e; simp only [Value.ownBlock, Option.some.injEq] at e; omega))).ints'
      have HB4 := Lib.hid ((HB.out.trans (HB3.out.mono hzo)).trans hb4)
      clear hO4 hb4 hkeep
      go_wp2
      go_roundw
      case rel => exact ⟨k + 1, _, _, _, _, by omega, by go_num, rfl, rfl, HO4.out, HI4.out, HB4.out⟩
      case measure => simp [intOf]; omega
    · obtain rfl : k = n := by omega
      go_wp2
      go_ret
      exact ⟨_, _, rfl, HO.out, HB.out⟩
end Go.Proofs.YtmhpgnndjagogaaGreat.V

namespace Go.Proofs.YtmhpgnndjagogaaGreat.V
open Go.RowKit
/-- The greatest of the first values. -/
def M.topN (f : Nat → Int) : Nat → Int
  | 0 => f 0
  | k + 1 => max (M.topN f k) (f (k + 1))
theorem M.topN_ge (f : Nat → Int) (m : Nat) : ∀ v, v ≤ m → f v ≤ M.topN f m := by
  induction m with
  | zero => intro v hv; obtain rfl : v = 0 := by omega
            exact Int.le_refl _
  | succ m ih =>
    intro v hv
    show _ ≤ max _ _
    by_cases e : v = m + 1
    · subst e; omega
    · have := ih v (by omega); omega
theorem M.topN_at (f : Nat → Int) (m : Nat) : ∃ v, v ≤ m ∧ M.topN f m = f v := by
  induction m with
  | zero => exact ⟨0, Nat.le_refl _, rfl⟩
  | succ m ih =>
    obtain ⟨v, h1, h2⟩ := ih
    rcases Int.le_total (M.topN f m) (f (m + 1)) with h | h
    · exact ⟨m + 1, Nat.le_refl _, Int.max_eq_right h⟩
    · exact ⟨v, by omega, (Int.max_eq_left h).trans h2⟩
theorem M.topN_congr {f g : Nat → Int} {m : Nat} (h : ∀ v, v ≤ m → f v = g v) : M.topN f m = M.topN g m := by
  induction m with
  | zero => exact h 0 (Nat.le_refl _)
  | succ m ih => show max _ _ = max _ _; rw [ih fun v hv => h v (by omega), h (m + 1) (Nat.le_refl _)]
theorem M.top_cyc {A : Nat → Nat → Int} {n : Nat} (h1 : 1 ≤ n) (h2 : n ≤ 10) (hA : ∀ i j, i < n → j < n → M.Sm 1000000 (A i j)) : decide (M.topN (fun i => (M.fkL A n n).getD i 0) (n - 1) ≠ -1000000000000000) = M.hasCyc A n := by
  have hc : M.topN (fun i => (M.fkL A n n).getD i 0) (n - 1) = M.topN (M.Fk A n n) (n - 1) := M.topN_congr fun v hv => M.fkL_at _ _ _ _ (by omega)
  rw [hc, Bool.eq_iff_iff, decide_eq_true_eq]
  unfold M.hasCyc
  rw [List.any_eq_true]
  obtain ⟨v, hv, e⟩ := M.topN_at (M.Fk A n n) (n - 1)
  constructor
  · intro h
    exact ⟨v, List.mem_range.2 (by omega), by rw [← e]; simpa using h⟩
  · rintro ⟨u, hu, h⟩
    have hu := List.mem_range.1 hu
    have h3 := M.topN_ge (M.Fk A n n) (n - 1) u (by omega)
    have h4 : M.Fk A n n u ≠ -1000000000000000 := by simpa using h
    rcases M.Fk_sm hA n v (by omega) with k | k
    · rcases M.Fk_sm hA n u hu with q | q
      · exact absurd q h4
      · omega
    · omega

set_option maxRecDepth 100000 in
set_option maxHeartbeats 1000000 in
theorem slicesMax (a : Option Addr) (n cap : Nat) (l : List Int) (w : World) (h : Ints .i64 w a n l) (h1 : 1 ≤ n) :
    Calls Tryz.prog 116 #[.slice a n cap] w fun e w' => e = .returned (.int .i64 (M.topN (fun i => l.getD i 0) (n - 1))) ∧ w = w' := by
  obtain ⟨hl, hm, hr⟩ := h
  unfold maxLen at hm
  have hn1 : ¬ (n : Int) < 1 := by omega
  rcases hr with h0 | ⟨b, off, rfl, hbl, hc⟩
  · omega
  have hc0 := hc 0 (by omega)
  rw [Nat.add_zero] at hc0
  have HC := Lib.hid hc
  clear hl hc
  go_enter Tryz.func116, Tryz.ntmps116
  go_wp2
  clear hc0
  go_loop [3, 4] (fun m i => ∃ k : Nat, 1 ≤ k ∧ k ≤ n ∧ i = .int .i64 k ∧ m = .int .i64 (M.topN (fun i => l.getD i 0) (k - 1))) (fun _ i => n - (intOf i).toNat)
  case atStart => exact ⟨1, Nat.le_refl _, h1, rfl, rfl⟩
  case round =>
    obtain ⟨k, hk1, hk, rfl, rfl⟩ := hrel
    by_cases hlt : k < n
    · have hki : (k : Int) < (n : Int) := by omega
      have hck := HC.out k hlt
      have HT : Hid (max (M.topN (fun i => l.getD i 0) (k - 1)) (l.getD k 0) = M.topN (fun i => l.getD i 0) (k + 1 - 1)) := by
        show _ = _
        obtain ⟨q, rfl⟩ : ∃ q, k = q + 1 := ⟨k - 1, by omega⟩
        rfl
      generalize M.topN (fun i => l.getD i 0) (k - 1) = y at HT ⊢
      generalize l.getD k 0 = x at HT hck
      go_wp2
      go_round
      case rel => exact ⟨k + 1, by omega, by omega, by go_num, by rw [← HT.out]; congr 1; split <;> omega⟩
      case measure => simp [intOf]; omega
    · obtain rfl : k = n := by omega
      go_wp2
      go_ret
      exact ⟨rfl, rfl⟩
set_option maxRecDepth 100000 in
set_option maxHeartbeats 1000000 in
theorem hasCycle (a : Option Addr) (n cap : Nat) (R : List (List Int)) (w : World) (h : Sq w a n R) (hA : ∀ i j, i < n → j < n → M.Sm 1000000 (M.ent R i j)) :
    Calls Tryz.prog 60 #[.slice a n cap] w fun e w' => e = .returned (.bool (M.hasCyc (M.ent R) n)) ∧ Below w.heap.size w w' := by
  have HS := Lib.hid h
  have HA := Lib.hid hA
  obtain ⟨n1, n2⟩ := h.2.2.2
  have HT := Lib.hid (M.top_cyc n1 n2 hA)
  clear h hA
  go_enter Tryz.func60, Tryz.ntmps60
  go_wp2_with fail
  refine (endWeights _ _ _ R _ HS.out HA.out).mono ?_
  rintro e w1 ⟨b, c, rfl, hO, hb⟩
  have HB := Lib.hid hb
  obtain ⟨g, ra, rc, rfl, hcell, hr⟩ := hO.rowOf n (by omega)
  rw [M.end_row _ _ _ _ (Nat.lt_succ_self n), M.fkL_len] at hcell hr
  have HI := Lib.hid hr.ints'
  clear hO hb hr
  go_wp2_with fail
  refine (slicesMax _ _ _ _ _ HI.out n1).mono ?_
  rintro e w' ⟨rfl, rfl⟩
  generalize M.topN (fun i => (M.fkL (M.ent R) n n).getD i 0) (n - 1) = y at HT ⊢
  go_wp2
  go_ret
  exact ⟨retB (by rw [← HT.out]; by_cases q : y = -1000000000000000 <;> simp [q]), HB.out⟩
end Go.Proofs.YtmhpgnndjagogaaGreat.V

namespace Go.Proofs.YtmhpgnndjagogaaGreat.V
open Go.RowKit

theorem ints_cells {w : World} {b off n : Nat} {l : List Int} (hc : ∀ i, i < n → w.cell? ⟨b, off + i, none⟩ = some (.int .i64 (l.getD i 0))) (hl : l.length = n) : ∀ j u, (l.map (Value.int .i64))[j]? = some u → w.cell? ((⟨b, off, none⟩ : Addr).add j) = some u := by
  intro j u hj
  have hjn : j < n := by
    by_cases e : j < n
    · exact e
    · rw [List.getElem?_eq_none (by simp; omega)] at hj; cases hj
  rw [Go.WideShapes.add_plain, hc j hjn]
  rw [← hj]
  simp [show j < l.length by omega]

set_option maxRecDepth 100000 in
set_option maxHeartbeats 1000000 in
theorem sOwn (a : Option Addr) (n cap : Nat) (l : List Int) (w : World) (h : Ints .i64 w a n l) (h0 : 0 < n) (hn : n ≤ 1000) :
    Calls Tryz.prog 100 #[.slice a n cap] w fun e w' => ∃ b c, e = .returned (.slice b n c) ∧ Own w' w.heap.size (.slice b n c) l ∧ Below w.heap.size w w' := by
  obtain ⟨hl, hm, hr⟩ := h
  rcases hr with hr | ⟨b, off, rfl, hb, hc⟩
  · omega
  have HL := Lib.hid hl
  have HC := Lib.hid hc
  have HO : Hid (Own (w.alloc (.cells #[] 2)) w.heap.size (.slice (some ⟨w.heap.size, 0, none⟩) 0 0) []) := own_lit0 w _ (Nat.le_refl _)
  obtain ⟨i0, hi, hz0, hz1, hz2⟩ := info_parts info64
  clear hl hc hm
  have HI := Lib.hid hi
  clear hi
  go_enter Tryz.func100, Tryz.ntmps100
  go_wp2_with (at_builtin; refine wpList_append_own_at (w := w.alloc (.cells #[] 2)) rfl (.tmp 3) (.tmp 4) 28 rfl w.heap.size 2 i0 (.int .i64 0) 1 8 Tryz.underlying28 HI.out hz0 hz1 hz2 rfl (by decide) (.slice (some ⟨w.heap.size, 0, none⟩) 0 0) 0 [] rfl HO.out ⟨b, off, none⟩ n cap (l.map (Value.int .i64)) rfl ?c0 ?c1 ?c2 ?c3 ?c4 ?c5 ?_)
  case c0 => have := HL.out; simp [this]
  case c1 =>
    refine ints_cells (fun i hi' => ?_) HL.out
    rw [(b_alloc w _).cell (p := ⟨b, off + i, none⟩) hb]; exact HC.out i hi'
  case c2 => intro u hu; obtain ⟨x, _, rfl⟩ := List.mem_map.1 hu; rfl
  case c3 => unfold maxLen; omega
  case c4 => omega
  case c5 => simp
  intro v' w' ho hg hz hv
  have ho' : Own w' w.heap.size v' l := by
    show w'.ownsRow w.heap.size _ 1 v' l.length (l.map (Value.int .i64))
    rw [HL.out]
    simpa using ho
  obtain ⟨b', c', rfl, _⟩ := own_form ho'
  rw [HL.out] at ho' ⊢
  have HB : Hid (Below w.heap.size w w') := (b_alloc w _).grown hg (by simp) (fun k hk => by simp [Value.ownBlock] at hk; omega)
  have HO' := Lib.hid ho'
  clear ho ho' hg hz hv
  go_wp2
  go_ret
  exact ⟨_, _, rfl, HO'.out, HB.out⟩

set_option maxRecDepth 100000 in
set_option maxHeartbeats 1000000 in
theorem sOwnM (a : Option Addr) (n cap : Nat) (R : List (List Int)) (w : World) (h : Mat w a n R) (hn : n ≤ 1000) (h0 : ∀ i, i < n → 0 < (R.getD i []).length ∧ (R.getD i []).length ≤ 1000) :
    Calls Tryz.prog 137 #[.slice a n cap] w (MPost n R w) := by
  have HA := Lib.hid h
  have HL := Lib.hid h.1
  have H0 := Lib.hid h0
  have hO0 : Hid (OwnM (w.alloc (.cells #[] 28)) w.heap.size (.slice (some ⟨w.heap.size, 0, none⟩) 0 0) []) := ownM_lit0 w _ (Nat.le_refl _)
  clear h h0
  go_enter Tryz.func137, Tryz.ntmps137
  go_wp2
  go_loopw [3, 4] (fun out i wr => ∃ k : Nat, k ≤ n ∧ i = .int .i64 k ∧ ∃ b c, out = .slice b k c ∧ OwnM wr w.heap.size (.slice b k c) (R.take k) ∧ Below w.heap.size w wr) (fun _ i _ => n - (intOf i).toNat)
  case atStart => exact ⟨0, Nat.zero_le _, rfl, _, _, rfl, hO0.out, b_alloc _ _⟩
  case round =>
    obtain ⟨k, hk, rfl, b, c, rfl, hO, hb⟩ := hrel
    have HO := Lib.hid hO
    have HB := Lib.hid hb
    clear hO hb hO0
    by_cases hlt : k < n
    · have hki : (k : Int) < (n : Int) := by omega
      obtain ⟨d, od, ra, rc, L, l, rfl, -, hl, hc, hI⟩ := (HA.out.below HB.out).at k hlt
      have hz := H0.out k hlt
      rw [← hl, hI.1] at hz
      obtain ⟨z1, z2⟩ := hz
      have HI := Lib.hid hI
      have HLl := Lib.hid hl
      clear hI hl
      go_wp2_with fail
      refine (sOwn _ _ _ l _ HI.out z1 z2).mono ?_
      rintro e w1 ⟨b1, c1, rfl, ho1, hb1⟩
      have HO1 := Lib.hid ho1
      have HB1 := Lib.hid hb1
      clear ho1 hb1
      have hs1 := HB.out.size
      have hlen := HO.out.len
      have HLn := Lib.hid hlen
      clear hlen
      go_wp2_with (at_builtin; refine appendRow wr _ rfl (.tmp 12) (.tmp 18) rfl w.heap.size _ _ _ _ k HO.out.len.symm rfl HO.out HB1.out HO1.out rfl (by rw [← HLn.out]; omega) hs1 ?_)
      intro b2 c2 w2 hO2 hb2 _
      have HO2 : Hid (OwnM w2 w.heap.size (.slice b2 (k + 1) c2) (R.take (k + 1))) := by
        show OwnM _ _ _ _
        rw [List.take_succ_eq_append_getElem (by have := HL.out; omega)]
        rw [HLl.out] at hO2
        simpa [show k < R.length by have := HL.out; omega] using hO2
      have HB2 := Lib.hid (HB.out.trans ((HB1.out.mono hs1).trans hb2))
      clear hO2 hb2
      go_wp2
      go_roundw
      case rel => exact ⟨k + 1, by omega, by go_num, _, _, rfl, HO2.out, HB2.out⟩
      case measure => simp [intOf]; omega
    · obtain rfl : k = n := by omega
      have hO2 := HO.out
      rw [List.take_of_length_le (by have := HL.out; omega)] at hO2
      have HO2 := Lib.hid hO2
      clear hO2
      go_wp2
      go_ret
      exact ⟨_, _, rfl, HO2.out, HB.out⟩

set_option maxRecDepth 100000 in
set_option maxHeartbeats 4000000 in
theorem sAddB (a : Option Addr) (n cap : Nat) (R : List (List Int)) (a' : Option Addr) (cap' : Nat) (R' : List (List Int)) (L : Nat) (w : World) (h : Mat w a n R) (h' : Mat w a' n R') (hr : Rect R n L) (hr' : Rect R' n L) (m1 : 1 ≤ n) (m2 : n ≤ 10) (c1 : 1 ≤ L) (c2 : L ≤ 10) :
    Calls Tryz.prog 134 #[.slice a n cap, .slice a' n cap'] w (MPost n (M.mk n L (fun i j => max (M.ent R i j) (M.ent R' i j))) w) := by
  have HA := Lib.hid h
  have HA' := Lib.hid h'
  have HL := Lib.hid h.1
  have HL' := Lib.hid h'.1
  have HR := Lib.hid hr
  have HR' := Lib.hid hr'
  have HE : Hid (R = M.mk n L (M.ent R)) := by
    show _ = _
    rw [← hr.1]
    exact (M.mk_self R L (fun i hi => hr.2 i (by rw [← hr.1]; exact hi))).symm
  have H0 : Hid (∀ i, i < n → 0 < (R.getD i []).length ∧ (R.getD i []).length ≤ 1000) := fun i hi => by
    rw [hr.2 i hi]; omega
  clear h h' hr hr'
  go_enter Tryz.func134, Tryz.ntmps134
  go_wp2_with fail
  refine (sOwnM _ _ _ R _ HA.out (by omega) H0.out).mono ?_
  rintro e w1 ⟨a2, cap2, rfl, ho, hb⟩
  have hO0 : OwnM w1 w.heap.size (.slice a2 n cap2) (M.mk n L (fun i j => if i < 0 then max (M.ent R i j) (M.ent R' i j) else M.ent R i j)) := by
    rw [HE.out] at ho
    exact (congrArg (OwnM _ _ _) (M.mk_congr fun i _ j _ => by rw [if_neg (Nat.not_lt_zero i)])).mp ho
  have HO0 := Lib.hid hO0
  have HB0 := Lib.hid hb
  clear ho hb hO0
  go_wp2
  go_loopw [6] (fun i wr => ∃ k : Nat, k ≤ n ∧ i = .int .i64 k ∧ OwnM wr w.heap.size (.slice a2 n cap2) (M.mk n L (fun i j => if i < k then max (M.ent R i j) (M.ent R' i j) else M.ent R i j)) ∧ Below w.heap.size w wr) (fun i _ => n - (intOf i).toNat)
  case atStart => exact ⟨0, Nat.zero_le _, rfl, HO0.out, HB0.out⟩
  case round =>
    obtain ⟨k, hk, rfl, hO, hb⟩ := hrel
    obtain ⟨wo, rfl⟩ : ∃ x, x = wr := ⟨_, rfl⟩
    have HO := Lib.hid hO
    have HB := Lib.hid hb
    clear hO hb HO0 HB0
    by_cases hlt : k < n
    · have hki : (k : Int) < (n : Int) := by omega
      have HO2 : Hid (OwnM wo w.heap.size (.slice a2 n cap2) (M.mk n L (fun i j => if i < k ∨ (i = k ∧ j < 0) then max (M.ent R i j) (M.ent R' i j) else M.ent R i j))) :=
        (congrArg (OwnM _ _ _) (M.mk_congr fun i _ j _ => by
          by_cases e : i < k
          · rw [if_pos e, if_pos (.inl e)]
          · rw [if_neg e, if_neg (by omega)])).mp HO.out
      go_wp2
      go_loopw [7] (fun j wr => ∃ t : Nat, t ≤ L ∧ j = .int .i64 t ∧ OwnM wr w.heap.size (.slice a2 n cap2) (M.mk n L (fun i j => if i < k ∨ (i = k ∧ j < t) then max (M.ent R i j) (M.ent R' i j) else M.ent R i j)) ∧ Below w.heap.size w wr) (fun j _ => L - (intOf j).toNat)
      case atStart => exact ⟨0, Nat.zero_le _, rfl, HO2.out, HB.out⟩
      case round =>
        obtain ⟨t, ht, rfl, hO, hb⟩ := hrel
        have HOi := Lib.hid hO
        have HBi := Lib.hid hb
        clear hO hb HO2 HB HO
        by_cases htl : t < L
        · have hti : (t : Int) < (L : Int) := by omega
          have hkR' : k < R'.length := by have := HL'.out; omega
          obtain ⟨g, q, L3, c3, x3, rfl, hg3, hq3, hL3, hx3, c31, c32, f31, ho3⟩ := HOi.out.at k t hlt (by rw [M.mk_rowlen _ _ _ _ hlt]; exact htl)
          rw [M.mk_rowlen _ _ _ _ hlt] at hL3
          subst hL3
          obtain ⟨d, od, rd', ro', L5, c5, x5, rfl, hL5, hx5, c51, c52⟩ := (HA'.out.below HBi.out).ent k t hlt (by rw [HR'.out.2 k hlt]; exact htl)
          rw [HR'.out.2 k hlt] at hL5
          subst hL5
          rw [M.mk_ent _ _ _ _ _ hlt htl, if_neg (by omega)] at hx3
          have HN : Hid (OwnM (wr.setCell ⟨q, t, none⟩ (.int .i64 (if x3 < x5 then x5 else x3))) w.heap.size (.slice (some ⟨g, 0, none⟩) n cap2) (M.mk n L5 (fun i j => if i < k ∨ (i = k ∧ j < t + 1) then max (M.ent R i j) (M.ent R' i j) else M.ent R i j))) := by
            refine (congrArg (OwnM _ _ _) ?_).mp (ho3 (if x3 < x5 then x5 else x3))
            rw [M.mk_set _ _ _ _ _ _ hlt]
            refine M.mk_congr fun i _ j _ => ?_
            by_cases e : i = k
            · subst e
              rw [if_pos rfl]
              by_cases e2 : j = t
              · subst e2; rw [if_pos rfl, ← M.ifmax, if_pos (.inr ⟨rfl, by omega⟩), hx3, hx5]; rfl
              · rw [if_neg e2]
                by_cases e3 : j < t
                · rw [if_pos (.inr ⟨rfl, e3⟩), if_pos (.inr ⟨rfl, by omega⟩)]
                · rw [if_neg (by omega), if_neg (by omega)]
            · rw [if_neg e]
              by_cases e3 : i < k
              · rw [if_pos (.inl e3), if_pos (.inl e3)]
              · rw [if_neg (by omega), if_neg (by omega)]
          clear ho3 hx3 hx5 hkR'
          go_wp2
          go_still_tail 21, (by kernel_rfl)
          change wpList _ _ _ _ _ wr.drew
          go_wp2
          first
            | exact ⟨⟨t + 1, by omega, by go_num, HN.out.keep (fun _ _ _ => rfl), HBi.out.drew.setCell hq3 _⟩, by simp [intOf]; omega⟩
            | (have HN2 := HN.out
               rw [← M.ifmax] at HN2
               exact ⟨⟨t + 1, by omega, by go_num, HN2.keep (fun _ _ _ => rfl), HBi.out.drew.setCell hq3 _⟩, by simp [intOf]; omega⟩)
        · obtain rfl : t = L := by omega
          have HO2 : Hid (OwnM wr w.heap.size (.slice a2 n cap2) (M.mk n t (fun i j => if i < k + 1 then max (M.ent R i j) (M.ent R' i j) else M.ent R i j))) :=
            (congrArg (OwnM _ _ _) (M.mk_congr fun i _ j hj => by
              by_cases e : i < k + 1
              · rw [if_pos e, if_pos (by omega)]
              · rw [if_neg e, if_neg (by omega)])).mp HOi.out
          obtain ⟨g, o, ra, rc, L3, l3, rfl, -, hl3, hc3, hI3⟩ := HOi.out.mat.at k hlt
          have e3 : L3 = t := by rw [← hI3.1, hl3, M.mk_rowlen _ _ _ _ hlt]
          subst e3
          clear hl3 hI3
          go_wp2
          go_roundw
          case rel => exact ⟨k + 1, by omega, by go_num, HO2.out, HBi.out⟩
          case measure => simp [intOf]; omega
    · obtain rfl : k = n := by omega
      go_wp2
      go_ret
      refine ⟨_, _, rfl, ?_, HB.out⟩
      exact (congrArg (OwnM _ _ _) (M.mk_congr fun i hi j _ => by rw [if_pos hi])).mp HO.out
theorem sAddM (a : Option Addr) (n cap : Nat) (R : List (List Int)) (a' : Option Addr) (n' cap' : Nat) (R' : List (List Int)) (w : World) (h : Mat w a n R) (h' : Mat w a' n' R') (hR : M.isMat R = true) (hR' : M.isMat R' = true) (hl : n = n') (hw : M.wid R = M.wid R') :
    Calls Tryz.prog 134 #[.slice a n cap, .slice a' n' cap'] w (MPost n (M.addM R R') w) := by
  subst hl
  obtain ⟨m1, m2, c1, c2, -, -⟩ := M.isMat_t hR
  have e1 := h.1
  have e2 := h'.1
  have t1 := rect_mat hR
  have t2 := rect_mat hR'
  rw [e1] at t1 m1 m2
  rw [e2, ← hw] at t2
  have := sAddB a n cap R a' cap' R' _ w h h' t1 t2 m1 m2 c1 c2
  unfold M.addM
  rw [e1]
  exact this

end Go.Proofs.YtmhpgnndjagogaaGreat.V

namespace Go.Proofs.YtmhpgnndjagogaaGreat.V
open Go.RowKit

set_option maxRecDepth 100000 in
set_option maxHeartbeats 1000000 in
theorem clone (a : Option Addr) (n cap : Nat) (l : List Int) (w : World) (h : Ints .i64 w a n l) (h0 : 0 < n) (hn : n ≤ 1000) :
    Calls Tryz.prog 109 #[.slice a n cap] w fun e w' => ∃ b c, e = .returned (.slice b n c) ∧ Own w' w.heap.size (.slice b n c) l ∧ Below w.heap.size w w' := by
  obtain ⟨hl, hm, hr⟩ := h
  rcases hr with hr | ⟨b, off, rfl, hb, hc⟩
  · omega
  have HL := Lib.hid hl
  have HC := Lib.hid hc
  have HO : Hid (Own (w.alloc (.cells #[] 2)) w.heap.size (.slice (some ⟨w.heap.size, 0, none⟩) 0 0) []) := own_lit0 w _ (Nat.le_refl _)
  obtain ⟨i0, hi, hz0, hz1, hz2⟩ := info_parts info64
  clear hl hc hm
  have HI := Lib.hid hi
  clear hi
  have hnil := fun w : World => Lib.run_eql_slice_nil (P := Tryz.prog) w 28 2 (some (⟨b, off, none⟩ : Addr)) n cap 0 0 Tryz.underlying28
  go_enter Tryz.func109, Tryz.ntmps109
  go_wp2_with (at_builtin; refine wpList_append_own_at (w := w.alloc (.cells #[] 2)) rfl (.tmp 5) (.tmp 6) 28 rfl w.heap.size 2 i0 (.int .i64 0) 1 8 Tryz.underlying28 HI.out hz0 hz1 hz2 rfl (by decide) (.slice (some ⟨w.heap.size, 0, none⟩) 0 0) 0 [] rfl HO.out ⟨b, off, none⟩ n cap (l.map (Value.int .i64)) rfl ?c0 ?c1 ?c2 ?c3 ?c4 ?c5 ?_)
  case c0 => have := HL.out; simp [this]
  case c1 =>
    refine ints_cells (fun i hi' => ?_) HL.out
    rw [(b_alloc w _).cell (p := ⟨b, off + i, none⟩) hb]; exact HC.out i hi'
  case c2 => intro u hu; obtain ⟨x, _, rfl⟩ := List.mem_map.1 hu; rfl
  case c3 => unfold maxLen; omega
  case c4 => omega
  case c5 => simp
  intro v' w' ho hg hz hv
  have ho' : Own w' w.heap.size v' l := by
    show w'.ownsRow w.heap.size _ 1 v' l.length (l.map (Value.int .i64))
    rw [HL.out]
    simpa using ho
  obtain ⟨b', c', rfl, _⟩ := own_form ho'
  rw [HL.out] at ho' ⊢
  have HB : Hid (Below w.heap.size w w') := (b_alloc w _).grown hg (by simp) (fun k hk => by simp [Value.ownBlock] at hk; omega)
  have HO' := Lib.hid ho'
  clear ho ho' hg hz hv
  go_wp2
  go_ret
  exact ⟨_, _, rfl, HO'.out, HB.out⟩

set_option maxRecDepth 100000 in
set_option maxHeartbeats 1000000 in
theorem copiedMatrix (a : Option Addr) (n cap : Nat) (R : List (List Int)) (L : Nat) (w : World) (h : Mat w a n R) (hr : Rect R n L) (m1 : 1 ≤ n) (hm : n ≤ 10) (n1 : 1 ≤ L) (hn : L ≤ 10) :
    Calls Tryz.prog 129 #[.slice a n cap] w (MPost n R w) := by
  have HA := Lib.hid h
  have HR := Lib.hid hr
  obtain ⟨b, off, -, -, rfl, -, -⟩ := h.rect_first hr (by omega)
  have hmk := run_make_row' (P := Tryz.prog) 24 28 (.slice none 0 0) 24 Tryz.underlying24 infoS64 rfl .i64 .i64 n (by omega) (by omega)
  have hO0 : Hid (OwnM (w.alloc (.cells (madeCells #[.slice none 0 0] n) 28)) w.heap.size (.slice (some ⟨w.heap.size, 0, none⟩) n n) (List.replicate n [])) := ownM_made w _ n (Nat.le_refl _) (by unfold maxLen; omega)
  clear h hr
  go_enter Tryz.func129, Tryz.ntmps129
  go_wp2
  clear hmk
  go_loopw [4, 5, 11] (fun _ _ i wr => ∃ k : Nat, k ≤ n ∧ i = .int .i64 k ∧ OwnM wr w.heap.size (.slice (some ⟨w.heap.size, 0, none⟩) n n) ((List.range n).map fun j => if j < k then R.getD j [] else []) ∧ Below w.heap.size w wr) (fun _ _ i _ => n - (intOf i).toNat)
  case atStart =>
    refine ⟨0, Nat.zero_le _, rfl, (congrArg (OwnM _ _ _) ?_).mp hO0.out, b_alloc _ _⟩
    apply List.ext_getElem
    · simp
    · intro i h1 h2; simp
  case round =>
    obtain ⟨k, hk, rfl, hO, hb⟩ := hrel
    have HO := Lib.hid hO
    have HB := Lib.hid hb
    clear hO hb hO0
    by_cases hlt : k < n
    · have hki : (k : Int) < (n : Int) := by omega
      have hg := HO.out.lt rfl
      obtain ⟨d, od, rr, rcr, hdd, hbr, hcr, hIr⟩ := (HA.out.below HB.out).rect_at HR.out k hlt
      injection hdd with hdd
      injection hdd with e1 e2
      subst e1 e2
      have HIR := Lib.hid hIr
      clear hIr
      go_wp2_with fail
      refine (clone _ _ _ _ _ HIR.out (by omega) (by omega)).mono ?_
      rintro e w1 ⟨b1, c1, rfl, ho1, hb1⟩
      have hst : ∃ v, w1.cell? ⟨w.heap.size, k, none⟩ = some v := by
        obtain ⟨v, hv⟩ := HO.out.outer k hlt
        exact ⟨v, by rw [hb1.cell (p := ⟨w.heap.size, k, none⟩) hg]; exact hv⟩
      obtain ⟨v, hst⟩ := hst
      have hfz : w1.frozen? ⟨w.heap.size, k, none⟩ = false := by rw [hb1.frozen (p := ⟨w.heap.size, k, none⟩) hg]; exact HO.out.outerFz k
      have HN := Lib.hid (HO.out.setRow hb1 HB.out.size ho1 k hlt)
      have HB1 := Lib.hid (bnext HB.out hb1)
      clear ho1 hb1 hg
      go_wp2
      go_roundw
      case rel =>
        refine ⟨k + 1, by omega, by go_num, ?_, HB1.out.setCell (Nat.le_refl _) _⟩
        refine (congrArg (OwnM _ _ _) ?_).mp HN.out
        rw [M.map_set_rows]
        refine List.map_congr_left fun s _ => ?_
        by_cases e : s = k
        · subst e; rw [if_pos rfl, if_pos (by omega)]
        · rw [if_neg e]
          by_cases e2 : s < k
          · rw [if_pos e2, if_pos (by omega)]
          · rw [if_neg e2, if_neg (by omega)]
      case measure => simp [intOf]; omega
    · obtain rfl : k = n := by omega
      go_wp2
      go_ret
      refine ⟨_, _, rfl, (congrArg (OwnM _ _ _) ?_).mp HO.out, HB.out⟩
      have hl := HR.out.1
      apply List.ext_getElem
      · simp [hl]
      · intro i h1 h2
        simp at h1
        simp [h1, h2]

/-- Three entries of an owned square matrix, of which the first is written. -/
theorem OwnM.tri {w : World} {B n cap : Nat} {a : Option Addr} {R : List (List Int)} (h : OwnM w B (.slice a n cap) R) (hr : Rect R n n) (i j k : Nat) (hi : i < n) (hj : j < n) (hk : k < n) :
    ∃ g q c q' c', a = some ⟨g, 0, none⟩ ∧ B ≤ q ∧ w.cell? ⟨g, i, none⟩ = some (.slice (some ⟨q, 0, none⟩) n c) ∧ w.cell? ⟨q, j, none⟩ = some (.int .i64 (M.ent R i j)) ∧ w.cell? ⟨q, k, none⟩ = some (.int .i64 (M.ent R i k)) ∧
      w.cell? ⟨g, k, none⟩ = some (.slice (some ⟨q', 0, none⟩) n c') ∧ w.cell? ⟨q', j, none⟩ = some (.int .i64 (M.ent R k j)) ∧ w.frozen? ⟨q, j, none⟩ = false ∧
      ∀ y, OwnM (w.setCell ⟨q, j, none⟩ (.int .i64 y)) B (.slice a n cap) (R.set i ((R.getD i []).set j y)) := by
  obtain ⟨g, q, L, c, x, rfl, _, hq, hL, hx, h1, h2, h3, h4⟩ := h.at i j hi (by rw [hr.2 i hi]; exact hj)
  obtain ⟨g2, q2, L2, c2, x2, e, _, _, hL2, hx2, k1, k2, _, _⟩ := h.at i k hi (by rw [hr.2 i hi]; exact hk)
  injection e with e
  injection e with e
  subst e
  rw [h1] at k1
  injection k1 with k1
  injection k1 with k1 _ _
  injection k1 with k1
  injection k1 with k1
  subst k1
  obtain ⟨g3, q3, L3, c3, x3, e, _, _, hL3, hx3, m1, m2, _, _⟩ := h.at k j hk (by rw [hr.2 k hk]; exact hj)
  injection e with e
  injection e with e
  subst e
  rw [hr.2 i hi] at hL
  rw [hr.2 k hk] at hL3
  subst hL hL3 hx hx2 hx3
  exact ⟨g, q, c, q3, c3, rfl, hq, h1, h2, k2, m1, m2, h3, h4⟩
end Go.Proofs.YtmhpgnndjagogaaGreat.V
