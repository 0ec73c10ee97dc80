/- Weights of lists of nodes, in the program and in the model. -/
import Derived.Test.YthonlfjjgmmnpabRows
import Derived.Test.YthonlfjjgmmnpabPln
import Derived.Test.YthonlfjjgmmnpabHelp
import Derived.Test.YthonlfjjgmmnpabRows0
import Derived.Test.YthonlfjjgmmnpabOwn
import Derived.Test.YthonlfjjgmmnpabMat0
import Derived.WalkKit
import Derived.ProofKit
import Derived.WalkSmall
import Derived.Deep.QuietTactic
import Derived.BigQuiet
import Derived.BigRegion
import Derived.Deep.Draws
import Derived.Lib.Hide
import Derived.IntWalk
import Derived.OpenShut
import Derived.Deep.OwnRows
import Derived.Test.YthonlfjjgmmnpabVals0
import Derived.Test.YthonlfjjgmmnpabVec
import Derived.Test.YthonlfjjgmmnpabIsMat
import Derived.Test.YthonlfjjgmmnpabSMul
import Derived.Test.YthonlfjjgmmnpabIMul
import Derived.Test.YthonlfjjgmmnpabPth1
namespace Go.Proofs.Ythonlfjjgmmnpab.V
open Go.RowKit

/-- A square matrix of values. -/
def Sq (w : World) (a : Option Addr) (n : Nat) (R : List (List Int)) : Prop := Mat w a n R ∧ Rect R n n ∧ (∀ i j, i < n → j < n → M.Sm 1000001000000 (M.ent R i j)) ∧ 1 ≤ n ∧ n ≤ 10
theorem sq_of {w : World} {a : Option Addr} {n : Nat} {R : List (List Int)} (h : Mat w a n R) (hs : M.sqB R = true) : Sq w a n R := by
  obtain ⟨h1, h2⟩ := M.sqB_t hs
  have hr := rect_mat h1
  obtain ⟨m1, m2, -⟩ := M.isMat_t h1
  rw [← h2, h.1] at hr
  rw [h.1] at m1 m2
  exact ⟨h, hr, fun i j hi hj => M.sm_wide (M.sm_val (tm_val h1 hr m1 hi hj)), m1, m2⟩
theorem Sq.below {w w' : World} {a : Option Addr} {n : Nat} {R : List (List Int)} (h : Sq w a n R) (hb : Below w.heap.size w w') : Sq w' a n R := ⟨h.1.below hb, h.2⟩
theorem Sq.arc {w : World} {a : Option Addr} {n : Nat} {R : List (List Int)} {l : List Int} (h : Sq w a n R) (hv : M.nodesB n l = true) {i j : Nat} (hi : i < l.length) (hj : j < l.length) : M.Sm 1000001000000 (M.ent R (M.vx l i) (M.vx l j)) :=
  h.2.2.1 _ _ (M.vx_lt hv hi) (M.vx_lt hv hj)
/-- The weights along a list of nodes are near to 0. -/
theorem Sq.along {w : World} {a : Option Addr} {n : Nat} {R : List (List Int)} {l : List Int} (h : Sq w a n R) (hv : M.nodesB n l = true) {t : Nat} (ht : t < l.length) : M.Sm (1000001000000 * t) (M.wkc (M.ent R) (M.vx l) t) :=
  M.wkc_sm fun u hu => h.arc hv (by omega) (by omega)
theorem wn_big {L v : Int} {t : Nat} (h : M.Sm (1000001000000 * t) v) (ht : t ≤ 99) : M.Big v := M.big_sm h (by omega)

set_option maxRecDepth 100000 in
set_option maxHeartbeats 1000000 in
theorem weightAlong (a : Option Addr) (n cap : Nat) (R : List (List Int)) (a' : Option Addr) (N cap' : Nat) (l : List Int) (w : World) (h : Sq w a n R) (h' : Ints .i64 w a' N l) (hv : M.nodesB n l = true) (hc1 : N ≤ cap') (hc2 : cap' ≤ maxLen) (N1 : 1 ≤ N) (N2 : N ≤ 100) :
    Calls Try.prog 131 #[.slice a n cap, .slice a' N cap'] w fun e w' => e = .returned (.int .i64 (M.alongW R l)) ∧ ∃ q, w' = w.drewN q := by
  unfold maxLen at hc2
  have HS := Lib.hid h
  have HI := Lib.hid h'
  have HV := Lib.hid hv
  have HL := Lib.hid h'.1
  obtain ⟨b', off', x0, rfl, -, -, -⟩ := h'.at 0 (by omega)
  obtain ⟨b, off, ra, rc, rfl, -, -⟩ := h.1.rect_first h.2.1 h.2.2.2.1
  obtain ⟨n1, n2⟩ := h.2.2.2
  clear h h' hv
  by_cases h1 : N = 1
  · subst h1
    have HE : Hid (M.alongW R l = 0) := by show _ = _; unfold M.alongW; rw [HL.out]; rfl
    by_cases hk : cap' = 1
    · subst hk
      go_enter Try.func131, Try.ntmps131
      go_wp2
      go_loop [5, 11] (fun sm i => sm = .int .i64 0 ∧ i = .int .i64 0) (fun _ _ => 0)
      case atStart => exact ⟨rfl, rfl⟩
      case round =>
        obtain ⟨rfl, rfl⟩ := hrel
        go_wp2
        go_ret
        exact ⟨retI HE.out.symm, 0, rfl⟩
    · have hk2 : (cap' : Nat) ≠ 1 := hk
      go_enter Try.func131, Try.ntmps131
      go_wp2
      go_loop [5, 11] (fun sm i => sm = .int .i64 0 ∧ i = .int .i64 0) (fun _ _ => 0)
      case atStart => exact ⟨rfl, rfl⟩
      case round =>
        obtain ⟨rfl, rfl⟩ := hrel
        go_wp2
        go_ret
        exact ⟨retI HE.out.symm, 0, rfl⟩
  · have hk : (cap' : Nat) ≠ 1 := by omega
    have hk1 : 1 ≤ cap' := by omega
    have HA0 : Hid ((0 : Int) = M.wkc (M.ent R) (M.vx l) 0) := rfl
    go_enter Try.func131, Try.ntmps131
    go_wp2
    go_loopw [5, 6, 7, 11] (fun sm _ _ i wr => ∃ (k : Nat) (y : Int), k ≤ N - 1 ∧ i = .int .i64 k ∧ sm = .int .i64 y ∧ Hid (y = M.wkc (M.ent R) (M.vx l) k) ∧ ∃ q, wr = w.drewN q) (fun _ _ _ i _ => N - (intOf i).toNat)
    case atStart => exact ⟨0, _, Nat.zero_le _, rfl, rfl, HA0, 0, rfl⟩
    case round =>
      obtain ⟨k, y, hk', rfl, rfl, HY, q2, rfl⟩ := hrel
      by_cases hlt : k + 1 < N
      · have hki : (k : Int) < (N : Int) - 1 := by omega
        obtain ⟨d, od, x1, hdd, hd, hx1, c1⟩ := HI.out.at k (by omega)
        injection hdd with hdd
        injection hdd with e1 e2
        subst e1 e2
        obtain ⟨d, od, x2, hdd, hd, hx2, c2⟩ := HI.out.at (k + 1) hlt
        injection hdd with hdd
        injection hdd with e1 e2
        subst e1 e2
        have hl := HL.out
        have hb1 := M.nodesB_at HV.out (k := k) (by omega)
        have hb2 := M.nodesB_at HV.out (k := k + 1) (by omega)
        have hv1 : x1 = ((M.vx l k : Nat) : Int) := by rw [hx1]; unfold M.vx; omega
        have hv2 : x2 = ((M.vx l (k + 1) : Nat) : Int) := by rw [hx2]; unfold M.vx; omega
        have hw1 := M.vx_lt HV.out (k := k) (by omega)
        have hw2 := M.vx_lt HV.out (k := k + 1) (by omega)
        obtain ⟨d, od, rd, rdo, c4, z, hdd, hz, c41, c42⟩ := HS.out.1.rect_ent HS.out.2.1 (M.vx l (k + 1)) (M.vx l k) hw2 hw1
        injection hdd with hdd
        injection hdd with e1 e2
        subst e1 e2
        have HY2 : Hid (M.times y z = M.wkc (M.ent R) (M.vx l) (k + 1)) := by show _ = _; rw [HY.out, hz]; rfl
        have HB1 : Hid (M.Big y) := by
          show M.Big _
          rw [HY.out]
          exact M.big_sm (HS.out.along HV.out (t := k) (by omega)) (by omega)
        have HB2 : Hid (M.Big z) := by
          show M.Big _
          rw [hz]
          exact M.big_sm (HS.out.arc HV.out (by omega) (by omega)) (by omega)
        generalize M.vx l k = u1 at hv1 hw1 c42
        generalize M.vx l (k + 1) = u2 at hv2 hw2 c41
        subst hv1 hv2
        obtain ⟨y2, hy2⟩ : ∃ y2, y2 = M.times y z := ⟨_, rfl⟩
        rw [← hy2] at HY2
        have HC1 : ∀ w : World, Calls Try.prog 118 #[.int .i64 y, .int .i64 z] w fun e w' => e = .returned (.int .i64 y2) ∧ w = w' := by
          intro w
          rw [hy2]
          exact timesB _ _ _ HB1.out HB2.out
        have c2' : w.cell? ⟨b', off' + 1 + k, none⟩ = some (.int .i64 (u2 : Int)) := by rw [show off' + 1 + k = off' + (k + 1) by omega]; exact c2
        clear hx1 hx2 hz hd hb1 hb2 hl hy2 c2
        go_wp2
        go_quiet ((go_at_call 118; exact q_more_s (HC1 _)))
        go_wp2
        go_roundw
        case rel => exact ⟨k + 1, _, by omega, by go_num, rfl, HY2, _, rfl⟩
        case measure => simp [intOf]; omega
      · obtain rfl : N = k + 1 := by omega
        go_wp2
        go_ret
        exact ⟨retI (by rw [HY.out]; unfold M.alongW; rw [HL.out]; rfl), _, rfl⟩

set_option maxRecDepth 100000 in
set_option maxHeartbeats 1000000 in
theorem weightAround (a : Option Addr) (n cap : Nat) (R : List (List Int)) (a' : Option Addr) (N cap' : Nat) (l : List Int) (w : World) (h : Sq w a n R) (h' : Ints .i64 w a' N l) (hv : M.nodesB n l = true) (hc1 : N ≤ cap') (hc2 : cap' ≤ maxLen) (N1 : 1 ≤ N) (N2 : N ≤ 100) :
    Calls Try.prog 125 #[.slice a n cap, .slice a' N cap'] w fun e w' => e = .returned (.int .i64 (M.aroundW R l)) ∧ ∃ q, w' = w.drewN q := by
  have HM := Lib.hid hc2
  have HS := Lib.hid h
  have HI := Lib.hid h'
  have HV := Lib.hid hv
  have HL := Lib.hid h'.1
  obtain ⟨b', off', x0, rfl, hd0, hx0, c0⟩ := h'.at 0 (by omega)
  obtain ⟨d, od, x1, hdd, hd1, hx1, c1⟩ := h'.at (N - 1) (by omega)
  injection hdd with hdd
  injection hdd with e1 e2
  subst e1 e2
  have hl := h'.1
  have hb1 := M.nodesB_at hv (k := 0) (by omega)
  have hb2 := M.nodesB_at hv (k := N - 1) (by omega)
  have hv1 : x0 = ((M.vx l 0 : Nat) : Int) := by rw [hx0]; unfold M.vx; omega
  have hv2 : x1 = ((M.vx l (N - 1) : Nat) : Int) := by rw [hx1]; unfold M.vx; omega
  have hw1 := M.vx_lt hv (k := 0) (by omega)
  have hw2 := M.vx_lt hv (k := N - 1) (by omega)
  obtain ⟨b, off, rd, rdo, c4, z, rfl, hz, c41, c42⟩ := h.1.rect_ent h.2.1 (M.vx l 0) (M.vx l (N - 1)) hw1 hw2
  obtain ⟨y, hy⟩ : ∃ y, y = M.alongW R l := ⟨_, rfl⟩
  have HY := Lib.hid hy
  obtain ⟨y2, hy2⟩ : ∃ y2, y2 = M.times y z := ⟨_, rfl⟩
  have HY2 : Hid (y2 = M.aroundW R l) := by show _ = _; rw [hy2, hy, hz, ← hl]; rfl
  have HB1 : Hid (M.Big y) := by
    show M.Big _
    rw [hy]; unfold M.alongW
    exact M.big_sm (h.along hv (t := l.length - 1) (by omega)) (by omega)
  have HB2 : Hid (M.Big z) := by
    show M.Big _
    rw [hz]
    exact M.big_sm (h.arc hv (by omega) (by omega)) (by omega)
  have HC1 : ∀ w : World, Calls Try.prog 118 #[.int .i64 y, .int .i64 z] w fun e w' => e = .returned (.int .i64 y2) ∧ w = w' := by
    intro w
    rw [hy2]
    exact timesB _ _ _ HB1.out HB2.out
  have HC2 : ∀ q, Calls Try.prog 131 #[.slice (some ⟨b, off, none⟩) n cap, .slice (some ⟨b', off', none⟩) N cap'] (w.drewN q) fun e w' => e = .returned (.int .i64 y) ∧ ∃ p, w' = (w.drewN q).drewN p := by
    intro q
    rw [HY.out]
    exact weightAlong _ _ _ _ _ _ _ _ _ (HS.out.below (b_draws _ _)) (HI.out.below (b_draws _ _)) HV.out hc1 HM.out N1 N2
  obtain ⟨n1, n2⟩ := h.2.2.2
  generalize M.vx l 0 = u1 at hv1 hw1 c41
  generalize M.vx l (N - 1) = u2 at hv2 hw2 c42
  subst hv1 hv2
  unfold maxLen at hc2
  have hn0 : ((N : Int) - 1).toNat = N - 1 := by omega
  have hn1 : 0 ≤ (N : Int) - 1 := by omega
  have hn2 : (N : Int) - 1 < N := by omega
  have hn3 : IntKind.i64.wrap ((N : Int) - 1) = (N : Int) - 1 := IntWalk.i64_in _ (by omega)
  clear h h' hv hl hb1 hb2 hx0 hx1 hz hd0 hd1 hy hy2
  rw [Nat.add_zero] at c0
  go_enter Try.func125, Try.ntmps125
  go_wp2
  go_quiet (fail)
  go_wp2
  go_quiet (first | (go_at_call 131; exact q_more (HC2 _)) | (go_at_call 118; exact q_more_s (HC1 _)))
  go_wp2
  go_ret
  exact ⟨retI HY2.out, _, World.drewN_drewN _ _ _⟩

set_option maxRecDepth 100000 in
set_option maxHeartbeats 1000000 in
theorem sWalk (a : Option Addr) (n cap : Nat) (R : List (List Int)) (a' : Option Addr) (N cap' : Nat) (l : List Int) (w : World) (h : Sq w a n R) (h' : Ints .i64 w a' N l) (hv : M.nodesB n l = true) (N1 : 1 ≤ N) (N2 : N ≤ 100) :
    Calls Try.prog 104 #[.slice a n cap, .slice a' N cap'] w fun e w' => e = .returned (.tuple #[.int .i64 (M.walkR R l).1, .bool (M.walkR R l).2]) ∧ ∃ q, w' = w.drewN q := by
  have HS := Lib.hid h
  have HI := Lib.hid h'
  have HV := Lib.hid hv
  have HL := Lib.hid h'.1
  obtain ⟨b', off', x0, rfl, -, -, -⟩ := h'.at 0 (by omega)
  obtain ⟨b, off, ra, rc, rfl, -, -⟩ := h.1.rect_first h.2.1 h.2.2.2.1
  obtain ⟨n1, n2⟩ := h.2.2.2
  clear h h' hv
  have HA0 : Hid ((0 : Int) = M.wkc (M.ent R) (M.vx l) 0) := rfl
  go_enter Try.func104, Try.ntmps104
  go_wp2
  go_loopw [6, 7, 8] (fun sm i _ wr => ∃ (k : Nat) (y : Int), 1 ≤ k ∧ k ≤ N ∧ i = .int .i64 k ∧ sm = .int .i64 y ∧ y ≠ -1000000000000000 ∧ Hid (y = M.wkc (M.ent R) (M.vx l) (k - 1)) ∧ ∃ q, wr = w.drewN q) (fun _ i _ _ => N - (intOf i).toNat)
  case atStart => exact ⟨1, _, Nat.le_refl _, N1, rfl, rfl, by omega, HA0, 0, rfl⟩
  case round =>
    obtain ⟨k, y, hk1, hk', rfl, rfl, hy0, HY, q2, rfl⟩ := hrel
    by_cases hlt : k < N
    · have hki : (k : Int) < (N : Int) := by omega
      obtain ⟨d, od, x1, hdd, hd, hx1, c1⟩ := HI.out.at (k - 1) (by omega)
      injection hdd with hdd
      injection hdd with e1 e2
      subst e1 e2
      obtain ⟨d, od, x2, hdd, hd, hx2, c2⟩ := HI.out.at k hlt
      injection hdd with hdd
      injection hdd with e1 e2
      subst e1 e2
      have hl := HL.out
      have hb1 := M.nodesB_at HV.out (k := k - 1) (by omega)
      have hb2 := M.nodesB_at HV.out (k := k) (by omega)
      have hv1 : x1 = ((M.vx l (k - 1) : Nat) : Int) := by rw [hx1]; unfold M.vx; omega
      have hv2 : x2 = ((M.vx l k : Nat) : Int) := by rw [hx2]; unfold M.vx; omega
      have hw1 := M.vx_lt HV.out (k := k - 1) (by omega)
      have hw2 := M.vx_lt HV.out (k := k) (by omega)
      obtain ⟨d, od, rd, rdo, c4, z, hdd, hz, c41, c42⟩ := HS.out.1.rect_ent HS.out.2.1 (M.vx l k) (M.vx l (k - 1)) hw2 hw1
      injection hdd with hdd
      injection hdd with e1 e2
      subst e1 e2
      have HK : Hid (M.wkc (M.ent R) (M.vx l) k = M.times y z) := by
        show _ = _
        have e : k = k - 1 + 1 := by omega
        rw [HY.out, hz]
        conv => lhs; rw [e]
        show M.times _ (M.ent R (M.vx l (k - 1 + 1)) (M.vx l (k - 1))) = _
        rw [← e]
      have hsy := HS.out.along HV.out (t := k - 1) (by omega)
      rw [← HY.out] at hsy
      have hsz := HS.out.arc HV.out (l := l) (i := k) (j := k - 1) (by omega) (by omega)
      rw [← hz] at hsz
      generalize M.vx l (k - 1) = u1 at hv1 hw1 c42
      generalize M.vx l k = u2 at hv2 hw2 c41
      subst hv1 hv2
      have hn0 : ((k : Int) - 1).toNat = k - 1 := by omega
      have hn1 : 0 ≤ (k : Int) - 1 := by omega
      have hn2 : (k : Int) - 1 < N := by omega
      have hn3 : IntKind.i64.wrap ((k : Int) - 1) = (k : Int) - 1 := IntWalk.i64_in _ (by omega)
      clear hx1 hx2 hz hd hb1 hb2 hl
      by_cases hz0 : z = -1000000000000000
      · subst hz0
        have HF : Hid (M.walkR R l = (0, false)) := by
          show _ = _
          have e : M.wkc (M.ent R) (M.vx l) k = -1000000000000000 := by rw [HK.out]; exact M.times_bot y
          unfold M.walkR M.alongW
          rw [if_pos (M.wkc_bot e (by have := HL.out; omega))]
        clear hsy hsz
        go_wp2
        go_quiet (fail)
        go_wp2
        go_ret2
        rw [HF.out]
        exact ⟨rfl, _, rfl⟩
      · have hz1 : (z == -1000000000000000) = false := by simpa using hz0
        have ey : -100000100000000 ≤ y ∧ y ≤ 100000100000000 := by unfold M.Sm at hsy; omega
        have ez : -1000001000000 ≤ z ∧ z ≤ 1000001000000 := by unfold M.Sm at hsz; omega
        obtain ⟨ey1, ey2⟩ := ey
        obtain ⟨ez1, ez2⟩ := ez
        have HK2 : Hid (y + z = M.wkc (M.ent R) (M.vx l) (k + 1 - 1)) := by
          show _ = _
          rw [Nat.add_sub_cancel, HK.out]; unfold M.times; rw [if_neg (by omega)]
        clear hsy hsz
        go_wp2
        go_quiet (fail)
        clear c1 c2 c41 c42 hn0 hn1 hn2 hn3
        go_wp2
        go_roundw
        case rel => exact ⟨k + 1, y + z, by omega, by omega, by go_num, rfl, by omega, HK2, _, rfl⟩
        case measure => simp [intOf]; omega
    · obtain rfl : N = k := by omega
      have HF : Hid (M.walkR R l = (y, true)) := by
        show _ = _
        unfold M.walkR M.alongW
        rw [HL.out, ← HY.out, if_neg hy0]
      clear hy0
      go_wp2
      go_ret2
      rw [HF.out]
      exact ⟨rfl, _, rfl⟩
end Go.Proofs.Ythonlfjjgmmnpab.V
