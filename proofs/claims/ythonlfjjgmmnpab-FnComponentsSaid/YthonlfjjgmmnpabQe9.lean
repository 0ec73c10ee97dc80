/- Texts laid together: Pth2, Rbt. -/
import Derived.Test.YthonlfjjgmmnpabRows
import Derived.Test.YthonlfjjgmmnpabQe1
import Derived.Test.YthonlfjjgmmnpabQe2
import Derived.Test.YthonlfjjgmmnpabQe3
import Derived.WalkKit
import Derived.ProofKit
import Derived.WalkSmall
import Derived.Deep.QuietTactic
import Derived.BigQuiet
import Derived.BigRegion
import Derived.Deep.Draws
import Derived.Lib.Hide
import Derived.IntWalk
import Derived.OpenShut
import Derived.Deep.OwnRows
import Derived.Test.YthonlfjjgmmnpabQe6
import Derived.Test.YthonlfjjgmmnpabQe7
import Derived.Test.YthonlfjjgmmnpabQe8
import Derived.Test.YthonlfjjgmmnpabQe5
namespace Go.Proofs.Ythonlfjjgmmnpab.V
open Go.RowKit

/-- A square matrix of values. -/
def Sq (w : World) (a : Option Addr) (n : Nat) (R : List (List Int)) : Prop := Mat w a n R ∧ Rect R n n ∧ (∀ i j, i < n → j < n → M.Sm 1000001000000 (M.ent R i j)) ∧ 1 ≤ n ∧ n ≤ 10
theorem sq_of {w : World} {a : Option Addr} {n : Nat} {R : List (List Int)} (h : Mat w a n R) (hs : M.sqB R = true) : Sq w a n R := by
  obtain ⟨h1, h2⟩ := M.sqB_t hs
  have hr := rect_mat h1
  obtain ⟨m1, m2, -⟩ := M.isMat_t h1
  rw [← h2, h.1] at hr
  rw [h.1] at m1 m2
  exact ⟨h, hr, fun i j hi hj => M.sm_wide (M.sm_val (tm_val h1 hr m1 hi hj)), m1, m2⟩
theorem Sq.below {w w' : World} {a : Option Addr} {n : Nat} {R : List (List Int)} (h : Sq w a n R) (hb : Below w.heap.size w w') : Sq w' a n R := ⟨h.1.below hb, h.2⟩
theorem Sq.arc {w : World} {a : Option Addr} {n : Nat} {R : List (List Int)} {l : List Int} (h : Sq w a n R) (hv : M.nodesB n l = true) {i j : Nat} (hi : i < l.length) (hj : j < l.length) : M.Sm 1000001000000 (M.ent R (M.vx l i) (M.vx l j)) :=
  h.2.2.1 _ _ (M.vx_lt hv hi) (M.vx_lt hv hj)
/-- The weights along a list of nodes are near to 0. -/
theorem Sq.along {w : World} {a : Option Addr} {n : Nat} {R : List (List Int)} {l : List Int} (h : Sq w a n R) (hv : M.nodesB n l = true) {t : Nat} (ht : t < l.length) : M.Sm (1000001000000 * t) (M.wkc (M.ent R) (M.vx l) t) :=
  M.wkc_sm fun u hu => h.arc hv (by omega) (by omega)
theorem wn_big {L v : Int} {t : Nat} (h : M.Sm (1000001000000 * t) v) (ht : t ≤ 99) : M.Big v := M.big_sm h (by omega)

set_option maxRecDepth 100000 in
set_option maxHeartbeats 1000000 in
theorem weightAlong (a : Option Addr) (n cap : Nat) (R : List (List Int)) (a' : Option Addr) (N cap' : Nat) (l : List Int) (w : World) (h : Sq w a n R) (h' : Ints .i64 w a' N l) (hv : M.nodesB n l = true) (hc1 : N ≤ cap') (hc2 : cap' ≤ maxLen) (N1 : 1 ≤ N) (N2 : N ≤ 100) :
    Calls Try.prog 131 #[.slice a n cap, .slice a' N cap'] w fun e w' => e = .returned (.int .i64 (M.alongW R l)) ∧ ∃ q, w' = w.drewN q := by
  unfold maxLen at hc2
  have HS := Lib.hid h
  have HI := Lib.hid h'
  have HV := Lib.hid hv
  have HL := Lib.hid h'.1
  obtain ⟨b', off', x0, rfl, -, -, -⟩ := h'.at 0 (by omega)
  obtain ⟨b, off, ra, rc, rfl, -, -⟩ := h.1.rect_first h.2.1 h.2.2.2.1
  obtain ⟨n1, n2⟩ := h.2.2.2
  clear h h' hv
  by_cases h1 : N = 1
  · subst h1
    have HE : Hid (M.alongW R l = 0) := by show _ = _; unfold M.alongW; rw [HL.out]; rfl
    by_cases hk : cap' = 1
    · subst hk
      go_enter Try.func131, Try.ntmps131
      go_wp2
      go_loop [5, 11] (fun sm i => sm = .int .i64 0 ∧ i = .int .i64 0) (fun _ _ => 0)
      case atStart => exact ⟨rfl, rfl⟩
      case round =>
        obtain ⟨rfl, rfl⟩ := hrel
        go_wp2
        go_ret
        exact ⟨retI HE.out.symm, 0, rfl⟩
    · have hk2 : (cap' : Nat) ≠ 1 := hk
      go_enter Try.func131, Try.ntmps131
      go_wp2
      go_loop [5, 11] (fun sm i => sm = .int .i64 0 ∧ i = .int .i64 0) (fun _ _ => 0)
      case atStart => exact ⟨rfl, rfl⟩
      case round =>
        obtain ⟨rfl, rfl⟩ := hrel
        go_wp2
        go_ret
        exact ⟨retI HE.out.symm, 0, rfl⟩
  · have hk : (cap' : Nat) ≠ 1 := by omega
    have hk1 : 1 ≤ cap' := by omega
    have HA0 : Hid ((0 : Int) = M.wkc (M.ent R) (M.vx l) 0) := rfl
    go_enter Try.func131, Try.ntmps131
    go_wp2
    go_loopw [5, 6, 7, 11] (fun sm _ _ i wr => ∃ (k : Nat) (y : Int), k ≤ N - 1 ∧ i = .int .i64 k ∧ sm = .int .i64 y ∧ Hid (y = M.wkc (M.ent R) (M.vx l) k) ∧ ∃ q, wr = w.drewN q) (fun _ _ _ i _ => N - (intOf i).toNat)
    case atStart => exact ⟨0, _, Nat.zero_le _, rfl, rfl, HA0, 0, rfl⟩
    case round =>
      obtain ⟨k, y, hk', rfl, rfl, HY, q2, rfl⟩ := hrel
      by_cases hlt : k + 1 < N
      · have hki : (k : Int) < (N : Int) - 1 := by omega
        obtain ⟨d, od, x1, hdd, hd, hx1, c1⟩ := HI.out.at k (by omega)
        injection hdd with hdd
        injection hdd with e1 e2
        subst e1 e2
        obtain ⟨d, od, x2, hdd, hd, hx2, c2⟩ := HI.out.at (k + 1) hlt
        injection hdd with hdd
        injection hdd with e1 e2
        subst e1 e2
        have hl := HL.out
        have hb1 := M.nodesB_at HV.out (k := k) (by omega)
        have hb2 := M.nodesB_at HV.out (k := k + 1) (by omega)
        have hv1 : x1 = ((M.vx l k : Nat) : Int) := by rw [hx1]; unfold M.vx; omega
        have hv2 : x2 = ((M.vx l (k + 1) : Nat) : Int) := by rw [hx2]; unfold M.vx; omega
        have hw1 := M.vx_lt HV.out (k := k) (by omega)
        have hw2 := M.vx_lt HV.out (k := k + 1) (by omega)
        obtain ⟨d, od, rd, rdo, c4, z, hdd, hz, c41, c42⟩ := HS.out.1.rect_ent HS.out.2.1 (M.vx l (k + 1)) (M.vx l k) hw2 hw1
        injection hdd with hdd
        injection hdd with e1 e2
        subst e1 e2
        have HY2 : Hid (M.times y z = M.wkc (M.ent R) (M.vx l) (k + 1)) := by show _ = _; rw [HY.out, hz]; rfl
        have HB1 : Hid (M.Big y) := by
          show M.Big _
          rw [HY.out]
          exact M.big_sm (HS.out.along HV.out (t := k) (by omega)) (by omega)
        have HB2 : Hid (M.Big z) := by
          show M.Big _
          rw [hz]
          exact M.big_sm (HS.out.arc HV.out (by omega) (by omega)) (by omega)
        generalize M.vx l k = u1 at hv1 hw1 c42
        generalize M.vx l (k + 1) = u2 at hv2 hw2 c41
        subst hv1 hv2
        obtain ⟨y2, hy2⟩ : ∃ y2, y2 = M.times y z := ⟨_, rfl⟩
        rw [← hy2] at HY2
        have HC1 : ∀ w : World, Calls Try.prog 118 #[.int .i64 y, .int .i64 z] w fun e w' => e = .returned (.int .i64 y2) ∧ w = w' := by
          intro w
          rw [hy2]
          exact timesB _ _ _ HB1.out HB2.out
        have c2' : w.cell? ⟨b', off' + 1 + k, none⟩ = some (.int .i64 (u2 : Int)) := by rw [show off' + 1 + k = off' + (k + 1) by omega]; exact c2
        clear hx1 hx2 hz hd hb1 hb2 hl hy2 c2
        go_wp2
        go_quiet ((go_at_call 118; exact q_more_s (HC1 _)))
        go_wp2
        go_roundw
        case rel => exact ⟨k + 1, _, by omega, by go_num, rfl, HY2, _, rfl⟩
        case measure => simp [intOf]; omega
      · obtain rfl : N = k + 1 := by omega
        go_wp2
        go_ret
        exact ⟨retI (by rw [HY.out]; unfold M.alongW; rw [HL.out]; rfl), _, rfl⟩

set_option maxRecDepth 100000 in
set_option maxHeartbeats 1000000 in
theorem weightAround (a : Option Addr) (n cap : Nat) (R : List (List Int)) (a' : Option Addr) (N cap' : Nat) (l : List Int) (w : World) (h : Sq w a n R) (h' : Ints .i64 w a' N l) (hv : M.nodesB n l = true) (hc1 : N ≤ cap') (hc2 : cap' ≤ maxLen) (N1 : 1 ≤ N) (N2 : N ≤ 100) :
    Calls Try.prog 125 #[.slice a n cap, .slice a' N cap'] w fun e w' => e = .returned (.int .i64 (M.aroundW R l)) ∧ ∃ q, w' = w.drewN q := by
  have HM := Lib.hid hc2
  have HS := Lib.hid h
  have HI := Lib.hid h'
  have HV := Lib.hid hv
  have HL := Lib.hid h'.1
  obtain ⟨b', off', x0, rfl, hd0, hx0, c0⟩ := h'.at 0 (by omega)
  obtain ⟨d, od, x1, hdd, hd1, hx1, c1⟩ := h'.at (N - 1) (by omega)
  injection hdd with hdd
  injection hdd with e1 e2
  subst e1 e2
  have hl := h'.1
  have hb1 := M.nodesB_at hv (k := 0) (by omega)
  have hb2 := M.nodesB_at hv (k := N - 1) (by omega)
  have hv1 : x0 = ((M.vx l 0 : Nat) : Int) := by rw [hx0]; unfold M.vx; omega
  have hv2 : x1 = ((M.vx l (N - 1) : Nat) : Int) := by rw [hx1]; unfold M.vx; omega
  have hw1 := M.vx_lt hv (k := 0) (by omega)
  have hw2 := M.vx_lt hv (k := N - 1) (by omega)
  obtain ⟨b, off, rd, rdo, c4, z, rfl, hz, c41, c42⟩ := h.1.rect_ent h.2.1 (M.vx l 0) (M.vx l (N - 1)) hw1 hw2
  obtain ⟨y, hy⟩ : ∃ y, y = M.alongW R l := ⟨_, rfl⟩
  have HY := Lib.hid hy
  obtain ⟨y2, hy2⟩ : ∃ y2, y2 = M.times y z := ⟨_, rfl⟩
  have HY2 : Hid (y2 = M.aroundW R l) := by show _ = _; rw [hy2, hy, hz, ← hl]; rfl
  have HB1 : Hid (M.Big y) := by
    show M.Big _
    rw [hy]; unfold M.alongW
    exact M.big_sm (h.along hv (t := l.length - 1) (by omega)) (by omega)
  have HB2 : Hid (M.Big z) := by
    show M.Big _
    rw [hz]
    exact M.big_sm (h.arc hv (by omega) (by omega)) (by omega)
  have HC1 : ∀ w : World, Calls Try.prog 118 #[.int .i64 y, .int .i64 z] w fun e w' => e = .returned (.int .i64 y2) ∧ w = w' := by
    intro w
    rw [hy2]
    exact timesB _ _ _ HB1.out HB2.out
  have HC2 : ∀ q, Calls Try.prog 131 #[.slice (some ⟨b, off, none⟩) n cap, .slice (some ⟨b', off', none⟩) N cap'] (w.drewN q) fun e w' => e = .returned (.int .i64 y) ∧ ∃ p, w' = (w.drewN q).drewN p := by
    intro q
    rw [HY.out]
    exact weightAlong _ _ _ _ _ _ _ _ _ (HS.out.below (b_draws _ _)) (HI.out.below (b_draws _ _)) HV.out hc1 HM.out N1 N2
  obtain ⟨n1, n2⟩ := h.2.2.2
  generalize M.vx l 0 = u1 at hv1 hw1 c41
  generalize M.vx l (N - 1) = u2 at hv2 hw2 c42
  subst hv1 hv2
  unfold maxLen at hc2
  have hn0 : ((N : Int) - 1).toNat = N - 1 := by omega
  have hn1 : 0 ≤ (N : Int) - 1 := by omega
  have hn2 : (N : Int) - 1 < N := by omega
  have hn3 : IntKind.i64.wrap ((N : Int) - 1) = (N : Int) - 1 := IntWalk.i64_in _ (by omega)
  clear h h' hv hl hb1 hb2 hx0 hx1 hz hd0 hd1 hy hy2
  rw [Nat.add_zero] at c0
  go_enter Try.func125, Try.ntmps125
  go_wp2
  go_quiet (fail)
  go_wp2
  go_quiet (first | (go_at_call 131; exact q_more (HC2 _)) | (go_at_call 118; exact q_more_s (HC1 _)))
  go_wp2
  go_ret
  exact ⟨retI HY2.out, _, World.drewN_drewN _ _ _⟩

set_option maxRecDepth 100000 in
set_option maxHeartbeats 1000000 in
theorem sWalk (a : Option Addr) (n cap : Nat) (R : List (List Int)) (a' : Option Addr) (N cap' : Nat) (l : List Int) (w : World) (h : Sq w a n R) (h' : Ints .i64 w a' N l) (hv : M.nodesB n l = true) (N1 : 1 ≤ N) (N2 : N ≤ 100) :
    Calls Try.prog 104 #[.slice a n cap, .slice a' N cap'] w fun e w' => e = .returned (.tuple #[.int .i64 (M.walkR R l).1, .bool (M.walkR R l).2]) ∧ ∃ q, w' = w.drewN q := by
  have HS := Lib.hid h
  have HI := Lib.hid h'
  have HV := Lib.hid hv
  have HL := Lib.hid h'.1
  obtain ⟨b', off', x0, rfl, -, -, -⟩ := h'.at 0 (by omega)
  obtain ⟨b, off, ra, rc, rfl, -, -⟩ := h.1.rect_first h.2.1 h.2.2.2.1
  obtain ⟨n1, n2⟩ := h.2.2.2
  clear h h' hv
  have HA0 : Hid ((0 : Int) = M.wkc (M.ent R) (M.vx l) 0) := rfl
  go_enter Try.func104, Try.ntmps104
  go_wp2
  go_loopw [6, 7, 8] (fun sm i _ wr => ∃ (k : Nat) (y : Int), 1 ≤ k ∧ k ≤ N ∧ i = .int .i64 k ∧ sm = .int .i64 y ∧ y ≠ -1000000000000000 ∧ Hid (y = M.wkc (M.ent R) (M.vx l) (k - 1)) ∧ ∃ q, wr = w.drewN q) (fun _ i _ _ => N - (intOf i).toNat)
  case atStart => exact ⟨1, _, Nat.le_refl _, N1, rfl, rfl, by omega, HA0, 0, rfl⟩
  case round =>
    obtain ⟨k, y, hk1, hk', rfl, rfl, hy0, HY, q2, rfl⟩ := hrel
    by_cases hlt : k < N
    · have hki : (k : Int) < (N : Int) := by omega
      obtain ⟨d, od, x1, hdd, hd, hx1, c1⟩ := HI.out.at (k - 1) (by omega)
      injection hdd with hdd
      injection hdd with e1 e2
      subst e1 e2
      obtain ⟨d, od, x2, hdd, hd, hx2, c2⟩ := HI.out.at k hlt
      injection hdd with hdd
      injection hdd with e1 e2
      subst e1 e2
      have hl := HL.out
      have hb1 := M.nodesB_at HV.out (k := k - 1) (by omega)
      have hb2 := M.nodesB_at HV.out (k := k) (by omega)
      have hv1 : x1 = ((M.vx l (k - 1) : Nat) : Int) := by rw [hx1]; unfold M.vx; omega
      have hv2 : x2 = ((M.vx l k : Nat) : Int) := by rw [hx2]; unfold M.vx; omega
      have hw1 := M.vx_lt HV.out (k := k - 1) (by omega)
      have hw2 := M.vx_lt HV.out (k := k) (by omega)
      obtain ⟨d, od, rd, rdo, c4, z, hdd, hz, c41, c42⟩ := HS.out.1.rect_ent HS.out.2.1 (M.vx l k) (M.vx l (k - 1)) hw2 hw1
      injection hdd with hdd
      injection hdd with e1 e2
      subst e1 e2
      have HK : Hid (M.wkc (M.ent R) (M.vx l) k = M.times y z) := by
        show _ = _
        have e : k = k - 1 + 1 := by omega
        rw [HY.out, hz]
        conv => lhs; rw [e]
        show M.times _ (M.ent R (M.vx l (k - 1 + 1)) (M.vx l (k - 1))) = _
        rw [← e]
      have hsy := HS.out.along HV.out (t := k - 1) (by omega)
      rw [← HY.out] at hsy
      have hsz := HS.out.arc HV.out (l := l) (i := k) (j := k - 1) (by omega) (by omega)
      rw [← hz] at hsz
      generalize M.vx l (k - 1) = u1 at hv1 hw1 c42
      generalize M.vx l k = u2 at hv2 hw2 c41
      subst hv1 hv2
      have hn0 : ((k : Int) - 1).toNat = k - 1 := by omega
      have hn1 : 0 ≤ (k : Int) - 1 := by omega
      have hn2 : (k : Int) - 1 < N := by omega
      have hn3 : IntKind.i64.wrap ((k : Int) - 1) = (k : Int) - 1 := IntWalk.i64_in _ (by omega)
      clear hx1 hx2 hz hd hb1 hb2 hl
      by_cases hz0 : z = -1000000000000000
      · subst hz0
        have HF : Hid (M.walkR R l = (0, false)) := by
          show _ = _
          have e : M.wkc (M.ent R) (M.vx l) k = -1000000000000000 := by rw [HK.out]; exact M.times_bot y
          unfold M.walkR M.alongW
          rw [if_pos (M.wkc_bot e (by have := HL.out; omega))]
        clear hsy hsz
        go_wp2
        go_quiet (fail)
        go_wp2
        go_ret2
        rw [HF.out]
        exact ⟨rfl, _, rfl⟩
      · have hz1 : (z == -1000000000000000) = false := by simpa using hz0
        have ey : -100000100000000 ≤ y ∧ y ≤ 100000100000000 := by unfold M.Sm at hsy; omega
        have ez : -1000001000000 ≤ z ∧ z ≤ 1000001000000 := by unfold M.Sm at hsz; omega
        obtain ⟨ey1, ey2⟩ := ey
        obtain ⟨ez1, ez2⟩ := ez
        have HK2 : Hid (y + z = M.wkc (M.ent R) (M.vx l) (k + 1 - 1)) := by
          show _ = _
          rw [Nat.add_sub_cancel, HK.out]; unfold M.times; rw [if_neg (by omega)]
        clear hsy hsz
        go_wp2
        go_quiet (fail)
        clear c1 c2 c41 c42 hn0 hn1 hn2 hn3
        go_wp2
        go_roundw
        case rel => exact ⟨k + 1, y + z, by omega, by omega, by go_num, rfl, by omega, HK2, _, rfl⟩
        case measure => simp [intOf]; omega
    · obtain rfl : N = k := by omega
      have HF : Hid (M.walkR R l = (y, true)) := by
        show _ = _
        unfold M.walkR M.alongW
        rw [HL.out, ← HY.out, if_neg hy0]
      clear hy0
      go_wp2
      go_ret2
      rw [HF.out]
      exact ⟨rfl, _, rfl⟩
end Go.Proofs.Ythonlfjjgmmnpab.V

namespace Go.Proofs.Ythonlfjjgmmnpab
namespace M
variable {A : Nat → Nat → Int} {n : Nat}
/-- After r rounds. -/
def RI (A : Nat → Nat → Int) (n v r : Nat) (S : Nat → Bool) : Prop := (∀ i, S i = true → Rch A n v i) ∧ ∀ i, RcN A n v r i → S i = true
def MI (A : Nat → Nat → Int) (n v r i : Nat) (S : Nat → Bool) : Prop := RI A n v r S ∧ ∀ j, j < i → RcN A n v (r + 1) j → S j = true
def KI (A : Nat → Nat → Int) (n v r i k : Nat) (S : Nat → Bool) : Prop := MI A n v r i S ∧ ∀ j, j < k → RcN A n v r j → A i j ≠ -1000000000000000 → S i = true
theorem ri_start {v : Nat} (hv : v < n) : RI A n v 0 (upd (fun _ => false) v) :=
  ⟨fun i h => by unfold upd at h; simp at h; subst h; exact rch_self hv, fun i h => by have := rcn_zero h; subst this; unfold upd; simp⟩
theorem ki_set {v r i k : Nat} {S : Nat → Bool} (hi : i < n) (h : KI A n v r i k S) (hs : S k = true) (ha : A i k ≠ -1000000000000000) : KI A n v r i (k + 1) (upd S i) := by
  obtain ⟨⟨⟨h1, h2⟩, h3⟩, h4⟩ := h
  have hm : ∀ j, S j = true → upd S i j = true := fun j hj => by unfold upd; rw [hj, Bool.or_true]
  refine ⟨⟨⟨fun j hj => ?_, fun j hj => hm j (h2 j hj)⟩, fun j hj hr => hm j (h3 j hj hr)⟩, fun j _ _ _ => by unfold upd; simp⟩
  unfold upd at hj
  rw [Bool.or_eq_true, decide_eq_true_eq] at hj
  rcases hj with hj | hj
  · subst hj; exact rch_step (h1 k hs) hi ha
  · exact h1 j hj
theorem ki_skip {v r i k : Nat} {S : Nat → Bool} (h : KI A n v r i k S) (hs : S k = false ∨ A i k = -1000000000000000) : KI A n v r i (k + 1) S := by
  refine ⟨h.1, fun j hj hr ha => ?_⟩
  by_cases e : j = k
  · subst e
    rcases hs with hs | hs
    · rw [h.1.1.2 j hr] at hs; cases hs
    · exact absurd hs ha
  · exact h.2 j (by omega) hr ha
theorem ki_end {v r i : Nat} {S : Nat → Bool} (h : KI A n v r i n S) : MI A n v r (i + 1) S := by
  refine ⟨h.1.1, fun j hj hr => ?_⟩
  by_cases e : j = i
  · subst e
    rcases rcn_next hr with q | ⟨k, hk, q1, -, q2⟩
    · exact h.1.1.2 j q
    · exact h.2 k hk q1 q2
  · exact h.1.2 j (by omega) hr
theorem mi_end {v r : Nat} {S : Nat → Bool} (h : MI A n v r n S) : RI A n v (r + 1) S := ⟨h.1.1, fun i hr => h.2 i (Rch.of hr).lt.2 hr⟩
end M
namespace V
set_option maxRecDepth 100000
open Go.RowKit
theorem infoB1 : (Try.prog.info? 4).map (fun i => (i.zero, i.size, i.bytes)) = some (some (.bool false), 1, 1) := by kernel_rfl
theorem infoB : (Try.prog.info? 74).map (fun i => (i.zero, i.size, i.bytes)) = some (some (.slice none 0 0), 1, 24) := by kernel_rfl
/-- A table of bools, a row a block. -/
def BT (w : World) (B : Nat) (v : Value) (k n : Nat) (F : Nat → Nat → Bool) : Prop :=
  ∃ V : List Value, V.length = k ∧ w.ownsRow B 74 1 v k V ∧ ∀ i, i < k → ∃ q, B ≤ q ∧ v.ownBlock ≠ some q ∧ V.getD i undef = .slice (some ⟨q, 0, none⟩) n n ∧ w.rowIs q 4 n (fun j => .bool (F i j))
theorem rowIs_lt {w : World} {q n : Nat} {t : TypeId} {f : Nat → Value} (h : w.rowIs q t n f) : q < w.heap.size := by
  obtain ⟨c, hb, -⟩ := h
  exact (Array.getElem?_eq_some_iff.1 hb).1
theorem BT.below {w w' : World} {B k n : Nat} {v : Value} {F : Nat → Nat → Bool} (h : BT w B v k n F) (hb : Below w.heap.size w w') : BT w' B v k n F := by
  obtain ⟨V, h1, h2, h3⟩ := h
  refine ⟨V, h1, ownsRow_keep h2 (fun q hq => hb.block q (own_lt h2 hq).2), fun i hi => ?_⟩
  obtain ⟨q, k1, k2, k3, k4⟩ := h3 i hi
  exact ⟨q, k1, k2, k3, World.rowIs.of_block k4 (hb.block q (rowIs_lt k4))⟩
theorem BT.mono {w : World} {B B' k n : Nat} {v : Value} {F : Nat → Nat → Bool} (h : BT w B v k n F) (hb : B' ≤ B) : BT w B' v k n F := by
  obtain ⟨V, h1, h2, h3⟩ := h
  refine ⟨V, h1, World.ownsRow.mono h2 hb, fun i hi => ?_⟩
  obtain ⟨q, k1, k2, k3, k4⟩ := h3 i hi
  exact ⟨q, by omega, k2, k3, k4⟩
theorem bt_lit (w : World) (B n : Nat) (F : Nat → Nat → Bool) (hB : B ≤ w.heap.size) : BT (w.alloc (.cells #[] 74)) B (.slice (some ⟨w.heap.size, 0, none⟩) 0 0) 0 n F :=
  ⟨[], rfl, World.ownsRow_lit w #[] 0 hB (by decide) rfl, fun i hi => absurd hi (Nat.not_lt_zero i)⟩
/-- A row and an entry. -/
theorem BT.at {w : World} {B k n cap : Nat} {a : Option Addr} {F : Nat → Nat → Bool} (h : BT w B (.slice a k cap) k n F) (i j : Nat) (hi : i < k) (hj : j < n) :
    ∃ g q, a = some ⟨g, 0, none⟩ ∧ w.cell? ⟨g, i, none⟩ = some (.slice (some ⟨q, 0, none⟩) n n) ∧ w.cell? ⟨q, j, none⟩ = some (.bool (F i j)) := by
  obtain ⟨V, h1, h2, h3⟩ := h
  obtain ⟨q, -, -, e, hq⟩ := h3 i hi
  obtain ⟨a', c', hv, -, -, hg⟩ := own_form h2
  injection hv with e1 _ e3
  subst e1 e3
  obtain ⟨g, rfl, -, -⟩ := hg (by omega)
  refine ⟨g, q, rfl, ?_, World.rowIs.cell hq hj⟩
  have := World.ownsRow.cellAt h2 i (by omega)
  rw [this, ← e, List.getD_eq_getElem?_getD, List.getElem?_eq_getElem (by omega)]
  rfl
theorem appendB (w0 w : World) {ops : Array Oper} {rest : List Oper} {o : Oper} {a : Act} {Q : Exit → Act → World → Prop} (hgd : o.guard = none) (s x : Operand)
    (ho : o.op = .call { callee := .builtin .append, args := #[s, x], argTypes := #[75, 75] }) (B : Nat) (v : Value) (k n q : Nat) (F : Nat → Nat → Bool) (hs : a.eval s = v) (hown : BT w0 B v k n F) (hb : Below w0.heap.size w0 w) (hq : w0.heap.size ≤ q) (hro : w.rowIs q 4 n (fun j => .bool (F k j)))
    (hx : a.eval x = .slice (some ⟨w.heap.size, 0, none⟩) 1 1) (hlen : k ≤ 2000000) (hB : B ≤ w0.heap.size)
    (h : ∀ b' c' w', BT w' B (.slice b' (k + 1) c') (k + 1) n F → Below B w w' → wpList Try.prog ops Q rest (a.put o.dst (.slice b' (k + 1) c')) w') :
    wpList Try.prog ops Q (o :: rest) a (w.alloc (.cells #[.slice (some ⟨q, 0, none⟩) n n] 74)) := by
  obtain ⟨i0, hi, hz0, hz1, hz2⟩ := info_parts infoB
  have hsz := hb.size
  obtain ⟨V, h1, h2, h3⟩ := hown
  have hwV : w.ownsRow B 74 1 v k V := ownsRow_keep h2 (fun k hv => hb.block k (own_lt h2 hv).2)
  have hown2 : (w.alloc (.cells #[.slice (some ⟨q, 0, none⟩) n n] 74)).ownsRow B 74 1 v k V := World.ownsRow.alloc hwV _
  refine wpList_append_own_at (w := w.alloc (.cells #[.slice (some ⟨q, 0, none⟩) n n] 74)) hgd s x 75 ho B 74 i0 (.slice none 0 0) 1 24 Try.underlying75 hi hz0 hz1 hz2 rfl (by decide) v _ _ hs hown2 ⟨w.heap.size, 0, none⟩ 1 1 [.slice (some ⟨q, 0, none⟩) n n] hx rfl (cell_one_new _ _ _) ?c2 ?c3 ?c4 ?c5 ?_
  case c2 => intro u hu; simp at hu; subst hu; rfl
  case c3 => unfold maxLen; omega
  case c4 => omega
  case c5 => simp; omega
  · intro v' w' hownV' hgrow hz hvb
    obtain ⟨g1, g2, g3, g4, g5⟩ := hgrow
    have hg : ∀ k, k < w.heap.size → v.ownBlock ≠ some k → w'.heap[k]? = w.heap[k]? := fun k hk hne => by
      rw [g5 k (by simp; omega) (fun e => hne e.symm), Below.heap_alloc _ _ _ hk]
    have hqw := rowIs_lt hro
    have hvq : v.ownBlock ≠ some q := fun e => by have := (own_lt h2 e).2; omega
    have hv'q : ∀ p, p < w.heap.size → v.ownBlock ≠ some p → v'.ownBlock ≠ some p := fun p hp hne e => by
      rcases hvb with k | k
      · exact hne (k ▸ e)
      · rw [k] at e; injection e with e; simp at e; omega
    have hM : BT w' B v' (k + 1) n F := by
      refine ⟨_, by simp [h1], hownV', fun i hi => ?_⟩
      by_cases e : i = k
      · subst e
        refine ⟨q, by omega, hv'q q hqw hvq, ?_, World.rowIs.of_block hro (hg q hqw hvq)⟩
        rw [List.getD_eq_getElem?_getD, List.getElem?_append_right (by omega), h1, Nat.sub_self]; rfl
      · obtain ⟨p, k1, k2, k3, k4⟩ := h3 i (by omega)
        have hp := rowIs_lt k4
        refine ⟨p, k1, hv'q p (by omega) k2, ?_, World.rowIs.of_block k4 ((hg p (by omega) k2).trans (hb.block p hp))⟩
        rw [List.getD_eq_getElem?_getD, List.getElem?_append_left (by omega), ← List.getD_eq_getElem?_getD]; exact k3
    obtain ⟨b', c', hv', _⟩ := own_form hownV'
    subst hv'
    exact h b' c' w' hM (((Below.refl B w).alloc (by omega) _).grown ⟨g1, g2, g3, g4, g5⟩ (by simp; omega) (fun k hk => (own_lt h2 hk).1))
set_option maxRecDepth 100000 in
set_option maxHeartbeats 4000000 in
theorem sReach (a : Option Addr) (n cap : Nat) (R : List (List Int)) (w : World) (h : Sq w a n R) :
    Calls Try.prog 52 #[.slice a n cap] w fun e w' => ∃ b c, e = .returned (.slice b n c) ∧ BT w' w.heap.size (.slice b n c) n n (M.rchB (M.ent R) n) ∧ Below w.heap.size w w' := by
  have HSq := Lib.hid h
  obtain ⟨n1, n2⟩ := h.2.2.2
  obtain ⟨ab, aoff, -, -, rfl, -, -⟩ := h.1.rect_first h.2.1 n1
  have hmk := run_make_row' (P := Try.prog) 74 4 (.bool false) 1 Try.underlying74 infoB1 rfl .i64 .i64 n (by omega) (by omega)
  clear h
  go_enter Try.func52, Try.ntmps52
  go_wp2
  go_loopw [4, 5, 6, 7, 8, 9] (fun o i _ _ _ _ wr => ∃ (k : Nat) (b : Option Addr) (c : Nat), k ≤ n ∧ i = .int .i64 k ∧ o = .slice b k c ∧ Hid (BT wr w.heap.size (.slice b k c) k n (M.rchB (M.ent R) n)) ∧ Hid (Below w.heap.size w wr)) (fun _ i _ _ _ _ _ => n - (intOf i).toNat)
  case atStart => exact ⟨0, _, 0, Nat.zero_le _, rfl, rfl, bt_lit _ _ _ _ (Nat.le_refl _), b_alloc _ _⟩
  case round =>
    obtain ⟨v, b, c, hv, rfl, rfl, HO, HB⟩ := hrel
    obtain ⟨wo, rfl⟩ : ∃ x, x = wr := ⟨_, rfl⟩
    by_cases hlt : v < n
    · have hvi : (v : Int) < (n : Int) := by omega
      obtain ⟨w1, hw1⟩ : ∃ x, x = wo.alloc (.cells (madeCells #[.bool false] n) 4) := ⟨_, rfl⟩
      have hrow : w1.rowIs wo.heap.size 4 n (fun _ => .bool false) := by rw [hw1]; exact World.rowIs_made _ _ _ _
      have hb1 : Below wo.heap.size wo w1 := by rw [hw1]; exact b_alloc _ _
      have hcv := World.rowIs.cell hrow hlt
      have hfv := World.rowIs.frozen hrow v
      have hset := (World.rowIs.set hrow v (.bool true)).congr (g := fun j => .bool (M.upd (fun _ => false) v j)) fun i hi => by
        unfold M.upd
        by_cases e : i = v <;> simp [e]
      have he : w1.setCell ⟨wo.heap.size, v, none⟩ (.bool true) = wo.alloc (.cells ((madeCells #[.bool false] n).setIfInBounds v (.bool true)) 4) := by rw [hw1]; simp [go_sem]
      rw [he] at hset
      have hbs := hb1.setCell (p := ⟨wo.heap.size, v, none⟩) (Nat.le_refl _) (.bool true)
      rw [he] at hbs
      have HR0 := Lib.hid hset
      have HB0 := Lib.hid hbs
      subst hw1
      clear hrow hset hb1 hbs he
      go_wp2
      clear hcv hfv
      go_loopw [7, 8, 9] (fun t _ _ wr => ∃ (r : Nat) (S : Nat → Bool), r ≤ n ∧ t = .int .i64 r ∧ Hid (wr.rowIs wo.heap.size 4 n (fun j => .bool (S j))) ∧ Hid (Below wo.heap.size wo wr) ∧ Hid (M.RI (M.ent R) n v r S)) (fun t _ _ _ => n - (intOf t).toNat)
      case atStart => exact ⟨0, _, Nat.zero_le _, rfl, HR0, HB0, M.ri_start hlt⟩
      case round =>
        clear HR0 HB0
        obtain ⟨r, S, hr, rfl, HR, HBr, HI⟩ := hrel
        by_cases hrl : r < n
        · have hri : (r : Int) < (n : Int) := by omega
          have HI1 : Hid (M.MI (M.ent R) n v r 0 S) := ⟨HI.out, fun j hj => absurd hj (Nat.not_lt_zero j)⟩
          go_wp2
          go_loopw [8, 9] (fun t _ wr => ∃ (i : Nat) (S : Nat → Bool), i ≤ n ∧ t = .int .i64 i ∧ Hid (wr.rowIs wo.heap.size 4 n (fun j => .bool (S j))) ∧ Hid (Below wo.heap.size wo wr) ∧ Hid (M.MI (M.ent R) n v r i S)) (fun t _ _ => n - (intOf t).toNat)
          case atStart => exact ⟨0, S, Nat.zero_le _, rfl, HR, HBr, HI1⟩
          case round =>
            clear HR HBr HI HI1
            obtain ⟨i, S, hi, rfl, HR, HBr, HI⟩ := hrel
            by_cases hil : i < n
            · have hii : (i : Int) < (n : Int) := by omega
              have HI1 : Hid (M.KI (M.ent R) n v r i 0 S) := ⟨HI.out, fun j hj => absurd hj (Nat.not_lt_zero j)⟩
              go_wp2
              go_loopw [9] (fun t wr => ∃ (k : Nat) (S : Nat → Bool), k ≤ n ∧ t = .int .i64 k ∧ Hid (wr.rowIs wo.heap.size 4 n (fun j => .bool (S j))) ∧ Hid (Below wo.heap.size wo wr) ∧ Hid (M.KI (M.ent R) n v r i k S)) (fun t _ => n - (intOf t).toNat)
              case atStart => exact ⟨0, S, Nat.zero_le _, rfl, HR, HBr, HI1⟩
              case round =>
                clear HR HBr HI HI1
                obtain ⟨k, S, hk, rfl, HR, HBr, HI⟩ := hrel
                by_cases hkl : k < n
                · have hki : (k : Int) < (n : Int) := by omega
                  have hck := World.rowIs.cell HR.out hkl
                  have hci := World.rowIs.cell HR.out hil
                  have hfi := World.rowIs.frozen HR.out i
                  obtain ⟨d, od, rd, rdo, c4, z, hdd, hz, c41, c42⟩ := ((HSq.out.1.below HB.out).below HBr.out).rect_ent HSq.out.2.1 i k hil hkl
                  injection hdd with hdd
                  injection hdd with e1 e2
                  subst e1 e2
                  have HZ := Lib.hid hz
                  clear hz
                  cases e : S k with
                  | false =>
                    rw [e] at hck
                    have HI2 := Lib.hid (M.ki_skip HI.out (.inl e))
                    clear e
                    go_wp2
                    go_roundw
                    case rel => exact ⟨k + 1, S, by omega, by go_num, HR, HBr, HI2⟩
                    case measure => simp [intOf]; omega
                  | true =>
                    rw [e] at hck
                    by_cases hzb : z = -1000000000000000
                    · have HI2 := Lib.hid (M.ki_skip HI.out (.inr (by rw [← HZ.out]; exact hzb)))
                      have hz1 : (z != -1000000000000000) = false := by simp [hzb]
                      clear e hzb
                      go_wp2
                      go_roundw
                      case rel => exact ⟨k + 1, S, by omega, by go_num, HR, HBr, HI2⟩
                      case measure => simp [intOf]; omega
                    · have HI2 := Lib.hid (M.ki_set hil HI.out e (by rw [← HZ.out]; exact hzb))
                      have hz1 : (z != -1000000000000000) = true := by simpa using hzb
                      have HR2 : Hid ((wr.setCell ⟨wo.heap.size, i, none⟩ (.bool true)).rowIs wo.heap.size 4 n (fun j => .bool (M.upd S i j))) := (World.rowIs.set HR.out i (.bool true)).congr (g := fun j => .bool (M.upd S i j)) fun j hj => by
                        unfold M.upd
                        by_cases e : j = i <;> simp [e]
                      have HB2 := Lib.hid (HBr.out.setCell (p := ⟨wo.heap.size, i, none⟩) (Nat.le_refl _) (.bool true))
                      clear e hzb
                      go_wp2
                      go_roundw
                      case rel => exact ⟨k + 1, M.upd S i, by omega, by go_num, HR2, HB2, HI2⟩
                      case measure => simp [intOf]; omega
                · obtain rfl : k = n := by omega
                  go_wp2
                  go_roundw
                  case rel => exact ⟨i + 1, S, by omega, by go_num, HR, HBr, M.ki_end HI.out⟩
                  case measure => simp [intOf]; omega
            · obtain rfl : i = n := by omega
              go_wp2
              go_roundw
              case rel => exact ⟨r + 1, S, by omega, by go_num, HR, HBr, M.mi_end HI.out⟩
              case measure => simp [intOf]; omega
        · obtain rfl : r = n := by omega
          have HRr : Hid (wr.rowIs wo.heap.size 4 r (fun j => .bool (M.rchB (M.ent R) r v j))) := HR.out.congr fun j _ => by rw [M.rch_rounds HI.out.1 HI.out.2 j]
          go_wp2_with (at_builtin; refine appendB wo _ rfl (.tmp 55) (.tmp 57) rfl w.heap.size _ v r wo.heap.size (M.rchB (M.ent R) r) rfl HO.out HBr.out (Nat.le_refl _) HRr.out rfl (by omega) HB.out.size ?_)
          intro b4 c4 w4 hO4 hb4
          have HO4 := Lib.hid hO4
          have HB4 := Lib.hid ((HB.out.trans (HBr.out.mono HB.out.size)).trans hb4)
          clear hO4 hb4
          go_wp2
          go_roundw
          case rel => exact ⟨v + 1, b4, c4, by omega, by go_num, rfl, HO4, HB4⟩
          case measure => simp [intOf]; omega
    · obtain rfl : v = n := by omega
      go_wp2
      go_ret
      exact ⟨_, _, rfl, HO.out, HB.out⟩
end V
end Go.Proofs.Ythonlfjjgmmnpab
