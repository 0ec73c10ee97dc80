/- Texts laid together: Pth2, Trans, VisZ, Arc. -/
import Derived.Test.YtlljnfljcdljaabGreatRows
import Derived.Test.YtlljnfljcdljaabGreatQz1
import Derived.Test.YtlljnfljcdljaabGreatQz2
import Derived.WalkKit
import Derived.ProofKit
import Derived.WalkSmall
import Derived.Deep.QuietTactic
import Derived.BigQuiet
import Derived.BigRegion
import Derived.Deep.Draws
import Derived.Lib.Hide
import Derived.IntWalk
import Derived.OpenShut
import Derived.Deep.OwnRows
import Derived.Test.YtlljnfljcdljaabGreatQz3
import Derived.Test.YtlljnfljcdljaabGreatQz5
import Derived.Test.YtlljnfljcdljaabGreatQz6
import Derived.StillTailTactics
import Derived.Maps.Own
import Derived.Maps.OwnOps
import Derived.Maps.Views
import Derived.Maps.RangeWalk
import Derived.DeepKeys4
set_option linter.unusedSimpArgs false
set_option linter.unusedVariables false
set_option linter.unusedSectionVars false
namespace Go.Proofs.YtlljnfljcdljaabGreat.V
open Go.RowKit

/-- A square matrix of values. -/
def Sq (w : World) (a : Option Addr) (n : Nat) (R : List (List Int)) : Prop := Mat w a n R ∧ Rect R n n ∧ (∀ i j, i < n → j < n → M.Sm 1000001000000 (M.ent R i j)) ∧ 1 ≤ n ∧ n ≤ 10
theorem sq_of {w : World} {a : Option Addr} {n : Nat} {R : List (List Int)} (h : Mat w a n R) (hs : M.sqB R = true) : Sq w a n R := by
  obtain ⟨h1, h2⟩ := M.sqB_t hs
  have hr := rect_mat h1
  obtain ⟨m1, m2, -⟩ := M.isMat_t h1
  rw [← h2, h.1] at hr
  rw [h.1] at m1 m2
  exact ⟨h, hr, fun i j hi hj => M.sm_wide (M.sm_val (tm_val h1 hr m1 hi hj)), m1, m2⟩
theorem Sq.below {w w' : World} {a : Option Addr} {n : Nat} {R : List (List Int)} (h : Sq w a n R) (hb : Below w.heap.size w w') : Sq w' a n R := ⟨h.1.below hb, h.2⟩
theorem Sq.arc {w : World} {a : Option Addr} {n : Nat} {R : List (List Int)} {l : List Int} (h : Sq w a n R) (hv : M.nodesB n l = true) {i j : Nat} (hi : i < l.length) (hj : j < l.length) : M.Sm 1000001000000 (M.ent R (M.vx l i) (M.vx l j)) :=
  h.2.2.1 _ _ (M.vx_lt hv hi) (M.vx_lt hv hj)
/-- The weights along a list of nodes are near to 0. -/
theorem Sq.along {w : World} {a : Option Addr} {n : Nat} {R : List (List Int)} {l : List Int} (h : Sq w a n R) (hv : M.nodesB n l = true) {t : Nat} (ht : t < l.length) : M.Sm (1000001000000 * t) (M.wkc (M.ent R) (M.vx l) t) :=
  M.wkc_sm fun u hu => h.arc hv (by omega) (by omega)
theorem wn_big {L v : Int} {t : Nat} (h : M.Sm (1000001000000 * t) v) (ht : t ≤ 99) : M.Big v := M.big_sm h (by omega)

set_option maxRecDepth 100000 in
set_option maxHeartbeats 1000000 in
theorem weightAlong (a : Option Addr) (n cap : Nat) (R : List (List Int)) (a' : Option Addr) (N cap' : Nat) (l : List Int) (w : World) (h : Sq w a n R) (h' : Ints .i64 w a' N l) (hv : M.nodesB n l = true) (hc1 : N ≤ cap') (hc2 : cap' ≤ maxLen) (N1 : 1 ≤ N) (N2 : N ≤ 100) :
    Calls Tryz.prog 78 #[.slice a n cap, .slice a' N cap'] w fun e w' => e = .returned (.int .i64 (M.alongW R l)) ∧ ∃ q, w' = w.drewN q := by
  unfold maxLen at hc2
  have HS := Lib.hid h
  have HI := Lib.hid h'
  have HV := Lib.hid hv
  have HL := Lib.hid h'.1
  obtain ⟨b', off', x0, rfl, -, -, -⟩ := h'.at 0 (by omega)
  obtain ⟨b, off, ra, rc, rfl, -, -⟩ := h.1.rect_first h.2.1 h.2.2.2.1
  obtain ⟨n1, n2⟩ := h.2.2.2
  clear h h' hv
  by_cases h1 : N = 1
  · subst h1
    have HE : Hid (M.alongW R l = 0) := by show _ = _; unfold M.alongW; rw [HL.out]; rfl
    by_cases hk : cap' = 1
    · subst hk
      go_enter Tryz.func78, Tryz.ntmps78
      go_wp2
      go_loop [5, 11] (fun sm i => sm = .int .i64 0 ∧ i = .int .i64 0) (fun _ _ => 0)
      case atStart => exact ⟨rfl, rfl⟩
      case round =>
        obtain ⟨rfl, rfl⟩ := hrel
        go_wp2
        go_ret
        exact ⟨retI HE.out.symm, 0, rfl⟩
    · have hk2 : (cap' : Nat) ≠ 1 := hk
      go_enter Tryz.func78, Tryz.ntmps78
      go_wp2
      go_loop [5, 11] (fun sm i => sm = .int .i64 0 ∧ i = .int .i64 0) (fun _ _ => 0)
      case atStart => exact ⟨rfl, rfl⟩
      case round =>
        obtain ⟨rfl, rfl⟩ := hrel
        go_wp2
        go_ret
        exact ⟨retI HE.out.symm, 0, rfl⟩
  · have hk : (cap' : Nat) ≠ 1 := by omega
    have hk1 : 1 ≤ cap' := by omega
    have HA0 : Hid ((0 : Int) = M.wkc (M.ent R) (M.vx l) 0) := rfl
    go_enter Tryz.func78, Tryz.ntmps78
    go_wp2
    go_loopw [5, 6, 7, 11] (fun sm _ _ i wr => ∃ (k : Nat) (y : Int), k ≤ N - 1 ∧ i = .int .i64 k ∧ sm = .int .i64 y ∧ Hid (y = M.wkc (M.ent R) (M.vx l) k) ∧ ∃ q, wr = w.drewN q) (fun _ _ _ i _ => N - (intOf i).toNat)
    case atStart => exact ⟨0, _, Nat.zero_le _, rfl, rfl, HA0, 0, rfl⟩
    case round =>
      obtain ⟨k, y, hk', rfl, rfl, HY, q2, rfl⟩ := hrel
      by_cases hlt : k + 1 < N
      · have hki : (k : Int) < (N : Int) - 1 := by omega
        obtain ⟨d, od, x1, hdd, hd, hx1, c1⟩ := HI.out.at k (by omega)
        injection hdd with hdd
        injection hdd with e1 e2
        subst e1 e2
        obtain ⟨d, od, x2, hdd, hd, hx2, c2⟩ := HI.out.at (k + 1) hlt
        injection hdd with hdd
        injection hdd with e1 e2
        subst e1 e2
        have hl := HL.out
        have hb1 := M.nodesB_at HV.out (k := k) (by omega)
        have hb2 := M.nodesB_at HV.out (k := k + 1) (by omega)
        have hv1 : x1 = ((M.vx l k : Nat) : Int) := by rw [hx1]; unfold M.vx; omega
        have hv2 : x2 = ((M.vx l (k + 1) : Nat) : Int) := by rw [hx2]; unfold M.vx; omega
        have hw1 := M.vx_lt HV.out (k := k) (by omega)
        have hw2 := M.vx_lt HV.out (k := k + 1) (by omega)
        obtain ⟨d, od, rd, rdo, c4, z, hdd, hz, c41, c42⟩ := HS.out.1.rect_ent HS.out.2.1 (M.vx l (k + 1)) (M.vx l k) hw2 hw1
        injection hdd with hdd
        injection hdd with e1 e2
        subst e1 e2
        have HY2 : Hid (M.times y z = M.wkc (M.ent R) (M.vx l) (k + 1)) := by show _ = _; rw [HY.out, hz]; rfl
        have HB1 : Hid (M.Big y) := by
          show M.Big _
          rw [HY.out]
          exact M.big_sm (HS.out.along HV.out (t := k) (by omega)) (by omega)
        have HB2 : Hid (M.Big z) := by
          show M.Big _
          rw [hz]
          exact M.big_sm (HS.out.arc HV.out (by omega) (by omega)) (by omega)
        generalize M.vx l k = u1 at hv1 hw1 c42
        generalize M.vx l (k + 1) = u2 at hv2 hw2 c41
        subst hv1 hv2
        obtain ⟨y2, hy2⟩ : ∃ y2, y2 = M.times y z := ⟨_, rfl⟩
        rw [← hy2] at HY2
        have HC1 : ∀ w : World, Calls Tryz.prog 79 #[.int .i64 y, .int .i64 z] w fun e w' => e = .returned (.int .i64 y2) ∧ w = w' := by
          intro w
          rw [hy2]
          exact timesB _ _ _ HB1.out HB2.out
        have c2' : w.cell? ⟨b', off' + 1 + k, none⟩ = some (.int .i64 (u2 : Int)) := by rw [show off' + 1 + k = off' + (k + 1) by omega]; exact c2
        clear hx1 hx2 hz hd hb1 hb2 hl hy2 c2
        go_wp2
        go_quiet ((go_at_call 79; exact q_more_s (HC1 _)))
        go_wp2
        go_roundw
        case rel => exact ⟨k + 1, _, by omega, by go_num, rfl, HY2, _, rfl⟩
        case measure => simp [intOf]; omega
      · obtain rfl : N = k + 1 := by omega
        go_wp2
        go_ret
        exact ⟨retI (by rw [HY.out]; unfold M.alongW; rw [HL.out]; rfl), _, rfl⟩

set_option maxRecDepth 100000 in
set_option maxHeartbeats 1000000 in
theorem weightAround (a : Option Addr) (n cap : Nat) (R : List (List Int)) (a' : Option Addr) (N cap' : Nat) (l : List Int) (w : World) (h : Sq w a n R) (h' : Ints .i64 w a' N l) (hv : M.nodesB n l = true) (hc1 : N ≤ cap') (hc2 : cap' ≤ maxLen) (N1 : 1 ≤ N) (N2 : N ≤ 100) :
    Calls Tryz.prog 51 #[.slice a n cap, .slice a' N cap'] w fun e w' => e = .returned (.int .i64 (M.aroundW R l)) ∧ ∃ q, w' = w.drewN q := by
  have HM := Lib.hid hc2
  have HS := Lib.hid h
  have HI := Lib.hid h'
  have HV := Lib.hid hv
  have HL := Lib.hid h'.1
  obtain ⟨b', off', x0, rfl, hd0, hx0, c0⟩ := h'.at 0 (by omega)
  obtain ⟨d, od, x1, hdd, hd1, hx1, c1⟩ := h'.at (N - 1) (by omega)
  injection hdd with hdd
  injection hdd with e1 e2
  subst e1 e2
  have hl := h'.1
  have hb1 := M.nodesB_at hv (k := 0) (by omega)
  have hb2 := M.nodesB_at hv (k := N - 1) (by omega)
  have hv1 : x0 = ((M.vx l 0 : Nat) : Int) := by rw [hx0]; unfold M.vx; omega
  have hv2 : x1 = ((M.vx l (N - 1) : Nat) : Int) := by rw [hx1]; unfold M.vx; omega
  have hw1 := M.vx_lt hv (k := 0) (by omega)
  have hw2 := M.vx_lt hv (k := N - 1) (by omega)
  obtain ⟨b, off, rd, rdo, c4, z, rfl, hz, c41, c42⟩ := h.1.rect_ent h.2.1 (M.vx l 0) (M.vx l (N - 1)) hw1 hw2
  obtain ⟨y, hy⟩ : ∃ y, y = M.alongW R l := ⟨_, rfl⟩
  have HY := Lib.hid hy
  obtain ⟨y2, hy2⟩ : ∃ y2, y2 = M.times y z := ⟨_, rfl⟩
  have HY2 : Hid (y2 = M.aroundW R l) := by show _ = _; rw [hy2, hy, hz, ← hl]; rfl
  have HB1 : Hid (M.Big y) := by
    show M.Big _
    rw [hy]; unfold M.alongW
    exact M.big_sm (h.along hv (t := l.length - 1) (by omega)) (by omega)
  have HB2 : Hid (M.Big z) := by
    show M.Big _
    rw [hz]
    exact M.big_sm (h.arc hv (by omega) (by omega)) (by omega)
  have HC1 : ∀ w : World, Calls Tryz.prog 79 #[.int .i64 y, .int .i64 z] w fun e w' => e = .returned (.int .i64 y2) ∧ w = w' := by
    intro w
    rw [hy2]
    exact timesB _ _ _ HB1.out HB2.out
  have HC2 : ∀ q, Calls Tryz.prog 78 #[.slice (some ⟨b, off, none⟩) n cap, .slice (some ⟨b', off', none⟩) N cap'] (w.drewN q) fun e w' => e = .returned (.int .i64 y) ∧ ∃ p, w' = (w.drewN q).drewN p := by
    intro q
    rw [HY.out]
    exact weightAlong _ _ _ _ _ _ _ _ _ (HS.out.below (b_draws _ _)) (HI.out.below (b_draws _ _)) HV.out hc1 HM.out N1 N2
  obtain ⟨n1, n2⟩ := h.2.2.2
  generalize M.vx l 0 = u1 at hv1 hw1 c41
  generalize M.vx l (N - 1) = u2 at hv2 hw2 c42
  subst hv1 hv2
  unfold maxLen at hc2
  have hn0 : ((N : Int) - 1).toNat = N - 1 := by omega
  have hn1 : 0 ≤ (N : Int) - 1 := by omega
  have hn2 : (N : Int) - 1 < N := by omega
  have hn3 : IntKind.i64.wrap ((N : Int) - 1) = (N : Int) - 1 := IntWalk.i64_in _ (by omega)
  clear h h' hv hl hb1 hb2 hx0 hx1 hz hd0 hd1 hy hy2
  rw [Nat.add_zero] at c0
  go_enter Tryz.func51, Tryz.ntmps51
  go_wp2
  go_quiet (fail)
  go_wp2
  go_quiet (first | (go_at_call 78; exact q_more (HC2 _)) | (go_at_call 79; exact q_more_s (HC1 _)))
  go_wp2
  go_ret
  exact ⟨retI HY2.out, _, World.drewN_drewN _ _ _⟩

set_option maxRecDepth 100000 in
set_option maxHeartbeats 1000000 in
theorem sWalk (a : Option Addr) (n cap : Nat) (R : List (List Int)) (a' : Option Addr) (N cap' : Nat) (l : List Int) (w : World) (h : Sq w a n R) (h' : Ints .i64 w a' N l) (hv : M.nodesB n l = true) (N1 : 1 ≤ N) (N2 : N ≤ 100) :
    Calls Tryz.prog 104 #[.slice a n cap, .slice a' N cap'] w fun e w' => e = .returned (.tuple #[.int .i64 (M.walkR R l).1, .bool (M.walkR R l).2]) ∧ ∃ q, w' = w.drewN q := by
  have HS := Lib.hid h
  have HI := Lib.hid h'
  have HV := Lib.hid hv
  have HL := Lib.hid h'.1
  obtain ⟨b', off', x0, rfl, -, -, -⟩ := h'.at 0 (by omega)
  obtain ⟨b, off, ra, rc, rfl, -, -⟩ := h.1.rect_first h.2.1 h.2.2.2.1
  obtain ⟨n1, n2⟩ := h.2.2.2
  clear h h' hv
  have HA0 : Hid ((0 : Int) = M.wkc (M.ent R) (M.vx l) 0) := rfl
  go_enter Tryz.func104, Tryz.ntmps104
  go_wp2
  go_loopw [6, 7, 8] (fun sm i _ wr => ∃ (k : Nat) (y : Int), 1 ≤ k ∧ k ≤ N ∧ i = .int .i64 k ∧ sm = .int .i64 y ∧ y ≠ -1000000000000000 ∧ Hid (y = M.wkc (M.ent R) (M.vx l) (k - 1)) ∧ ∃ q, wr = w.drewN q) (fun _ i _ _ => N - (intOf i).toNat)
  case atStart => exact ⟨1, _, Nat.le_refl _, N1, rfl, rfl, by omega, HA0, 0, rfl⟩
  case round =>
    obtain ⟨k, y, hk1, hk', rfl, rfl, hy0, HY, q2, rfl⟩ := hrel
    by_cases hlt : k < N
    · have hki : (k : Int) < (N : Int) := by omega
      obtain ⟨d, od, x1, hdd, hd, hx1, c1⟩ := HI.out.at (k - 1) (by omega)
      injection hdd with hdd
      injection hdd with e1 e2
      subst e1 e2
      obtain ⟨d, od, x2, hdd, hd, hx2, c2⟩ := HI.out.at k hlt
      injection hdd with hdd
      injection hdd with e1 e2
      subst e1 e2
      have hl := HL.out
      have hb1 := M.nodesB_at HV.out (k := k - 1) (by omega)
      have hb2 := M.nodesB_at HV.out (k := k) (by omega)
      have hv1 : x1 = ((M.vx l (k - 1) : Nat) : Int) := by rw [hx1]; unfold M.vx; omega
      have hv2 : x2 = ((M.vx l k : Nat) : Int) := by rw [hx2]; unfold M.vx; omega
      have hw1 := M.vx_lt HV.out (k := k - 1) (by omega)
      have hw2 := M.vx_lt HV.out (k := k) (by omega)
      obtain ⟨d, od, rd, rdo, c4, z, hdd, hz, c41, c42⟩ := HS.out.1.rect_ent HS.out.2.1 (M.vx l k) (M.vx l (k - 1)) hw2 hw1
      injection hdd with hdd
      injection hdd with e1 e2
      subst e1 e2
      have HK : Hid (M.wkc (M.ent R) (M.vx l) k = M.times y z) := by
        show _ = _
        have e : k = k - 1 + 1 := by omega
        rw [HY.out, hz]
        conv => lhs; rw [e]
        show M.times _ (M.ent R (M.vx l (k - 1 + 1)) (M.vx l (k - 1))) = _
        rw [← e]
      have hsy := HS.out.along HV.out (t := k - 1) (by omega)
      rw [← HY.out] at hsy
      have hsz := HS.out.arc HV.out (l := l) (i := k) (j := k - 1) (by omega) (by omega)
      rw [← hz] at hsz
      generalize M.vx l (k - 1) = u1 at hv1 hw1 c42
      generalize M.vx l k = u2 at hv2 hw2 c41
      subst hv1 hv2
      have hn0 : ((k : Int) - 1).toNat = k - 1 := by omega
      have hn1 : 0 ≤ (k : Int) - 1 := by omega
      have hn2 : (k : Int) - 1 < N := by omega
      have hn3 : IntKind.i64.wrap ((k : Int) - 1) = (k : Int) - 1 := IntWalk.i64_in _ (by omega)
      clear hx1 hx2 hz hd hb1 hb2 hl
      by_cases hz0 : z = -1000000000000000
      · subst hz0
        have HF : Hid (M.walkR R l = (0, false)) := by
          show _ = _
          have e : M.wkc (M.ent R) (M.vx l) k = -1000000000000000 := by rw [HK.out]; exact M.times_bot y
          unfold M.walkR M.alongW
          rw [if_pos (M.wkc_bot e (by have := HL.out; omega))]
        clear hsy hsz
        go_wp2
        go_quiet (fail)
        go_wp2
        go_ret2
        rw [HF.out]
        exact ⟨rfl, _, rfl⟩
      · have hz1 : (z == -1000000000000000) = false := by simpa using hz0
        have ey : -100000100000000 ≤ y ∧ y ≤ 100000100000000 := by unfold M.Sm at hsy; omega
        have ez : -1000001000000 ≤ z ∧ z ≤ 1000001000000 := by unfold M.Sm at hsz; omega
        obtain ⟨ey1, ey2⟩ := ey
        obtain ⟨ez1, ez2⟩ := ez
        have HK2 : Hid (y + z = M.wkc (M.ent R) (M.vx l) (k + 1 - 1)) := by
          show _ = _
          rw [Nat.add_sub_cancel, HK.out]; unfold M.times; rw [if_neg (by omega)]
        clear hsy hsz
        go_wp2
        go_quiet (fail)
        clear c1 c2 c41 c42 hn0 hn1 hn2 hn3
        go_wp2
        go_roundw
        case rel => exact ⟨k + 1, y + z, by omega, by omega, by go_num, rfl, by omega, HK2, _, rfl⟩
        case measure => simp [intOf]; omega
    · obtain rfl : N = k := by omega
      have HF : Hid (M.walkR R l = (y, true)) := by
        show _ = _
        unfold M.walkR M.alongW
        rw [HL.out, ← HY.out, if_neg hy0]
      clear hy0
      go_wp2
      go_ret2
      rw [HF.out]
      exact ⟨rfl, _, rfl⟩
end Go.Proofs.YtlljnfljcdljaabGreat.V

namespace Go.Proofs.YtlljnfljcdljaabGreat.V
open Go.RowKit

set_option maxRecDepth 100000 in
set_option maxHeartbeats 4000000 in
theorem transposed (a : Option Addr) (n cap L : Nat) (R : List (List Int)) (w : World) (h : Mat w a n R) (hr : Rect R n L) (n1 : 1 ≤ n) (n2 : n ≤ 10) (l1 : 1 ≤ L) (l2 : L ≤ 10) :
    Calls Tryz.prog 139 #[.slice a n cap] w (MPost L (M.mk L n (fun i j => M.ent R j i)) w) := by
  have HA := Lib.hid h
  have HR := Lib.hid hr
  obtain ⟨b, off, ra, rc, rfl, hbw, hc⟩ := h.rect_first hr (by omega)
  have hmk := run_make_row' (P := Tryz.prog) 22 32 (.slice none 0 0) 24 Tryz.underlying22 infoS64 rfl .i64 .i64 L (by omega) (by omega)
  have hmk2 := run_make_row' (P := Tryz.prog) 32 2 (.int .i64 0) 8 Tryz.underlying32 info64 rfl .i64 .i64 n (by omega) (by omega)
  have hO0 : Hid (OwnM (w.alloc (.cells (madeCells #[.slice none 0 0] L) 32)) w.heap.size (.slice (some ⟨w.heap.size, 0, none⟩) L L) (M.part L n (fun i j => M.ent R j i) 0)) := by
    rw [M.part_zero]; exact ownM_made w _ L (Nat.le_refl _) (by unfold maxLen; omega)
  have HB0 : Hid (Below w.heap.size w (w.alloc (.cells (madeCells #[.slice none 0 0] L) 32))) := b_alloc w _
  clear h hr
  go_enter Tryz.func139, Tryz.ntmps139
  go_wp2
  clear hc
  go_loopw [14] (fun i wr => ∃ k : Nat, k ≤ L ∧ i = .int .i64 k ∧ OwnM wr w.heap.size (.slice (some ⟨w.heap.size, 0, none⟩) L L) (M.part L n (fun i j => M.ent R j i) k) ∧ Below w.heap.size w wr) (fun i _ => L - (intOf i).toNat)
  case atStart => exact ⟨0, Nat.zero_le _, rfl, hO0.out, HB0.out⟩
  case round =>
    obtain ⟨k, hk, rfl, hO, hb⟩ := hrel
    obtain ⟨wo, rfl⟩ : ∃ x, x = wr := ⟨_, rfl⟩
    have HO := Lib.hid hO
    have HB := Lib.hid hb
    clear hO hb hO0 HB0
    by_cases hlt : k < L
    · have hki : (k : Int) < (L : Int) := by omega
      have hg := HO.out.lt rfl
      have hsz := HB.out.size
      obtain ⟨v0, hv0⟩ := HO.out.outer k hlt
      have hfz0 := HO.out.outerFz k
      have hO2 := HO.out.setRow (b_alloc wo (.cells (madeCells #[.int .i64 0] n) 2)) hsz (own_made wo wo.heap.size n (Nat.le_refl _) (by unfold maxLen; omega)) k hlt
      rw [M.part_set] at hO2
      rw [World.setCell_alloc_past _ _ _ _ hg] at hO2
      have HO2 := Lib.hid hO2
      have hB2 := (((HB.out.alloc hsz (.cells (madeCells #[.int .i64 0] n) 2))).setCell (p := ⟨w.heap.size, k, none⟩) (Nat.le_refl _) (.slice (some ⟨wo.heap.size, 0, none⟩) n n))
      rw [World.setCell_alloc_past _ _ _ _ hg] at hB2
      have HB2 := Lib.hid hB2
      clear hO2 hB2
      go_wp2
      clear hv0 hfz0 hg
      go_loopw [25] (fun j wr => ∃ t : Nat, t ≤ n ∧ j = .int .i64 t ∧ OwnM wr w.heap.size (.slice (some ⟨w.heap.size, 0, none⟩) L L) (M.part2 L n (fun i j => M.ent R j i) k t) ∧ Below w.heap.size w wr) (fun j _ => n - (intOf j).toNat)
      case atStart => exact ⟨0, Nat.zero_le _, rfl, HO2.out, HB2.out⟩
      case round =>
        obtain ⟨t, ht, rfl, hO, hb⟩ := hrel
        have HOi := Lib.hid hO
        have HBi := Lib.hid hb
        clear hO hb HO2 HB2
        by_cases htl : t < n
        · have hti : (t : Int) < (n : Int) := by omega
          obtain ⟨g, q, L3, c3, x3, hgg, hg3, hq3, hL3, hx3, c31, c32, f31, ho3⟩ := HOi.out.at k t hlt (by rw [M.part2_rowlen _ _ _ _ _ hlt]; exact htl)
          injection hgg with hgg
          injection hgg with hgg
          subst hgg
          rw [M.part2_rowlen _ _ _ _ _ hlt] at hL3
          subst hL3
          obtain ⟨d, od, rd, ro, c4, x4, hdd, hx4, c41, c42⟩ := (HA.out.below HBi.out).rect_ent HR.out t k htl hlt
          injection hdd with hdd
          injection hdd with e1 e2
          subst e1 e2
          have HN : Hid (OwnM (wr.setCell ⟨q, t, none⟩ (.int .i64 x4)) w.heap.size (.slice (some ⟨w.heap.size, 0, none⟩) L L) (M.part2 L L3 (fun i j => M.ent R j i) k (t + 1))) :=
            (congrArg (OwnM _ _ _) (by rw [hx4]; exact M.part2_set _ _ (fun i j => M.ent R j i) _ _ hlt)).mp (ho3 x4)
          clear ho3 hx3 hx4
          go_wp2
          go_still_tail 10, (by kernel_rfl)
          change wpList _ _ _ _ _ wr.drew
          go_wp2
          go_roundw
          case rel => exact ⟨t + 1, by omega, by go_num, HN.out.keep (fun _ _ _ => rfl), HBi.out.drew.setCell hq3 _⟩
          case measure => simp [intOf]; omega
        · obtain rfl : t = n := by omega
          have hO2 := HOi.out
          rw [M.part2_end] at hO2
          have HO2 := Lib.hid hO2
          clear hO2
          go_wp2
          go_roundw
          case rel => exact ⟨k + 1, by omega, by go_num, HO2.out, HBi.out⟩
          case measure => simp [intOf]; omega
    · obtain rfl : k = L := by omega
      go_wp2
      go_ret
      exact ⟨_, _, rfl, by rw [← M.part_end]; exact HO.out, HB.out⟩


end Go.Proofs.YtlljnfljcdljaabGreat.V

namespace Go.Proofs.YtlljnfljcdljaabGreat.V
set_option maxRecDepth 100000
open Go.RowKit Go.Maps
theorem keyI : Keyed Tryz.prog 2 := int_keyed Tryz.underlying2
theorem zeroB (w : World) : (zeroValue 4).run Tryz.prog w = .ok (.bool false) w := by kernel_rfl
theorem keyAt (t : Nat) (ht : t < 1000) : keyOf Tryz.prog 2 (.int .i64 (t : Int)) = some (.int .i64 (t : Int)) := keyOf_int_mk Tryz.underlying2 (WalkArith.wf_i64 (by omega))
/-- Block b is a map that holds the set S of the n nodes. -/
def IsSet (w : World) (b n : Nat) (S : Nat → Bool) : Prop :=
  ∃ D : DataW Unit, w.ownsMap Tryz.prog 2 (plainElem Tryz.prog 4) b (M.cnt S n) D ∧ IsMap D ∧ ∀ t : Nat, t < n → D.atKey (.int .i64 (t : Int)) (.lit (.bool false)) = .lit (.bool (S t))
theorem IsSet.lt {w : World} {b n : Nat} {S : Nat → Bool} (h : IsSet w b n S) : b < w.heap.size := by
  obtain ⟨D, h, -⟩ := h
  exact h.lt
theorem IsSet.block {w w' : World} {b n : Nat} {S : Nat → Bool} (h : IsSet w b n S) (e : w'.heap[b]? = w.heap[b]?) : IsSet w' b n S := by
  obtain ⟨D, ⟨es, clock, hb, F, hs, hD⟩, h2, h3⟩ := h
  exact ⟨D, ⟨es, clock, e.trans hb, F, hs, hD⟩, h2, h3⟩
theorem IsSet.below {w w' : World} {B b n : Nat} {S : Nat → Bool} (h : IsSet w b n S) (hb : Below B w w') (hB : b < B) : IsSet w' b n S := h.block (hb.block b hB)
theorem IsSet.congr {w : World} {b n : Nat} {S S' : Nat → Bool} (h : IsSet w b n S) (e : ∀ i, i < n → S i = S' i) : IsSet w b n S' := by
  obtain ⟨D, h1, h2, h3⟩ := h
  exact ⟨D, by rw [← M.cnt_congr e]; exact h1, h2, fun t ht => by rw [h3 t ht, e t ht]⟩
theorem isSet_made (w : World) (n : Nat) : IsSet (w.alloc (.map #[] 0)) w.heap.size n (fun _ => false) :=
  ⟨.map [], by rw [M.cnt_none fun _ _ => rfl]; exact World.ownsMap_made _ _ _ _, ⟨[], rfl⟩, fun _ _ => rfl⟩
theorem plainElem_bool_inv {v : Value} {z : DataW Unit × List MemPlace} (h : plainElem Tryz.prog 4 v = some z) : ∃ x, v = .bool x ∧ z = (.lit (.bool x), []) := by
  unfold plainElem at h
  rw [Tryz.underlying4] at h
  cases v <;> simp at h
  exact ⟨_, rfl, h.symm⟩
end Go.Proofs.YtlljnfljcdljaabGreat.V

namespace Go.Proofs.YtlljnfljcdljaabGreat.V
set_option maxRecDepth 100000
open Go.RowKit Go.Maps
end Go.Proofs.YtlljnfljcdljaabGreat.V

namespace Go.Proofs.YtlljnfljcdljaabGreat.V
set_option maxRecDepth 100000
open Go.RowKit Go.Maps
abbrev arcV (f t : Nat) : Value := .agg #[.int .i64 (f : Int), .int .i64 (t : Int)]
def akey (f t : Nat) : Lit := .string (keyBytes [.int .i64 (f : Int), .int .i64 (t : Int)])
theorem arcLaid : laidOutB Tryz.prog = true := by kernel_rfl
theorem arcRowLt : (51 : TypeId) < Tryz.prog.types.size := of_decide_eq_true (by kernel_rfl)
theorem arcWide : (match Tryz.prog.underlying 51 with | some (.array _ _) | some (.struct _) => true | _ => false) = true := by rw [Tryz.underlying51]
theorem keyA : Keyed Tryz.prog 51 := Keyed.of_law (deep_law_laid arcLaid (m := 2) (by omega) arcRowLt (by kernel_rfl) arcWide)
theorem arcKeyType : Tryz.prog.keyType 51 = true := by kernel_rfl
theorem arcCells : Tryz.prog.cellsOf 51 = 2 := by kernel_rfl
theorem arcCells1 : Tryz.prog.cellsOf 2 = 1 := by kernel_rfl
theorem typesPos : ∃ m, Tryz.prog.types.size = m + 1 := ⟨_, (Nat.succ_pred_eq_of_pos (Nat.lt_of_le_of_lt (Nat.zero_le _) arcRowLt)).symm⟩
theorem akeyAt (f t : Nat) (hf : f < 1000) (ht : t < 1000) : keyOf Tryz.prog 51 (arcV f t) = some (akey f t) := by
  obtain ⟨m, hm⟩ := typesPos
  have w1 : (Lit.int .i64 (f : Int)).wf = true := WalkArith.wf_i64 (by omega)
  have w2 : (Lit.int .i64 (t : Int)).wf = true := WalkArith.wf_i64 (by omega)
  unfold keyOf
  rw [Tryz.underlying51]
  have hfm : (arcV f t).formed Tryz.prog 51 = true := by simp [Value.formed, Tryz.underlying51, arcCells]
  simp only [arcKeyType, hfm, Bool.and_self, if_true]
  rw [hm]
  simp [Program.keyLits, Tryz.underlying51, Tryz.underlying2, arcCells, arcCells1, Value.cells, w1, w2, akey]
theorem akey_inj {f t f' t' : Nat} (h1 : f < 1000) (h2 : t < 1000) (h3 : f' < 1000) (h4 : t' < 1000) (h : akey f t = akey f' t') : f = f' ∧ t = t' := by
  have e := keyA.inj (akeyAt f t h1 h2) (by rw [h]; exact akeyAt f' t' h3 h4)
  injection e with e
  simp at e
  exact ⟨by omega, by omega⟩
theorem akeyKey (f t : Nat) : WideAt.IsKeyLit (akey f t) := trivial
/-- The datum holds the set S of pairs of nodes. -/
def IsArcD (D : DataW Unit) (n : Nat) (S : Nat → Nat → Bool) : Prop :=
  IsMap D ∧ (∀ f t, f < n → t < n → D.atKey (akey f t) (.lit (.bool false)) = .lit (.bool (S f t))) ∧ (∀ f t, f < n → t < n → Maps.has D (akey f t) = S f t) ∧ (∀ kl, Maps.has D kl = true → ∃ f t, f < n ∧ t < n ∧ kl = akey f t)
/-- Block b is a map of at most m arcs. -/
def IsArcs (w : World) (b n m : Nat) (S : Nat → Nat → Bool) : Prop :=
  ∃ D : DataW Unit, w.ownsMap Tryz.prog 51 (plainElem Tryz.prog 4) b m D ∧ IsArcD D n S
theorem IsArcs.lt {w : World} {b n m : Nat} {S : Nat → Nat → Bool} (h : IsArcs w b n m S) : b < w.heap.size := by
  obtain ⟨D, h, -⟩ := h
  exact h.lt
theorem IsArcs.block {w w' : World} {b n m : Nat} {S : Nat → Nat → Bool} (h : IsArcs w b n m S) (e : w'.heap[b]? = w.heap[b]?) : IsArcs w' b n m S := by
  obtain ⟨D, ⟨es, clock, hb, F, hs, hD⟩, h2⟩ := h
  exact ⟨D, ⟨es, clock, e.trans hb, F, hs, hD⟩, h2⟩
theorem IsArcs.below {w w' : World} {B b n m : Nat} {S : Nat → Nat → Bool} (h : IsArcs w b n m S) (hb : Below B w w') (hB : b < B) : IsArcs w' b n m S := h.block (hb.block b hB)
theorem IsArcs.mono {w : World} {b n m m' : Nat} {S : Nat → Nat → Bool} (h : IsArcs w b n m S) (hm : m ≤ m') : IsArcs w b n m' S := by
  obtain ⟨D, h1, h2⟩ := h
  exact ⟨D, h1.mono hm, h2⟩
theorem IsArcD.congr {D : DataW Unit} {n : Nat} {S S' : Nat → Nat → Bool} (h : IsArcD D n S) (e : ∀ f t, f < n → t < n → S f t = S' f t) : IsArcD D n S' := by
  obtain ⟨h1, h2, h3, h4⟩ := h
  exact ⟨h1, fun f t hf ht => by rw [h2 f t hf ht, e f t hf ht], fun f t hf ht => by rw [h3 f t hf ht, e f t hf ht], h4⟩
theorem IsArcs.congr {w : World} {b n m : Nat} {S S' : Nat → Nat → Bool} (h : IsArcs w b n m S) (e : ∀ f t, f < n → t < n → S f t = S' f t) : IsArcs w b n m S' := by
  obtain ⟨D, h1, h2⟩ := h
  exact ⟨D, h1, h2.congr e⟩
theorem isArcs_made (w : World) (n : Nat) : IsArcs (w.alloc (.map #[] 0)) w.heap.size n 0 (fun _ _ => false) :=
  ⟨.map [], World.ownsMap_made _ _ _ _, ⟨[], rfl⟩, fun _ _ _ _ => rfl, fun _ _ _ _ => rfl, fun kl h => by cases h⟩
theorem IsArcs.look {w : World} {b n m : Nat} {S : Nat → Nat → Bool} (h : IsArcs w b n m S) (hn : n ≤ 10) (f t : Nat) (hf : f < n) (ht : t < n) : (Instr.lookup 45 (.map (some b)) (arcV f t) false).run Tryz.prog w = .ok (.bool (S f t)) w := by
  obtain ⟨D, h1, -, h3, -⟩ := h
  obtain ⟨v, ps, hr, hv⟩ := h1.lookup keyA Tryz.underlying45 (zeroB w) (plainElem_bool Tryz.underlying4 false) (akeyAt f t (by omega) (by omega))
  rw [h3 f t hf ht] at hv
  obtain ⟨x, rfl, hz⟩ := plainElem_bool_inv hv
  simp only [Prod.mk.injEq, DataW.lit.injEq, Lit.bool.injEq] at hz
  rw [hr, hz.1]
theorem IsArcD.put {D : DataW Unit} {n : Nat} {S : Nat → Nat → Bool} (h : IsArcD D n S) (hn : n ≤ 10) {f t : Nat} (hf : f < n) (ht : t < n) : IsArcD (D.put (akey f t) (.lit (.bool true))) n (M.upd2 S f t) := by
  obtain ⟨h1, h2, h3, h4⟩ := h
  have hne : ∀ f' t', f' < n → t' < n → ¬ (f' = f ∧ t' = t) → akey f' t' ≠ akey f t := fun f' t' a b c e => c (akey_inj (by omega) (by omega) (by omega) (by omega) e)
  have hu : ∀ f' t', ¬ (f' = f ∧ t' = t) → M.upd2 S f t f' t' = S f' t' := fun f' t' c => by
    unfold M.upd2
    by_cases a : f' = f
    · by_cases b : t' = t
      · exact absurd ⟨a, b⟩ c
      · simp [b]
    · simp [a]
  refine ⟨h1.put _ _, fun f' t' a b => ?_, fun f' t' a b => ?_, fun kl hk => ?_⟩
  · by_cases c : f' = f ∧ t' = t
    · obtain ⟨rfl, rfl⟩ := c
      rw [atKey_put_same h1 (akeyKey _ _)]
      unfold M.upd2; simp
    · rw [atKey_put_other (hne f' t' a b c), h2 f' t' a b, hu f' t' c]
  · by_cases c : f' = f ∧ t' = t
    · obtain ⟨rfl, rfl⟩ := c
      rw [has_put_same h1 (akeyKey _ _)]
      unfold M.upd2; simp
    · rw [has_put_other (hne f' t' a b c), h3 f' t' a b, hu f' t' c]
  · by_cases c : kl = akey f t
    · exact ⟨f, t, hf, ht, c⟩
    · rw [has_put_other c] at hk
      exact h4 kl hk
theorem wpList_putA (w : World) {ops : Array Oper} {rest : List Oper} {o : Oper} {a : Act} {Q : Exit → Act → World → Prop}
    (hg : o.guard = none) (m x v : Operand) (hop : o.op = Op.mapUpdate 45 m x v) (b n M0 : Nat) (S : Nat → Nat → Bool) (f t : Nat)
    (hm : a.eval m = .map (some b)) (hown : IsArcs w b n M0 S) (hn : n ≤ 10) (hM : M0 < 1000) (hf : f < n) (ht : t < n) (hx : a.eval x = arcV f t) (hv : a.eval v = .bool true)
    (hK : ∀ w', IsArcs w' b n (M0 + 1) (M.upd2 S f t) → w.grownBy w' (some b) → wpList Tryz.prog ops Q rest (a.put o.dst undef) w') :
    wpList Tryz.prog ops Q (o :: rest) a w := by
  obtain ⟨D, h1, h2⟩ := hown
  exact wpList_mapUpdate_own w hg m x v 45 hop 51 4 keyA Tryz.underlying45 _ b M0 D hm h1 (by unfold maxLen; omega) _ _ _ hx hv (akeyAt f t (by omega) (by omega)) _ [] (plainElem_bool Tryz.underlying4 true) fun w' h' hg' => hK w' ⟨_, h', h2.put hn hf ht⟩ hg'
/-- A range over the arcs of block b, by the iterator r: L tells which of the arcs S are still to come. -/
def RngA (w : World) (b r n m : Nat) (S L : Nat → Nat → Bool) (cnt : Nat) : Prop :=
  ∃ (D : DataW Unit) (left : Lit → Bool), w.ranges Tryz.prog 51 (plainElem Tryz.prog 4) b r m D left cnt ∧ IsArcD D n S ∧ (∀ kl, left kl = true → Maps.has D kl = true) ∧ ∀ f t, f < n → t < n → left (akey f t) = L f t
theorem RngA.owns {w : World} {b r n m cnt : Nat} {S L : Nat → Nat → Bool} (h : RngA w b r n m S L cnt) : IsArcs w b n m S := by
  obtain ⟨D, left, h1, h2, -⟩ := h
  exact ⟨D, h1.owns, h2⟩
theorem RngA.lt {w : World} {b r n m cnt : Nat} {S L : Nat → Nat → Bool} (h : RngA w b r n m S L cnt) : r < w.heap.size := by
  obtain ⟨D, left, h1, -⟩ := h
  exact h1.lt
theorem RngA.left_eq {w : World} {b r n m cnt : Nat} {S L : Nat → Nat → Bool} (h : RngA w b r n m S L cnt) : w.rangeLeft b r = cnt := by
  obtain ⟨D, left, h1, -⟩ := h
  exact h1.left_eq
theorem RngA.blocks {w w' : World} {b r n m cnt : Nat} {S L : Nat → Nat → Bool} (h : RngA w b r n m S L cnt) (e1 : w'.heap[b]? = w.heap[b]?) (e2 : w'.heap[r]? = w.heap[r]?) : RngA w' b r n m S L cnt := by
  obtain ⟨D, left, ⟨es, clock, since, seen, c0, hb, F, hs, hD, hr, rest⟩, h2⟩ := h
  exact ⟨D, left, ⟨es, clock, since, seen, c0, e1.trans hb, F, hs, hD, e2.trans hr, rest⟩, h2⟩
theorem wpList_rangeA (w : World) {ops : Array Oper} {rest : List Oper} {o : Oper} {a : Act} {Q : Exit → Act → World → Prop}
    (hg : o.guard = none) (m : Operand) (hop : o.op = Op.range 45 m) (b n M0 : Nat) (S : Nat → Nat → Bool)
    (hm : a.eval m = .map (some b)) (hown : IsArcs w b n M0 S)
    (hK : ∀ w' cnt, RngA w' b w.heap.size n M0 S S cnt → cnt ≤ M0 → w.grownBy w' none → w'.heap.size = w.heap.size + 1 → wpList Tryz.prog ops Q rest (a.put o.dst (.pointer (some ⟨w.heap.size, 0, none⟩))) w') :
    wpList Tryz.prog ops Q (o :: rest) a w := by
  obtain ⟨D, h1, h2⟩ := hown
  have hsz : Maps.size D ≤ M0 := by
    obtain ⟨es, clock, -, -, hle, rfl⟩ := h1
    simp only [Maps.size, length_sorted, List.length_map]
    simpa using hle
  exact wpList_range_own w hg m 45 hop 51 4 keyA Tryz.underlying45 _ b M0 D hm h1 fun w' hr hgr hz => hK w' _ ⟨D, _, hr, h2, fun _ h => h, h2.2.2.1⟩ hsz hgr hz
def strike (L : Nat → Nat → Bool) (f t a b : Nat) : Bool := L a b && !(decide (a = f) && decide (b = t))
theorem wpList_nextA (w : World) {ops : Array Oper} {rest : List Oper} {o : Oper} {a : Act} {Q : Exit → Act → World → Prop}
    (hg : o.guard = none) (it : Operand) (hop : o.op = Op.next it false) (b r n M0 : Nat) (S L : Nat → Nat → Bool) (cnt : Nat) (hn : n ≤ 10)
    (hit : a.eval it = .pointer (some ⟨r, 0, none⟩)) (h : RngA w b r n M0 S L cnt)
    (hDone : (∀ f t, f < n → t < n → L f t = false) → wpList Tryz.prog ops Q rest (a.put o.dst (.tuple #[.bool false])) w)
    (hMore : ∀ (f t : Nat) (w' : World) (cnt' : Nat), f < n → t < n → L f t = true → S f t = true → RngA w' b r n M0 S (strike L f t) cnt' → cnt' < cnt → w.grownBy w' (some r) → w'.heap.size = w.heap.size →
      (Instr.entry (.pointer (some ⟨r, 0, none⟩))).run Tryz.prog w' = .ok (.tuple #[arcV f t, .bool true]) w' → wpList Tryz.prog ops Q rest (a.put o.dst (.tuple #[.bool true, arcV f t, .bool true])) w') :
    wpList Tryz.prog ops Q (o :: rest) a w := by
  obtain ⟨D, left, h1, h2, h3, h4⟩ := h
  refine wpList_plain hg fun K' hK' => ?_
  unfold Oper.wp
  rcases h1.next keyA o.type with ⟨h0, hl, hrun⟩ | ⟨key, v, kl, y, w', cnt', hkey, hlk, hv, hat, hrun, hrg, hlt, hgr, hsz, hen⟩
  · simp [execOp, hop, hit, hrun, Result.andThen]
    exact hK' _ _ (hDone fun f t hf ht => by rw [← h4 f t hf ht, hl])
  · obtain ⟨f, t, hf, ht, rfl⟩ := h2.2.2.2 kl (h3 kl hlk)
    obtain rfl := keyA.inj hkey (akeyAt f t (by omega) (by omega))
    obtain ⟨x, rfl, hz⟩ := plainElem_bool_inv hv
    have hS : S f t = true := by rw [← h2.2.2.1 f t hf ht]; exact h3 _ hlk
    have hx : x = true := by
      have e := hat (.lit (.bool false))
      rw [h2.2.1 f t hf ht, hS, hz] at e
      injection e with e
      injection e with e
      exact e.symm
    subst hx
    simp [execOp, hop, hit, hrun, Result.andThen]
    refine hK' _ _ (hMore f t w' cnt' hf ht (by rw [← h4 f t hf ht]; exact hlk) hS ⟨D, _, hrg, h2, fun kl hk => h3 kl (by simp at hk; exact hk.1), fun f' t' a b => ?_⟩ hlt hgr hsz hen)
    show (left (akey f' t') && !(akey f' t').sameKey (akey f t)) = strike L f t f' t'
    unfold strike
    rw [h4 f' t' a b]
    congr 1
    by_cases c : f' = f ∧ t' = t
    · obtain ⟨rfl, rfl⟩ := c
      rw [WideAt.sameKey_self (akeyKey _ _)]; simp
    · have hne : akey f' t' ≠ akey f t := fun e => c (akey_inj (by omega) (by omega) (by omega) (by omega) e)
      rw [sameKey_ne hne]
      by_cases p : f' = f
      · by_cases q : t' = t
        · exact absurd ⟨p, q⟩ c
        · simp [q]
      · simp [p]
end Go.Proofs.YtlljnfljcdljaabGreat.V
