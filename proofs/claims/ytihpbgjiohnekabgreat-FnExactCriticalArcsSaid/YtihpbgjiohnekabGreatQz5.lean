/- Texts laid together: Pth2, Trans, VisZ, Mat1, Mat2, Mark, Cmo. -/
import Derived.Test.YtihpbgjiohnekabGreatRows
import Derived.Test.YtihpbgjiohnekabGreatQz1
import Derived.Test.YtihpbgjiohnekabGreatQz3
import Derived.WalkKit
import Derived.ProofKit
import Derived.WalkSmall
import Derived.Deep.QuietTactic
import Derived.BigQuiet
import Derived.BigRegion
import Derived.Deep.Draws
import Derived.Lib.Hide
import Derived.IntWalk
import Derived.OpenShut
import Derived.Deep.OwnRows
import Derived.Test.YtihpbgjiohnekabGreatQz4
import Derived.StillTailTactics
import Derived.Maps.Own
import Derived.Maps.OwnOps
import Derived.Maps.Views
set_option linter.unusedSimpArgs false
set_option linter.unusedVariables false
set_option linter.unusedSectionVars false
namespace Go.Proofs.YtihpbgjiohnekabGreat.V
open Go.RowKit

/-- A square matrix of values. -/
def Sq (w : World) (a : Option Addr) (n : Nat) (R : List (List Int)) : Prop := Mat w a n R ∧ Rect R n n ∧ (∀ i j, i < n → j < n → M.Sm 1000001000000 (M.ent R i j)) ∧ 1 ≤ n ∧ n ≤ 10
theorem sq_of {w : World} {a : Option Addr} {n : Nat} {R : List (List Int)} (h : Mat w a n R) (hs : M.sqB R = true) : Sq w a n R := by
  obtain ⟨h1, h2⟩ := M.sqB_t hs
  have hr := rect_mat h1
  obtain ⟨m1, m2, -⟩ := M.isMat_t h1
  rw [← h2, h.1] at hr
  rw [h.1] at m1 m2
  exact ⟨h, hr, fun i j hi hj => M.sm_wide (M.sm_val (tm_val h1 hr m1 hi hj)), m1, m2⟩
theorem Sq.below {w w' : World} {a : Option Addr} {n : Nat} {R : List (List Int)} (h : Sq w a n R) (hb : Below w.heap.size w w') : Sq w' a n R := ⟨h.1.below hb, h.2⟩
theorem Sq.arc {w : World} {a : Option Addr} {n : Nat} {R : List (List Int)} {l : List Int} (h : Sq w a n R) (hv : M.nodesB n l = true) {i j : Nat} (hi : i < l.length) (hj : j < l.length) : M.Sm 1000001000000 (M.ent R (M.vx l i) (M.vx l j)) :=
  h.2.2.1 _ _ (M.vx_lt hv hi) (M.vx_lt hv hj)
/-- The weights along a list of nodes are near to 0. -/
theorem Sq.along {w : World} {a : Option Addr} {n : Nat} {R : List (List Int)} {l : List Int} (h : Sq w a n R) (hv : M.nodesB n l = true) {t : Nat} (ht : t < l.length) : M.Sm (1000001000000 * t) (M.wkc (M.ent R) (M.vx l) t) :=
  M.wkc_sm fun u hu => h.arc hv (by omega) (by omega)
theorem wn_big {L v : Int} {t : Nat} (h : M.Sm (1000001000000 * t) v) (ht : t ≤ 99) : M.Big v := M.big_sm h (by omega)

set_option maxRecDepth 100000 in
set_option maxHeartbeats 1000000 in
theorem weightAlong (a : Option Addr) (n cap : Nat) (R : List (List Int)) (a' : Option Addr) (N cap' : Nat) (l : List Int) (w : World) (h : Sq w a n R) (h' : Ints .i64 w a' N l) (hv : M.nodesB n l = true) (hc1 : N ≤ cap') (hc2 : cap' ≤ maxLen) (N1 : 1 ≤ N) (N2 : N ≤ 100) :
    Calls Tryz.prog 178 #[.slice a n cap, .slice a' N cap'] w fun e w' => e = .returned (.int .i64 (M.alongW R l)) ∧ ∃ q, w' = w.drewN q := by
  unfold maxLen at hc2
  have HS := Lib.hid h
  have HI := Lib.hid h'
  have HV := Lib.hid hv
  have HL := Lib.hid h'.1
  obtain ⟨b', off', x0, rfl, -, -, -⟩ := h'.at 0 (by omega)
  obtain ⟨b, off, ra, rc, rfl, -, -⟩ := h.1.rect_first h.2.1 h.2.2.2.1
  obtain ⟨n1, n2⟩ := h.2.2.2
  clear h h' hv
  by_cases h1 : N = 1
  · subst h1
    have HE : Hid (M.alongW R l = 0) := by show _ = _; unfold M.alongW; rw [HL.out]; rfl
    by_cases hk : cap' = 1
    · subst hk
      go_enter Tryz.func178, Tryz.ntmps178
      go_wp2
      go_loop [5, 11] (fun sm i => sm = .int .i64 0 ∧ i = .int .i64 0) (fun _ _ => 0)
      case atStart => exact ⟨rfl, rfl⟩
      case round =>
        obtain ⟨rfl, rfl⟩ := hrel
        go_wp2
        go_ret
        exact ⟨retI HE.out.symm, 0, rfl⟩
    · have hk2 : (cap' : Nat) ≠ 1 := hk
      go_enter Tryz.func178, Tryz.ntmps178
      go_wp2
      go_loop [5, 11] (fun sm i => sm = .int .i64 0 ∧ i = .int .i64 0) (fun _ _ => 0)
      case atStart => exact ⟨rfl, rfl⟩
      case round =>
        obtain ⟨rfl, rfl⟩ := hrel
        go_wp2
        go_ret
        exact ⟨retI HE.out.symm, 0, rfl⟩
  · have hk : (cap' : Nat) ≠ 1 := by omega
    have hk1 : 1 ≤ cap' := by omega
    have HA0 : Hid ((0 : Int) = M.wkc (M.ent R) (M.vx l) 0) := rfl
    go_enter Tryz.func178, Tryz.ntmps178
    go_wp2
    go_loopw [5, 6, 7, 11] (fun sm _ _ i wr => ∃ (k : Nat) (y : Int), k ≤ N - 1 ∧ i = .int .i64 k ∧ sm = .int .i64 y ∧ Hid (y = M.wkc (M.ent R) (M.vx l) k) ∧ ∃ q, wr = w.drewN q) (fun _ _ _ i _ => N - (intOf i).toNat)
    case atStart => exact ⟨0, _, Nat.zero_le _, rfl, rfl, HA0, 0, rfl⟩
    case round =>
      obtain ⟨k, y, hk', rfl, rfl, HY, q2, rfl⟩ := hrel
      by_cases hlt : k + 1 < N
      · have hki : (k : Int) < (N : Int) - 1 := by omega
        obtain ⟨d, od, x1, hdd, hd, hx1, c1⟩ := HI.out.at k (by omega)
        injection hdd with hdd
        injection hdd with e1 e2
        subst e1 e2
        obtain ⟨d, od, x2, hdd, hd, hx2, c2⟩ := HI.out.at (k + 1) hlt
        injection hdd with hdd
        injection hdd with e1 e2
        subst e1 e2
        have hl := HL.out
        have hb1 := M.nodesB_at HV.out (k := k) (by omega)
        have hb2 := M.nodesB_at HV.out (k := k + 1) (by omega)
        have hv1 : x1 = ((M.vx l k : Nat) : Int) := by rw [hx1]; unfold M.vx; omega
        have hv2 : x2 = ((M.vx l (k + 1) : Nat) : Int) := by rw [hx2]; unfold M.vx; omega
        have hw1 := M.vx_lt HV.out (k := k) (by omega)
        have hw2 := M.vx_lt HV.out (k := k + 1) (by omega)
        obtain ⟨d, od, rd, rdo, c4, z, hdd, hz, c41, c42⟩ := HS.out.1.rect_ent HS.out.2.1 (M.vx l (k + 1)) (M.vx l k) hw2 hw1
        injection hdd with hdd
        injection hdd with e1 e2
        subst e1 e2
        have HY2 : Hid (M.times y z = M.wkc (M.ent R) (M.vx l) (k + 1)) := by show _ = _; rw [HY.out, hz]; rfl
        have HB1 : Hid (M.Big y) := by
          show M.Big _
          rw [HY.out]
          exact M.big_sm (HS.out.along HV.out (t := k) (by omega)) (by omega)
        have HB2 : Hid (M.Big z) := by
          show M.Big _
          rw [hz]
          exact M.big_sm (HS.out.arc HV.out (by omega) (by omega)) (by omega)
        generalize M.vx l k = u1 at hv1 hw1 c42
        generalize M.vx l (k + 1) = u2 at hv2 hw2 c41
        subst hv1 hv2
        obtain ⟨y2, hy2⟩ : ∃ y2, y2 = M.times y z := ⟨_, rfl⟩
        rw [← hy2] at HY2
        have HC1 : ∀ w : World, Calls Tryz.prog 179 #[.int .i64 y, .int .i64 z] w fun e w' => e = .returned (.int .i64 y2) ∧ w = w' := by
          intro w
          rw [hy2]
          exact timesB _ _ _ HB1.out HB2.out
        have c2' : w.cell? ⟨b', off' + 1 + k, none⟩ = some (.int .i64 (u2 : Int)) := by rw [show off' + 1 + k = off' + (k + 1) by omega]; exact c2
        clear hx1 hx2 hz hd hb1 hb2 hl hy2 c2
        go_wp2
        go_quiet ((go_at_call 179; exact q_more_s (HC1 _)))
        go_wp2
        go_roundw
        case rel => exact ⟨k + 1, _, by omega, by go_num, rfl, HY2, _, rfl⟩
        case measure => simp [intOf]; omega
      · obtain rfl : N = k + 1 := by omega
        go_wp2
        go_ret
        exact ⟨retI (by rw [HY.out]; unfold M.alongW; rw [HL.out]; rfl), _, rfl⟩

set_option maxRecDepth 100000 in
set_option maxHeartbeats 1000000 in
theorem weightAround (a : Option Addr) (n cap : Nat) (R : List (List Int)) (a' : Option Addr) (N cap' : Nat) (l : List Int) (w : World) (h : Sq w a n R) (h' : Ints .i64 w a' N l) (hv : M.nodesB n l = true) (hc1 : N ≤ cap') (hc2 : cap' ≤ maxLen) (N1 : 1 ≤ N) (N2 : N ≤ 100) :
    Calls Tryz.prog 120 #[.slice a n cap, .slice a' N cap'] w fun e w' => e = .returned (.int .i64 (M.aroundW R l)) ∧ ∃ q, w' = w.drewN q := by
  have HM := Lib.hid hc2
  have HS := Lib.hid h
  have HI := Lib.hid h'
  have HV := Lib.hid hv
  have HL := Lib.hid h'.1
  obtain ⟨b', off', x0, rfl, hd0, hx0, c0⟩ := h'.at 0 (by omega)
  obtain ⟨d, od, x1, hdd, hd1, hx1, c1⟩ := h'.at (N - 1) (by omega)
  injection hdd with hdd
  injection hdd with e1 e2
  subst e1 e2
  have hl := h'.1
  have hb1 := M.nodesB_at hv (k := 0) (by omega)
  have hb2 := M.nodesB_at hv (k := N - 1) (by omega)
  have hv1 : x0 = ((M.vx l 0 : Nat) : Int) := by rw [hx0]; unfold M.vx; omega
  have hv2 : x1 = ((M.vx l (N - 1) : Nat) : Int) := by rw [hx1]; unfold M.vx; omega
  have hw1 := M.vx_lt hv (k := 0) (by omega)
  have hw2 := M.vx_lt hv (k := N - 1) (by omega)
  obtain ⟨b, off, rd, rdo, c4, z, rfl, hz, c41, c42⟩ := h.1.rect_ent h.2.1 (M.vx l 0) (M.vx l (N - 1)) hw1 hw2
  obtain ⟨y, hy⟩ : ∃ y, y = M.alongW R l := ⟨_, rfl⟩
  have HY := Lib.hid hy
  obtain ⟨y2, hy2⟩ : ∃ y2, y2 = M.times y z := ⟨_, rfl⟩
  have HY2 : Hid (y2 = M.aroundW R l) := by show _ = _; rw [hy2, hy, hz, ← hl]; rfl
  have HB1 : Hid (M.Big y) := by
    show M.Big _
    rw [hy]; unfold M.alongW
    exact M.big_sm (h.along hv (t := l.length - 1) (by omega)) (by omega)
  have HB2 : Hid (M.Big z) := by
    show M.Big _
    rw [hz]
    exact M.big_sm (h.arc hv (by omega) (by omega)) (by omega)
  have HC1 : ∀ w : World, Calls Tryz.prog 179 #[.int .i64 y, .int .i64 z] w fun e w' => e = .returned (.int .i64 y2) ∧ w = w' := by
    intro w
    rw [hy2]
    exact timesB _ _ _ HB1.out HB2.out
  have HC2 : ∀ q, Calls Tryz.prog 178 #[.slice (some ⟨b, off, none⟩) n cap, .slice (some ⟨b', off', none⟩) N cap'] (w.drewN q) fun e w' => e = .returned (.int .i64 y) ∧ ∃ p, w' = (w.drewN q).drewN p := by
    intro q
    rw [HY.out]
    exact weightAlong _ _ _ _ _ _ _ _ _ (HS.out.below (b_draws _ _)) (HI.out.below (b_draws _ _)) HV.out hc1 HM.out N1 N2
  obtain ⟨n1, n2⟩ := h.2.2.2
  generalize M.vx l 0 = u1 at hv1 hw1 c41
  generalize M.vx l (N - 1) = u2 at hv2 hw2 c42
  subst hv1 hv2
  unfold maxLen at hc2
  have hn0 : ((N : Int) - 1).toNat = N - 1 := by omega
  have hn1 : 0 ≤ (N : Int) - 1 := by omega
  have hn2 : (N : Int) - 1 < N := by omega
  have hn3 : IntKind.i64.wrap ((N : Int) - 1) = (N : Int) - 1 := IntWalk.i64_in _ (by omega)
  clear h h' hv hl hb1 hb2 hx0 hx1 hz hd0 hd1 hy hy2
  rw [Nat.add_zero] at c0
  go_enter Tryz.func120, Tryz.ntmps120
  go_wp2
  go_quiet (fail)
  go_wp2
  go_quiet (first | (go_at_call 178; exact q_more (HC2 _)) | (go_at_call 179; exact q_more_s (HC1 _)))
  go_wp2
  go_ret
  exact ⟨retI HY2.out, _, World.drewN_drewN _ _ _⟩

set_option maxRecDepth 100000 in
set_option maxHeartbeats 1000000 in
theorem sWalk (a : Option Addr) (n cap : Nat) (R : List (List Int)) (a' : Option Addr) (N cap' : Nat) (l : List Int) (w : World) (h : Sq w a n R) (h' : Ints .i64 w a' N l) (hv : M.nodesB n l = true) (N1 : 1 ≤ N) (N2 : N ≤ 100) :
    Calls Tryz.prog 199 #[.slice a n cap, .slice a' N cap'] w fun e w' => e = .returned (.tuple #[.int .i64 (M.walkR R l).1, .bool (M.walkR R l).2]) ∧ ∃ q, w' = w.drewN q := by
  have HS := Lib.hid h
  have HI := Lib.hid h'
  have HV := Lib.hid hv
  have HL := Lib.hid h'.1
  obtain ⟨b', off', x0, rfl, -, -, -⟩ := h'.at 0 (by omega)
  obtain ⟨b, off, ra, rc, rfl, -, -⟩ := h.1.rect_first h.2.1 h.2.2.2.1
  obtain ⟨n1, n2⟩ := h.2.2.2
  clear h h' hv
  have HA0 : Hid ((0 : Int) = M.wkc (M.ent R) (M.vx l) 0) := rfl
  go_enter Tryz.func199, Tryz.ntmps199
  go_wp2
  go_loopw [6, 7, 8] (fun sm i _ wr => ∃ (k : Nat) (y : Int), 1 ≤ k ∧ k ≤ N ∧ i = .int .i64 k ∧ sm = .int .i64 y ∧ y ≠ -1000000000000000 ∧ Hid (y = M.wkc (M.ent R) (M.vx l) (k - 1)) ∧ ∃ q, wr = w.drewN q) (fun _ i _ _ => N - (intOf i).toNat)
  case atStart => exact ⟨1, _, Nat.le_refl _, N1, rfl, rfl, by omega, HA0, 0, rfl⟩
  case round =>
    obtain ⟨k, y, hk1, hk', rfl, rfl, hy0, HY, q2, rfl⟩ := hrel
    by_cases hlt : k < N
    · have hki : (k : Int) < (N : Int) := by omega
      obtain ⟨d, od, x1, hdd, hd, hx1, c1⟩ := HI.out.at (k - 1) (by omega)
      injection hdd with hdd
      injection hdd with e1 e2
      subst e1 e2
      obtain ⟨d, od, x2, hdd, hd, hx2, c2⟩ := HI.out.at k hlt
      injection hdd with hdd
      injection hdd with e1 e2
      subst e1 e2
      have hl := HL.out
      have hb1 := M.nodesB_at HV.out (k := k - 1) (by omega)
      have hb2 := M.nodesB_at HV.out (k := k) (by omega)
      have hv1 : x1 = ((M.vx l (k - 1) : Nat) : Int) := by rw [hx1]; unfold M.vx; omega
      have hv2 : x2 = ((M.vx l k : Nat) : Int) := by rw [hx2]; unfold M.vx; omega
      have hw1 := M.vx_lt HV.out (k := k - 1) (by omega)
      have hw2 := M.vx_lt HV.out (k := k) (by omega)
      obtain ⟨d, od, rd, rdo, c4, z, hdd, hz, c41, c42⟩ := HS.out.1.rect_ent HS.out.2.1 (M.vx l k) (M.vx l (k - 1)) hw2 hw1
      injection hdd with hdd
      injection hdd with e1 e2
      subst e1 e2
      have HK : Hid (M.wkc (M.ent R) (M.vx l) k = M.times y z) := by
        show _ = _
        have e : k = k - 1 + 1 := by omega
        rw [HY.out, hz]
        conv => lhs; rw [e]
        show M.times _ (M.ent R (M.vx l (k - 1 + 1)) (M.vx l (k - 1))) = _
        rw [← e]
      have hsy := HS.out.along HV.out (t := k - 1) (by omega)
      rw [← HY.out] at hsy
      have hsz := HS.out.arc HV.out (l := l) (i := k) (j := k - 1) (by omega) (by omega)
      rw [← hz] at hsz
      generalize M.vx l (k - 1) = u1 at hv1 hw1 c42
      generalize M.vx l k = u2 at hv2 hw2 c41
      subst hv1 hv2
      have hn0 : ((k : Int) - 1).toNat = k - 1 := by omega
      have hn1 : 0 ≤ (k : Int) - 1 := by omega
      have hn2 : (k : Int) - 1 < N := by omega
      have hn3 : IntKind.i64.wrap ((k : Int) - 1) = (k : Int) - 1 := IntWalk.i64_in _ (by omega)
      clear hx1 hx2 hz hd hb1 hb2 hl
      by_cases hz0 : z = -1000000000000000
      · subst hz0
        have HF : Hid (M.walkR R l = (0, false)) := by
          show _ = _
          have e : M.wkc (M.ent R) (M.vx l) k = -1000000000000000 := by rw [HK.out]; exact M.times_bot y
          unfold M.walkR M.alongW
          rw [if_pos (M.wkc_bot e (by have := HL.out; omega))]
        clear hsy hsz
        go_wp2
        go_quiet (fail)
        go_wp2
        go_ret2
        rw [HF.out]
        exact ⟨rfl, _, rfl⟩
      · have hz1 : (z == -1000000000000000) = false := by simpa using hz0
        have ey : -100000100000000 ≤ y ∧ y ≤ 100000100000000 := by unfold M.Sm at hsy; omega
        have ez : -1000001000000 ≤ z ∧ z ≤ 1000001000000 := by unfold M.Sm at hsz; omega
        obtain ⟨ey1, ey2⟩ := ey
        obtain ⟨ez1, ez2⟩ := ez
        have HK2 : Hid (y + z = M.wkc (M.ent R) (M.vx l) (k + 1 - 1)) := by
          show _ = _
          rw [Nat.add_sub_cancel, HK.out]; unfold M.times; rw [if_neg (by omega)]
        clear hsy hsz
        go_wp2
        go_quiet (fail)
        clear c1 c2 c41 c42 hn0 hn1 hn2 hn3
        go_wp2
        go_roundw
        case rel => exact ⟨k + 1, y + z, by omega, by omega, by go_num, rfl, by omega, HK2, _, rfl⟩
        case measure => simp [intOf]; omega
    · obtain rfl : N = k := by omega
      have HF : Hid (M.walkR R l = (y, true)) := by
        show _ = _
        unfold M.walkR M.alongW
        rw [HL.out, ← HY.out, if_neg hy0]
      clear hy0
      go_wp2
      go_ret2
      rw [HF.out]
      exact ⟨rfl, _, rfl⟩
end Go.Proofs.YtihpbgjiohnekabGreat.V

namespace Go.Proofs.YtihpbgjiohnekabGreat.V
open Go.RowKit

set_option maxRecDepth 100000 in
set_option maxHeartbeats 4000000 in
theorem transposed (a : Option Addr) (n cap L : Nat) (R : List (List Int)) (w : World) (h : Mat w a n R) (hr : Rect R n L) (n1 : 1 ≤ n) (n2 : n ≤ 10) (l1 : 1 ≤ L) (l2 : L ≤ 10) :
    Calls Tryz.prog 180 #[.slice a n cap] w (MPost L (M.mk L n (fun i j => M.ent R j i)) w) := by
  have HA := Lib.hid h
  have HR := Lib.hid hr
  obtain ⟨b, off, ra, rc, rfl, hbw, hc⟩ := h.rect_first hr (by omega)
  have hmk := run_make_row' (P := Tryz.prog) 24 29 (.slice none 0 0) 24 Tryz.underlying24 infoS64 rfl .i64 .i64 L (by omega) (by omega)
  have hmk2 := run_make_row' (P := Tryz.prog) 29 2 (.int .i64 0) 8 Tryz.underlying29 info64 rfl .i64 .i64 n (by omega) (by omega)
  have hO0 : Hid (OwnM (w.alloc (.cells (madeCells #[.slice none 0 0] L) 29)) w.heap.size (.slice (some ⟨w.heap.size, 0, none⟩) L L) (M.part L n (fun i j => M.ent R j i) 0)) := by
    rw [M.part_zero]; exact ownM_made w _ L (Nat.le_refl _) (by unfold maxLen; omega)
  have HB0 : Hid (Below w.heap.size w (w.alloc (.cells (madeCells #[.slice none 0 0] L) 29))) := b_alloc w _
  clear h hr
  go_enter Tryz.func180, Tryz.ntmps180
  go_wp2
  clear hc
  go_loopw [14] (fun i wr => ∃ k : Nat, k ≤ L ∧ i = .int .i64 k ∧ OwnM wr w.heap.size (.slice (some ⟨w.heap.size, 0, none⟩) L L) (M.part L n (fun i j => M.ent R j i) k) ∧ Below w.heap.size w wr) (fun i _ => L - (intOf i).toNat)
  case atStart => exact ⟨0, Nat.zero_le _, rfl, hO0.out, HB0.out⟩
  case round =>
    obtain ⟨k, hk, rfl, hO, hb⟩ := hrel
    obtain ⟨wo, rfl⟩ : ∃ x, x = wr := ⟨_, rfl⟩
    have HO := Lib.hid hO
    have HB := Lib.hid hb
    clear hO hb hO0 HB0
    by_cases hlt : k < L
    · have hki : (k : Int) < (L : Int) := by omega
      have hg := HO.out.lt rfl
      have hsz := HB.out.size
      obtain ⟨v0, hv0⟩ := HO.out.outer k hlt
      have hfz0 := HO.out.outerFz k
      have hO2 := HO.out.setRow (b_alloc wo (.cells (madeCells #[.int .i64 0] n) 2)) hsz (own_made wo wo.heap.size n (Nat.le_refl _) (by unfold maxLen; omega)) k hlt
      rw [M.part_set] at hO2
      rw [World.setCell_alloc_past _ _ _ _ hg] at hO2
      have HO2 := Lib.hid hO2
      have hB2 := (((HB.out.alloc hsz (.cells (madeCells #[.int .i64 0] n) 2))).setCell (p := ⟨w.heap.size, k, none⟩) (Nat.le_refl _) (.slice (some ⟨wo.heap.size, 0, none⟩) n n))
      rw [World.setCell_alloc_past _ _ _ _ hg] at hB2
      have HB2 := Lib.hid hB2
      clear hO2 hB2
      go_wp2
      clear hv0 hfz0 hg
      go_loopw [25] (fun j wr => ∃ t : Nat, t ≤ n ∧ j = .int .i64 t ∧ OwnM wr w.heap.size (.slice (some ⟨w.heap.size, 0, none⟩) L L) (M.part2 L n (fun i j => M.ent R j i) k t) ∧ Below w.heap.size w wr) (fun j _ => n - (intOf j).toNat)
      case atStart => exact ⟨0, Nat.zero_le _, rfl, HO2.out, HB2.out⟩
      case round =>
        obtain ⟨t, ht, rfl, hO, hb⟩ := hrel
        have HOi := Lib.hid hO
        have HBi := Lib.hid hb
        clear hO hb HO2 HB2
        by_cases htl : t < n
        · have hti : (t : Int) < (n : Int) := by omega
          obtain ⟨g, q, L3, c3, x3, hgg, hg3, hq3, hL3, hx3, c31, c32, f31, ho3⟩ := HOi.out.at k t hlt (by rw [M.part2_rowlen _ _ _ _ _ hlt]; exact htl)
          injection hgg with hgg
          injection hgg with hgg
          subst hgg
          rw [M.part2_rowlen _ _ _ _ _ hlt] at hL3
          subst hL3
          obtain ⟨d, od, rd, ro, c4, x4, hdd, hx4, c41, c42⟩ := (HA.out.below HBi.out).rect_ent HR.out t k htl hlt
          injection hdd with hdd
          injection hdd with e1 e2
          subst e1 e2
          have HN : Hid (OwnM (wr.setCell ⟨q, t, none⟩ (.int .i64 x4)) w.heap.size (.slice (some ⟨w.heap.size, 0, none⟩) L L) (M.part2 L L3 (fun i j => M.ent R j i) k (t + 1))) :=
            (congrArg (OwnM _ _ _) (by rw [hx4]; exact M.part2_set _ _ (fun i j => M.ent R j i) _ _ hlt)).mp (ho3 x4)
          clear ho3 hx3 hx4
          go_wp2
          go_still_tail 10, (by kernel_rfl)
          change wpList _ _ _ _ _ wr.drew
          go_wp2
          go_roundw
          case rel => exact ⟨t + 1, by omega, by go_num, HN.out.keep (fun _ _ _ => rfl), HBi.out.drew.setCell hq3 _⟩
          case measure => simp [intOf]; omega
        · obtain rfl : t = n := by omega
          have hO2 := HOi.out
          rw [M.part2_end] at hO2
          have HO2 := Lib.hid hO2
          clear hO2
          go_wp2
          go_roundw
          case rel => exact ⟨k + 1, by omega, by go_num, HO2.out, HBi.out⟩
          case measure => simp [intOf]; omega
    · obtain rfl : k = L := by omega
      go_wp2
      go_ret
      exact ⟨_, _, rfl, by rw [← M.part_end]; exact HO.out, HB.out⟩

set_option maxRecDepth 100000 in
set_option maxHeartbeats 4000000 in
theorem sTurn (a : Option Addr) (n cap L : Nat) (R : List (List Int)) (w : World) (h : Mat w a n R) (hr : Rect R n L) (n1 : 1 ≤ n) (n2 : n ≤ 10) (l1 : 1 ≤ L) (l2 : L ≤ 10) :
    Calls Tryz.prog 123 #[.slice a n cap] w (MPost L (M.mk L n (fun i j => M.ent R j i)) w) := by
  have HA := Lib.hid h
  have HR := Lib.hid hr
  obtain ⟨b, off, ra, rc, rfl, hbw, hc⟩ := h.rect_first hr (by omega)
  clear h hr
  go_enter Tryz.func123, Tryz.ntmps123
  go_wp2_with fail
  refine (sBottom L n _ (by omega) (by omega)).mono ?_
  rintro e w1 ⟨a2, cap2, rfl, ho, hb⟩
  have HO0 : Hid (OwnM w1 w.heap.size (.slice a2 L cap2) (M.mk L n (fun i j => if j < 0 then M.ent R j i else -1000000000000000))) :=
    (congrArg (OwnM _ _ _) (M.mk_congr fun i _ j _ => by rw [if_neg (Nat.not_lt_zero j)])).mp ho
  have HB0 := Lib.hid hb
  clear ho hb hc
  go_wp2
  go_loopw [4] (fun i wr => ∃ k : Nat, k ≤ n ∧ i = .int .i64 k ∧ OwnM wr w.heap.size (.slice a2 L cap2) (M.mk L n (fun i j => if j < k then M.ent R j i else -1000000000000000)) ∧ Below w.heap.size w wr) (fun i _ => n - (intOf i).toNat)
  case atStart => exact ⟨0, Nat.zero_le _, rfl, HO0.out, HB0.out⟩
  case round =>
    obtain ⟨k, hk, rfl, hO, hb⟩ := hrel
    obtain ⟨wo, rfl⟩ : ∃ x, x = wr := ⟨_, rfl⟩
    have HO := Lib.hid hO
    have HB := Lib.hid hb
    clear hO hb HO0 HB0
    by_cases hlt : k < n
    · have hki : (k : Int) < (n : Int) := by omega
      have HO2 : Hid (OwnM wo w.heap.size (.slice a2 L cap2) (M.mk L n (fun i j => if j < k ∨ (j = k ∧ i < 0) then M.ent R j i else -1000000000000000))) :=
        (congrArg (OwnM _ _ _) (M.mk_congr fun i _ j _ => by
          by_cases e : j < k
          · rw [if_pos e, if_pos (.inl e)]
          · rw [if_neg e, if_neg (by omega)])).mp HO.out
      go_wp2
      go_loopw [5] (fun j wr => ∃ t : Nat, t ≤ L ∧ j = .int .i64 t ∧ OwnM wr w.heap.size (.slice a2 L cap2) (M.mk L n (fun i j => if j < k ∨ (j = k ∧ i < t) then M.ent R j i else -1000000000000000)) ∧ Below w.heap.size w wr) (fun j _ => L - (intOf j).toNat)
      case atStart => exact ⟨0, Nat.zero_le _, rfl, HO2.out, HB.out⟩
      case round =>
        obtain ⟨t, ht, rfl, hO, hb⟩ := hrel
        have HOi := Lib.hid hO
        have HBi := Lib.hid hb
        clear hO hb HO2 HB HO
        by_cases htl : t < L
        · have hti : (t : Int) < (L : Int) := by omega
          obtain ⟨g, q, L3, c3, x3, rfl, hg3, hq3, hL3, hx3, c31, c32, f31, ho3⟩ := HOi.out.at t k htl (by rw [M.mk_rowlen _ _ _ _ htl]; exact hlt)
          rw [M.mk_rowlen _ _ _ _ htl] at hL3
          subst hL3
          obtain ⟨d, od, rd, ro, c4, x4, hdd, hx4, c41, c42⟩ := (HA.out.below HBi.out).rect_ent HR.out k t hlt htl
          injection hdd with hdd
          injection hdd with e1 e2
          subst e1 e2
          have HN : Hid (OwnM (wr.setCell ⟨q, k, none⟩ (.int .i64 x4)) w.heap.size (.slice (some ⟨g, 0, none⟩) L cap2) (M.mk L L3 (fun i j => if j < k ∨ (j = k ∧ i < t + 1) then M.ent R j i else -1000000000000000))) := by
            refine (congrArg (OwnM _ _ _) ?_).mp (ho3 x4)
            rw [M.mk_set _ _ _ _ _ _ htl]
            refine M.mk_congr fun i _ j _ => ?_
            by_cases e : i = t
            · subst e
              rw [if_pos rfl]
              by_cases e2 : j = k
              · subst e2; rw [if_pos rfl, if_pos (.inr ⟨rfl, by omega⟩), hx4]
              · rw [if_neg e2]
                by_cases e3 : j < k
                · rw [if_pos (.inl e3), if_pos (.inl e3)]
                · rw [if_neg (by omega), if_neg (by omega)]
            · rw [if_neg e]
              by_cases e3 : j < k ∨ (j = k ∧ i < t)
              · rw [if_pos e3, if_pos (by omega)]
              · rw [if_neg e3, if_neg (by omega)]
          clear ho3 hx3 hx4
          go_wp2
          go_still_tail 13, (by kernel_rfl)
          change wpList _ _ _ _ _ wr.drew
          go_wp2
          first
            | exact ⟨⟨t + 1, by omega, by go_num, HN.out.keep (fun _ _ _ => rfl), HBi.out.drew.setCell hq3 _⟩, by simp [intOf]; omega⟩
            | (go_roundw
               case rel => exact ⟨t + 1, by omega, by go_num, HN.out.keep (fun _ _ _ => rfl), HBi.out.drew.setCell hq3 _⟩
               case measure => simp [intOf]; omega)
        · obtain rfl : t = L := by omega
          have HO2 : Hid (OwnM wr w.heap.size (.slice a2 t cap2) (M.mk t n (fun i j => if j < k + 1 then M.ent R j i else -1000000000000000))) :=
            (congrArg (OwnM _ _ _) (M.mk_congr fun i hi j _ => by
              by_cases e : j < k + 1
              · rw [if_pos e, if_pos (by omega)]
              · rw [if_neg e, if_neg (by omega)])).mp HOi.out
          obtain ⟨d, od, rd, rcd, hdd, -, hcd, -⟩ := (HA.out.below HBi.out).rect_at HR.out k hlt
          injection hdd with hdd
          injection hdd with e1 e2
          subst e1 e2
          go_wp2
          go_roundw
          case rel => exact ⟨k + 1, by omega, by go_num, HO2.out, HBi.out⟩
          case measure => simp [intOf]; omega
    · obtain rfl : k = n := by omega
      go_wp2
      go_ret
      exact ⟨_, _, rfl, (congrArg (OwnM _ _ _) (M.mk_congr fun i _ j hj => by rw [if_pos hj])).mp HO.out, HB.out⟩

end Go.Proofs.YtihpbgjiohnekabGreat.V

namespace Go.Proofs.YtihpbgjiohnekabGreat.V
set_option maxRecDepth 100000
open Go.RowKit Go.Maps
theorem keyI : Keyed Tryz.prog 2 := int_keyed Tryz.underlying2
theorem zeroB (w : World) : (zeroValue 4).run Tryz.prog w = .ok (.bool false) w := by kernel_rfl
theorem keyAt (t : Nat) (ht : t < 1000) : keyOf Tryz.prog 2 (.int .i64 (t : Int)) = some (.int .i64 (t : Int)) := keyOf_int_mk Tryz.underlying2 (WalkArith.wf_i64 (by omega))
/-- Block b is a map that holds the set S of the n nodes. -/
def IsSet (w : World) (b n : Nat) (S : Nat → Bool) : Prop :=
  ∃ D : DataW Unit, w.ownsMap Tryz.prog 2 (plainElem Tryz.prog 4) b (M.cnt S n) D ∧ IsMap D ∧ ∀ t : Nat, t < n → D.atKey (.int .i64 (t : Int)) (.lit (.bool false)) = .lit (.bool (S t))
theorem IsSet.lt {w : World} {b n : Nat} {S : Nat → Bool} (h : IsSet w b n S) : b < w.heap.size := by
  obtain ⟨D, h, -⟩ := h
  exact h.lt
theorem IsSet.block {w w' : World} {b n : Nat} {S : Nat → Bool} (h : IsSet w b n S) (e : w'.heap[b]? = w.heap[b]?) : IsSet w' b n S := by
  obtain ⟨D, ⟨es, clock, hb, F, hs, hD⟩, h2, h3⟩ := h
  exact ⟨D, ⟨es, clock, e.trans hb, F, hs, hD⟩, h2, h3⟩
theorem IsSet.below {w w' : World} {B b n : Nat} {S : Nat → Bool} (h : IsSet w b n S) (hb : Below B w w') (hB : b < B) : IsSet w' b n S := h.block (hb.block b hB)
theorem IsSet.congr {w : World} {b n : Nat} {S S' : Nat → Bool} (h : IsSet w b n S) (e : ∀ i, i < n → S i = S' i) : IsSet w b n S' := by
  obtain ⟨D, h1, h2, h3⟩ := h
  exact ⟨D, by rw [← M.cnt_congr e]; exact h1, h2, fun t ht => by rw [h3 t ht, e t ht]⟩
theorem isSet_made (w : World) (n : Nat) : IsSet (w.alloc (.map #[] 0)) w.heap.size n (fun _ => false) :=
  ⟨.map [], by rw [M.cnt_none fun _ _ => rfl]; exact World.ownsMap_made _ _ _ _, ⟨[], rfl⟩, fun _ _ => rfl⟩
theorem plainElem_bool_inv {v : Value} {z : DataW Unit × List MemPlace} (h : plainElem Tryz.prog 4 v = some z) : ∃ x, v = .bool x ∧ z = (.lit (.bool x), []) := by
  unfold plainElem at h
  rw [Tryz.underlying4] at h
  cases v <;> simp at h
  exact ⟨_, rfl, h.symm⟩
theorem IsSet.look {w : World} {b n : Nat} {S : Nat → Bool} (h : IsSet w b n S) (hn : n ≤ 10) (t : Nat) (ht : t < n) : (Instr.lookup 198 (.map (some b)) (.int .i64 (t : Int)) false).run Tryz.prog w = .ok (.bool (S t)) w := by
  obtain ⟨D, h1, h2, h3⟩ := h
  obtain ⟨v, ps, hr, hv⟩ := h1.lookup keyI Tryz.underlying198 (zeroB w) (plainElem_bool Tryz.underlying4 false) (keyAt t (by omega))
  rw [h3 t ht] at hv
  obtain ⟨x, rfl, hz⟩ := plainElem_bool_inv hv
  simp only [Prod.mk.injEq, DataW.lit.injEq, Lit.bool.injEq] at hz
  rw [hr, hz.1]
theorem wpList_put (w : World) {ops : Array Oper} {rest : List Oper} {o : Oper} {a : Act} {Q : Exit → Act → World → Prop}
    (hg : o.guard = none) (m x v : Operand) (hop : o.op = Op.mapUpdate 198 m x v) (b n : Nat) (S : Nat → Bool) (t : Nat)
    (hm : a.eval m = .map (some b)) (hown : IsSet w b n S) (hn : n ≤ 10) (ht : t < n) (hS : S t = false) (hx : a.eval x = .int .i64 (t : Int)) (hv : a.eval v = .bool true)
    (hK : ∀ w', IsSet w' b n (M.upd S t) → w.grownBy w' (some b) → wpList Tryz.prog ops Q rest (a.put o.dst undef) w') :
    wpList Tryz.prog ops Q (o :: rest) a w := by
  obtain ⟨D, h1, h2, h3⟩ := hown
  have hc := M.cnt_max S n
  refine wpList_mapUpdate_own w hg m x v 198 hop 2 4 keyI Tryz.underlying198 _ b (M.cnt S n) D hm h1 (by unfold maxLen; omega) _ _ _ hx hv (keyAt t (by omega)) _ [] (plainElem_bool Tryz.underlying4 true) fun w' h' hg' => hK w' ⟨_, by rw [M.cnt_upd ht hS]; exact h', ?_, fun i hi => ?_⟩ hg'
  · obtain ⟨es, rfl⟩ := h2
    exact ⟨_, rfl⟩
  · by_cases e : i = t
    · subst e
      rw [atKey_put_same h2 (by trivial)]
      unfold M.upd; simp
    · rw [atKey_put_other (by intro k; injection k with _ k; omega), h3 i hi]
      unfold M.upd
      rw [decide_eq_false e, Bool.false_or]
end Go.Proofs.YtihpbgjiohnekabGreat.V

namespace Go.Proofs.YtihpbgjiohnekabGreat.V
set_option maxRecDepth 100000
open Go.RowKit Go.Maps
def visF (pr pa pv : Nat) : Value := .func (.func 238) #[] #[.pointer (some ⟨pr, 0, none⟩), .pointer (some ⟨pa, 0, none⟩), .pointer (some ⟨pv, 0, none⟩)]
structure Vis (w0 w : World) (pr pa pv mb n : Nat) (sa : Value) (S : Nat → Bool) : Prop where
  below : Below w0.heap.size w0 w
  cr : w.cell? ⟨pr, 0, none⟩ = some (.map (some mb))
  ca : w.cell? ⟨pa, 0, none⟩ = some sa
  cv : w.cell? ⟨pv, 0, none⟩ = some (visF pr pa pv)
  set : IsSet w mb n S
  lo : w0.heap.size ≤ mb
  nr : pr ≠ mb
  na : pa ≠ mb
  nv : pv ≠ mb
theorem Vis.grown {w0 w w' : World} {pr pa pv mb n : Nat} {sa : Value} {S S' : Nat → Bool} (h : Vis w0 w pr pa pv mb n sa S) (hg : w.grownBy w' (some mb)) (hs : IsSet w' mb n S') : Vis w0 w' pr pa pv mb n sa S' := by
  have hc : ∀ p v, p ≠ mb → w.cell? ⟨p, 0, none⟩ = some v → w'.cell? ⟨p, 0, none⟩ = some v := fun p v hne hc => by
    rw [World.cell?_of_block (w := w) (a := ⟨p, 0, none⟩) (hg.block p (cell_lt hc) (by intro e; injection e with e; exact hne e))]; exact hc
  exact ⟨h.below.grown hg h.below.size (fun j hj => by cases hj; exact h.lo), hc _ _ h.nr h.cr, hc _ _ h.na h.ca, hc _ _ h.nv h.cv, hs, h.lo, h.nr, h.na, h.nv⟩
set_option maxRecDepth 100000 in
set_option maxHeartbeats 2000000 in
theorem visit (a : Option Addr) (n cap : Nat) (R : List (List Int)) (w0 : World) (pr pa pv mb : Nat) (h : Sq w0 a n R) (f : Nat) :
    ∀ (w : World) (S : Nat → Bool) (v : Nat), Vis w0 w pr pa pv mb n (.slice a n cap) S → v < n → S v = false → M.cnt (fun i => !S i) n ≤ f →
    Calls Tryz.prog 238 #[.int .i64 v, .pointer (some ⟨pr, 0, none⟩), .pointer (some ⟨pa, 0, none⟩), .pointer (some ⟨pv, 0, none⟩)] w fun e w' => e = .returned (.tuple #[]) ∧ ∃ S', Vis w0 w' pr pa pv mb n (.slice a n cap) S' ∧ M.Dfs (M.ent R) n v S S' := by
  induction f with
  | zero =>
    intro w S v hV hv hS hc
    have := M.cnt_lt (p := fun _ => false) (q := fun i => !S i) (k := n) hv rfl (by simp [hS]) (fun i _ hi => by cases hi)
    omega
  | succ f IH =>
    intro w S v hV hv hS hc
    have HIH := Lib.hid IH
    have HV := Lib.hid hV
    have HSq := Lib.hid h
    obtain ⟨n1, n2⟩ := h.2.2.2
    obtain ⟨b, off, ra, rc, rfl, -, -⟩ := h.1.rect_first h.2.1 n1
    have HC := Lib.hid hc
    have HSv := Lib.hid hS
    have c0 := hV.cr
    have c1 := hV.ca
    have hpr := hV.nr
    clear IH hV hc hS h
    go_enter Tryz.func238, Tryz.ntmps238
    go_wp2_with (at_mapUpdate; refine wpList_put _ rfl _ _ _ rfl mb n S v rfl HV.out.set n2 hv HSv.out rfl rfl ?_; intro w1 hs1 hg1; have c2 := (HV.out.grown hg1 hs1).ca)
    have HV1 := Lib.hid (HV.out.grown hg1 hs1)
    clear c2
    go_loopw [5, 6, 11] (fun _ _ i wr => ∃ (k : Nat) (S' : Nat → Bool), k ≤ n ∧ i = .int .i64 k ∧ Hid (Vis w0 wr pr pa pv mb n (.slice (some ⟨b, off, none⟩) n cap) S') ∧ Hid (M.Part (M.ent R) n v S k S')) (fun _ _ i _ => n - (intOf i).toNat)
    case atStart => exact ⟨0, M.upd S v, Nat.zero_le _, rfl, HV1, M.dfs_start hv⟩
    case round =>
      clear HV1 HV c0 c1
      obtain ⟨k, S', hk, rfl, HV, HP⟩ := hrel
      by_cases hlt : k < n
      · have hki : (k : Int) < (n : Int) := by omega
        have c0 := HV.out.cr
        have c1 := HV.out.ca
        have c2 : wr.cell? ⟨pv, 0, none⟩ = some (.func (.func 238) #[] #[.pointer (some ⟨pr, 0, none⟩), .pointer (some ⟨pa, 0, none⟩), .pointer (some ⟨pv, 0, none⟩)]) := HV.out.cv
        obtain ⟨d, od, rd, rdo, c4, z, hdd, hz, c41, c42⟩ := (HSq.out.1.below HV.out.below).rect_ent HSq.out.2.1 k v hlt hv
        injection hdd with hdd
        injection hdd with e1 e2
        subst e1 e2
        have HZ := Lib.hid hz
        clear hz
        have hlk := HV.out.set.look n2 k hlt
        by_cases hzb : z = -1000000000000000
        · have HP2 : Hid (M.Part (M.ent R) n v S (k + 1) S') := M.dfs_skip HP.out (.inl (by rw [← HZ.out]; exact hzb))
          have hz1 : (z != -1000000000000000) = false := by simp [hzb]
          clear hzb hlk
          go_wp2
          go_roundw
          case rel => exact ⟨k + 1, S', by omega, by go_num, HV, HP2⟩
          case measure => simp [intOf]; omega
        · have hz1 : (z != -1000000000000000) = true := by simpa using hzb
          cases e : S' k with
          | true =>
            have HP2 : Hid (M.Part (M.ent R) n v S (k + 1) S') := M.dfs_skip HP.out (.inr e)
            rw [e] at hlk
            clear hzb e
            go_wp2
            go_roundw
            case rel => exact ⟨k + 1, S', by omega, by go_num, HV, HP2⟩
            case measure => simp [intOf]; omega
          | false =>
            rw [e] at hlk
            have HE := Lib.hid e
            have HZb : Hid (M.ent R k v ≠ -1000000000000000) := by show _ ≠ _; rw [← HZ.out]; exact hzb
            have HL : Hid (M.cnt (fun i => !S' i) n ≤ f) := M.cnt_left hv HSv.out (M.dfs_mono HP.out) HC.out
            clear hzb e
            go_wp2_with fail
            refine (HIH.out wr S' k HV.out hlt HE.out HL.out).mono ?_
            rintro e w2 ⟨rfl, S2, hV2, hd2⟩
            have HV2 := Lib.hid hV2
            have HP2 := Lib.hid (M.dfs_call hv hlt HZb.out HP.out hd2)
            clear hV2 hd2
            go_wp2
            go_roundw
            case rel => exact ⟨k + 1, S2, by omega, by go_num, HV2, HP2⟩
            case measure => simp [intOf]; omega
      · obtain rfl : k = n := by omega
        go_wp2
        exact bodyPost_end (v := .tuple #[]) (by simp [results, Tryz.results238, go_sem]) rfl ⟨rfl, S', HV.out, M.dfs_end HP.out⟩
set_option maxRecDepth 100000 in
set_option maxHeartbeats 1000000 in
theorem reachedFrom (a : Option Addr) (n cap : Nat) (R : List (List Int)) (v : Nat) (w : World) (h : Sq w a n R) (hv : v < n) :
    Calls Tryz.prog 228 #[.slice a n cap, .int .i64 v] w fun e w' => ∃ b, e = .returned (.map (some b)) ∧ w.heap.size ≤ b ∧ IsSet w' b n (M.rchB (M.ent R) n v) ∧ Below w.heap.size w w' := by
  have HSq := Lib.hid h
  have hmm := @run_makeMap Tryz.prog
  have hst : ∀ (w : World) (a : Addr) (f : Fn) (c : Array Value), (store a (.func f #[] c)).run Tryz.prog w = stored Tryz.prog w a (.func f #[] c) .plain := fun w a f c => run_store _ w a _ _ rfl
  obtain ⟨n1, n2⟩ := h.2.2.2
  clear h
  go_enter Tryz.func228, Tryz.ntmps228
  go_wp2_with fail
  obtain ⟨w1, hw1⟩ : ∃ x, x = (((w.alloc (.cells #[.slice a n cap] 24)).alloc (.map #[] 0)).alloc (.cells #[.map (some (w.heap.size + 1))] 198)).alloc (.cells #[visF (w.heap.size + 1 + 1) w.heap.size (w.heap.size + 1 + 1 + 1)] 208) := ⟨_, rfl⟩
  have HV : Hid (Vis w w1 (w.heap.size + 1 + 1) w.heap.size (w.heap.size + 1 + 1 + 1) (w.heap.size + 1) n (.slice a n cap) (fun _ => false)) := by
    show Vis _ _ _ _ _ _ _ _ _
    have e : (w.alloc (.cells #[.slice a n cap] 24)).heap.size = w.heap.size + 1 := by simp
    have hs := isSet_made (w.alloc (.cells #[.slice a n cap] 24)) n
    rw [e] at hs
    have hb1 : Below w.heap.size w (w.alloc (.cells #[.slice a n cap] 24)) := b_alloc _ _
    have hb : Below w.heap.size w w1 := by
      rw [hw1]
      refine ((hb1.alloc ?_ _).alloc ?_ _).alloc ?_ _ <;> simp <;> omega
    refine ⟨hb, ?_, ?_, ?_, ?_, by omega, by omega, by omega, by omega⟩
    · rw [hw1]; simp [World.cell?_alloc_past, go_sem]
    · rw [hw1]; simp [World.cell?_alloc_past, go_sem]
    · rw [hw1]; simp [World.cell?_alloc_past, go_sem]
    · rw [hw1]
      refine ((hs.below (b_alloc _ _) ?_).below (b_alloc _ _) ?_) <;> simp
  change Calls _ _ _ ((((w.alloc (.cells #[.slice a n cap] 24)).alloc (.map #[] 0)).alloc (.cells #[.map (some (w.heap.size + 1))] 198)).alloc (.cells #[visF (w.heap.size + 1 + 1) w.heap.size (w.heap.size + 1 + 1 + 1)] 208)) _
  rw [← hw1]
  clear hw1 hst hmm
  refine (visit a n cap R w _ _ _ _ HSq.out n w1 _ v HV.out hv rfl (M.cnt_max _ _)).mono ?_
  rintro e w2 ⟨rfl, S', hV2, hd⟩
  have c0 := hV2.cr
  have HV2 := Lib.hid hV2
  have HD := Lib.hid (M.dfs_all hv hd)
  clear hV2 hd
  go_wp2
  go_ret
  exact ⟨_, rfl, by omega, HV2.out.set.congr fun i _ => HD.out i, HV2.out.below⟩
set_option maxRecDepth 100000 in
set_option maxHeartbeats 400000 in
theorem reaching (a : Option Addr) (n cap : Nat) (R : List (List Int)) (v : Nat) (w : World) (h : Sq w a n R) (hv : v < n) :
    Calls Tryz.prog 229 #[.slice a n cap, .int .i64 v] w fun e w' => ∃ b, e = .returned (.map (some b)) ∧ w.heap.size ≤ b ∧ IsSet w' b n (fun i => M.rchB (M.ent R) n i v) ∧ Below w.heap.size w w' := by
  have HSq := Lib.hid h
  obtain ⟨n1, n2⟩ := h.2.2.2
  clear h
  go_enter Tryz.func229, Tryz.ntmps229
  go_wp2_with fail
  refine (transposed _ _ _ n R _ HSq.out.1 HSq.out.2.1 n1 n2 n1 n2).mono ?_
  rintro e w1 ⟨b1, c1, rfl, ho, hb⟩
  have HQ1 : Hid (Sq w1 b1 n (M.mk n n fun i j => M.ent R j i)) := ⟨ho.mat, rect_mk _ _ _, fun i j hi hj => by rw [M.ent_mk _ _ _ _ _ hi hj]; exact HSq.out.2.2.1 j i hj hi, n1, n2⟩
  have HB1 := Lib.hid hb
  clear ho hb
  go_wp2_with fail
  refine (reachedFrom _ _ _ _ v _ HQ1.out hv).mono ?_
  rintro e w2 ⟨b2, rfl, hlo, hs, hb⟩
  have HS2 := Lib.hid (hs.congr (S' := fun i => M.rchB (M.ent R) n i v) fun i hi => M.rchB_turn (A := M.ent R) (B := M.ent (M.mk n n fun i j => M.ent R j i)) (fun i j hi hj => M.ent_mk _ _ _ _ _ hi hj) v i)
  have HB2 := Lib.hid (HB1.out.trans (hb.mono HB1.out.size))
  have hlo2 : w.heap.size ≤ b2 := Nat.le_trans HB1.out.size hlo
  clear hs hb
  go_wp2
  go_ret
  exact ⟨_, rfl, hlo2, HS2.out, HB2.out⟩
end Go.Proofs.YtihpbgjiohnekabGreat.V

namespace Go.Proofs.YtihpbgjiohnekabGreat.V
open Go.RowKit

set_option maxRecDepth 100000 in
set_option maxHeartbeats 400000 in
theorem eqInts (a : Option Addr) (n cap : Nat) (l : List Int) (a' : Option Addr) (n' cap' : Nat) (l' : List Int) (w : World) (h : Ints .i64 w a n l) (h' : Ints .i64 w a' n' l') (heq : l = l') :
    Calls Tryz.prog 108 #[.slice a n cap, .slice a' n' cap'] w fun e w' => e = .returned (.bool true) ∧ ∃ q, w' = w.drewN q := by
  subst heq
  obtain ⟨hl, hm, hr⟩ := h
  obtain ⟨hl', hm', hr'⟩ := h'
  obtain rfl : n = n' := by omega
  unfold maxLen at hm
  clear hm'
  have HL := Lib.hid hl
  clear hl hl'
  go_enter Tryz.func108, Tryz.ntmps108
  go_wp2
  go_loopw [5] (fun i wr => ∃ k : Nat, k ≤ n ∧ i = .int .i64 k ∧ ∃ q, wr = w.drewN q) (fun i _ => n - (intOf i).toNat)
  case atStart => exact ⟨0, Nat.zero_le _, rfl, 0, rfl⟩
  case round =>
    obtain ⟨k, hk, rfl, q, rfl⟩ := hrel
    by_cases hlt : k < n
    · rcases hr with h0 | ⟨b, off, rfl, hbl, hc⟩
      · omega
      rcases hr' with h0 | ⟨b', off', rfl, hbl', hc'⟩
      · omega
      have hck := hc k hlt
      have hck' := hc' k hlt
      obtain ⟨x, hx⟩ : ∃ x, x = l.getD k 0 := ⟨_, rfl⟩
      rw [← hx] at hck hck'
      clear hc hx hc'
      have hki : (k : Int) < (n : Int) := by omega
      go_wp2
      go_quiet (fail)
      go_wp2
      go_roundw
      case rel => exact ⟨k + 1, by omega, by go_num, _, rfl⟩
      case measure => simp [intOf]; omega
    · have hkn : k = n := by omega
      subst hkn
      clear hr hr'
      go_wp2
      go_ret
      exact ⟨rfl, q, rfl⟩

set_option maxRecDepth 100000 in
set_option maxHeartbeats 400000 in
theorem copyInts (a : Option Addr) (n cap : Nat) (l : List Int) (w : World) (h : Ints .i64 w a n l) (hs : n ≤ 1048576) :
    Calls Tryz.prog 103 #[.slice a n cap] w fun e w' => e = .returned (.slice (some ⟨w.heap.size, 0, none⟩) n n) ∧ Own w' w.heap.size (.slice (some ⟨w.heap.size, 0, none⟩) n n) l ∧ Below w.heap.size w w' := by
  obtain ⟨hl, hm, hr⟩ := h
  have hm2 := hm
  unfold maxLen at hm
  have HL := Lib.hid hl
  clear hl
  have hmk := run_make_row' (P := Tryz.prog) 29 2 (.int .i64 0) 8 Tryz.underlying29 info64 rfl .i64 .i64 n (by omega) (by omega)
  go_enter Tryz.func103, Tryz.ntmps103
  go_wp2
  clear hmk
  go_loopw [4] (fun i wr => ∃ k : Nat, k ≤ n ∧ i = .int .i64 k ∧ Own wr w.heap.size (.slice (some ⟨w.heap.size, 0, none⟩) n n) ((List.range n).map fun j => if j < k then l.getD j 0 else 0) ∧ Below w.heap.size w wr) (fun i _ => n - (intOf i).toNat)
  case atStart => exact ⟨0, Nat.zero_le _, rfl, by simpa using own_made w _ n (Nat.le_refl _) hm2, b_alloc _ _⟩
  case round =>
    obtain ⟨k, hk, rfl, hrow, hb⟩ := hrel
    by_cases hlt : k < n
    · rcases hr with h0 | ⟨b, off, rfl, hbl, hc⟩
      · omega
      have hck := hc k hlt
      obtain ⟨x, hx⟩ : ∃ x, x = l.getD k 0 := ⟨_, rfl⟩
      rw [← hx] at hck
      have hck' : wr.cell? ⟨b, off + k, none⟩ = some (.int .i64 x) := by rw [hb.cell (p := ⟨b, off + k, none⟩) hbl]; exact hck
      have hst : ∃ v, wr.cell? ⟨w.heap.size, k, none⟩ = some v := ⟨_, hrow.cellAt k hlt⟩
      obtain ⟨v, hst⟩ := hst
      have hfz := hrow.frozenAt k
      have HR := Lib.hid hrow
      have HB := Lib.hid hb
      have HX := Lib.hid hx
      clear hc hx hck hrow hb
      go_wp2
      go_roundw
      case rel =>
        refine ⟨k + 1, by omega, by go_num, ?_, HB.out.setCell (Nat.le_refl _) _⟩
        have := Own.set HR.out k x
        rw [M.map_set] at this
        refine (congrArg (Own _ _ _) (List.map_congr_left fun j hj => ?_)).mp this
        by_cases e : j = k
        · subst e; rw [if_pos rfl, if_pos (by omega), HX.out]
        · rw [if_neg e]
          by_cases e2 : j < k
          · rw [if_pos e2, if_pos (by omega)]
          · rw [if_neg e2, if_neg (by omega)]
      case measure => simp [intOf]; omega
    · have hkn : k = n := by omega
      subst hkn
      have HR := Lib.hid hrow
      have HB := Lib.hid hb
      clear hr hrow hb
      go_wp2
      go_ret
      refine ⟨rfl, ?_, HB.out⟩
      refine (congrArg (Own _ _ _) ?_).mp HR.out
      have hl := HL.out
      apply List.ext_getElem
      · simp [hl]
      · intro i h1 h2
        simp [show i < k by omega, h2]

/-- What is left of a size. -/
def SzPost (n : Nat) (left : Int) (w : World) (e : Ending) (w' : World) : Prop := ∃ x : Int, e = .returned (.int .i64 x) ∧ (x < 0 ∨ (0 ≤ x ∧ x + n = left)) ∧ w = w'

set_option maxRecDepth 100000 in
set_option maxHeartbeats 400000 in
theorem szInts (a : Option Addr) (n cap : Nat) (left : Int) (w : World) (hm : n ≤ maxLen) (h1 : 0 ≤ left) (h2 : left ≤ 1048576) :
    Calls Tryz.prog 100 #[.slice a n cap, .int .i64 left] w (SzPost n left w) := by
  unfold maxLen at hm
  by_cases hlt : left < n
  · go_enter Tryz.func100, Tryz.ntmps100
    go_wp2
    go_ret
    exact ⟨_, rfl, .inl (by omega), rfl⟩
  · go_enter Tryz.func100, Tryz.ntmps100
    go_wp2
    go_ret
    exact ⟨_, rfl, .inr ⟨by omega, by omega⟩, rfl⟩

/-- What is left of a size: nothing, or all the sizes fit. -/
def SzMPost (n : Nat) (R : List (List Int)) (left : Int) (w : World) (e : Ending) (w' : World) : Prop := ∃ x : Int, e = .returned (.int .i64 x) ∧ (x < 0 ∨ (0 ≤ x ∧ x ≤ left ∧ (n : Int) ≤ left ∧ (M.pre R R.length : Int) ≤ left)) ∧ w = w'

set_option maxRecDepth 100000 in
set_option maxHeartbeats 400000 in
theorem szIntss (a : Option Addr) (n cap : Nat) (R : List (List Int)) (left : Int) (w : World) (h : Mat w a n R) (h1 : 0 ≤ left) (h2 : left ≤ 1048576) :
    Calls Tryz.prog 33 #[.slice a n cap, .int .i64 left] w (SzMPost n R left w) := by
  have HM := Lib.hid h
  obtain ⟨hl, hm, -⟩ := h
  unfold maxLen at hm
  have HL := Lib.hid hl
  clear hl
  by_cases hlt : left < n
  · go_enter Tryz.func33, Tryz.ntmps33
    go_wp2
    go_ret
    exact ⟨_, rfl, .inl (by omega), rfl⟩
  · go_enter Tryz.func33, Tryz.ntmps33
    go_wp2
    go_loop [1, 5] (fun x i => ∃ (k : Nat) (y : Int), k ≤ n ∧ i = .int .i64 k ∧ x = .int .i64 y ∧ 0 ≤ y ∧ (M.pre R k : Int) + n + y ≤ left) (fun _ i => n - (intOf i).toNat)
    case atStart => exact ⟨0, left - n, Nat.zero_le _, rfl, rfl, by omega, by rw [M.pre_zero]; omega⟩
    case round =>
      obtain ⟨k, y, hk, rfl, rfl, hy, hp⟩ := hrel
      by_cases hkn : k < n
      · obtain ⟨b, off, ra, rc, L, l, rfl, hbl, hll, hc, hI⟩ := HM.out.at k hkn
        have hps := M.pre_succ R k (by have := HL.out; omega)
        have hLl : L = l.length := hI.1.symm
        rw [← hll, ← hLl] at hps
        have HP := Lib.hid hps
        have hLm := hI.2.1
        clear hI hll hps hLl
        go_wp2_with fail
        refine (szInts _ _ _ _ _ hLm hy (by omega)).mono ?_
        rintro e w' ⟨z, rfl, hz, rfl⟩
        rcases hz with hz | ⟨hz1, hz2⟩
        · go_wp2
          go_ret
          exact ⟨_, rfl, .inl (by omega), rfl⟩
        · go_wp2
          go_round
          case rel => exact ⟨k + 1, z, by omega, by go_num, rfl, hz1, by rw [HP.out]; omega⟩
          case measure => simp [intOf]; omega
      · obtain rfl : k = n := by omega
        go_wp2
        go_ret
        exact ⟨_, rfl, .inr ⟨hy, by omega, by omega, by rw [HL.out]; omega⟩, rfl⟩

end Go.Proofs.YtihpbgjiohnekabGreat.V

namespace Go.Proofs.YtihpbgjiohnekabGreat.V
open Go.RowKit

set_option maxRecDepth 100000 in
set_option maxHeartbeats 400000 in
theorem eqIntss (a : Option Addr) (n cap : Nat) (R : List (List Int)) (a' : Option Addr) (n' cap' : Nat) (R' : List (List Int)) (w : World) (h : Mat w a n R) (h' : Mat w a' n' R') (heq : R = R') :
    Calls Tryz.prog 37 #[.slice a n cap, .slice a' n' cap'] w fun e w' => e = .returned (.bool true) ∧ ∃ q, w' = w.drewN q := by
  subst heq
  have HM := Lib.hid h
  have HM' := Lib.hid h'
  obtain ⟨hl, hm, -⟩ := h
  obtain ⟨hl', -, -⟩ := h'
  obtain rfl : n = n' := by omega
  unfold maxLen at hm
  have HL := Lib.hid hl
  clear hl hl'
  go_enter Tryz.func37, Tryz.ntmps37
  go_wp2
  go_loopw [5] (fun i wr => ∃ k : Nat, k ≤ n ∧ i = .int .i64 k ∧ ∃ q, wr = w.drewN q) (fun i _ => n - (intOf i).toNat)
  case atStart => exact ⟨0, Nat.zero_le _, rfl, 0, rfl⟩
  case round =>
    obtain ⟨k, hk, rfl, q, rfl⟩ := hrel
    by_cases hlt : k < n
    · obtain ⟨b, off, ra, rc, L, l, rfl, hbl, hll, hc, hI⟩ := HM.out.at k hlt
      obtain ⟨b', off', ra', rc', L', l', rfl, hbl', hll', hc', hI'⟩ := HM'.out.at k hlt
      have HI := Lib.hid hI
      have HI' := Lib.hid hI'
      have HE := Lib.hid (hll.trans hll'.symm)
      clear hI hI' hll hll' HM HM'
      have hki : (k : Int) < (n : Int) := by omega
      go_wp2
      go_quiet ((go_at_call 108; exact q_more (eqInts _ _ _ l _ _ _ l' _ HI.out HI'.out HE.out)))
      go_wp2
      go_roundw
      case rel => exact ⟨k + 1, by omega, by go_num, _, rfl⟩
      case measure => simp [intOf]; omega
    · have hkn : k = n := by omega
      subst hkn
      go_wp2
      go_ret
      exact ⟨rfl, q, rfl⟩

set_option maxRecDepth 100000 in
set_option maxHeartbeats 400000 in
theorem copyIntss (a : Option Addr) (n cap : Nat) (R : List (List Int)) (w : World) (h : Mat w a n R) (hs : n ≤ 1048576) (hr : M.pre R R.length ≤ 1048576) :
    Calls Tryz.prog 35 #[.slice a n cap] w fun e w' => e = .returned (.slice (some ⟨w.heap.size, 0, none⟩) n n) ∧ OwnM w' w.heap.size (.slice (some ⟨w.heap.size, 0, none⟩) n n) R ∧ Below w.heap.size w w' := by
  have HM := Lib.hid h
  obtain ⟨hl, hm, -⟩ := h
  have hm2 := hm
  unfold maxLen at hm
  have HL := Lib.hid hl
  have HR := Lib.hid hr
  clear hl hr
  have hmk := run_make_row' (P := Tryz.prog) 24 29 (.slice none 0 0) 24 Tryz.underlying24 infoS64 rfl .i64 .i64 n (by omega) (by omega)
  go_enter Tryz.func35, Tryz.ntmps35
  go_wp2
  clear hmk
  go_loopw [4] (fun i wr => ∃ k : Nat, k ≤ n ∧ i = .int .i64 k ∧ OwnM wr w.heap.size (.slice (some ⟨w.heap.size, 0, none⟩) n n) ((List.range n).map fun j => if j < k then R.getD j [] else []) ∧ Below w.heap.size w wr) (fun i _ => n - (intOf i).toNat)
  case atStart =>
    refine ⟨0, Nat.zero_le _, rfl, ?_, b_alloc _ _⟩
    refine (congrArg (OwnM _ _ _) ?_).mp (ownM_made w _ n (Nat.le_refl _) hm2)
    apply List.ext_getElem
    · simp
    · intro i h1 h2; simp
  case round =>
    obtain ⟨k, hk, rfl, hO, hb⟩ := hrel
    have HO := Lib.hid hO
    have HB := Lib.hid hb
    clear hO hb
    by_cases hlt : k < n
    · obtain ⟨b, off, ra, rc, L, l, rfl, hbl, hll, hc, hI⟩ := (HM.out.below HB.out).at k hlt
      have HI := Lib.hid hI
      have HLL := Lib.hid hll
      have hLs : L ≤ 1048576 := by
        have e1 := M.len_le_pre R k (by have := HL.out; omega)
        have e2 := HR.out
        have e3 := HI.out.1
        rw [HLL.out] at e3
        omega
      clear hI hll
      go_wp2_with fail
      refine (copyInts _ _ _ l _ HI.out hLs).mono ?_
      rintro e w1 ⟨rfl, ho1, hb1⟩
      have hg := HO.out.lt rfl
      have hst : ∃ v, w1.cell? ⟨w.heap.size, k, none⟩ = some v := by
        obtain ⟨v, hv⟩ := HO.out.outer k hlt
        exact ⟨v, by rw [hb1.cell (p := ⟨w.heap.size, k, none⟩) hg]; exact hv⟩
      obtain ⟨v, hst⟩ := hst
      have hfz : w1.frozen? ⟨w.heap.size, k, none⟩ = false := by rw [hb1.frozen (p := ⟨w.heap.size, k, none⟩) hg]; exact HO.out.outerFz k
      have HN := Lib.hid (HO.out.setRow hb1 HB.out.size ho1 k hlt)
      have HB1 := Lib.hid (bnext HB.out hb1)
      clear ho1 hb1 hg
      go_wp2
      go_roundw
      case rel =>
        refine ⟨k + 1, by omega, by go_num, ?_, HB1.out.setCell (Nat.le_refl _) _⟩
        refine (congrArg (OwnM _ _ _) ?_).mp HN.out
        apply List.ext_getElem
        · simp
        · intro j h1 h2
          simp only [List.length_map, List.length_range] at h2
          rw [List.getElem_set]
          simp only [List.getElem_map, List.getElem_range]
          by_cases e : k = j
          · subst e; rw [if_pos rfl, if_pos (by omega), HLL.out]
          · rw [if_neg e]
            by_cases e2 : j < k
            · rw [if_pos e2, if_pos (by omega)]
            · rw [if_neg e2, if_neg (by omega)]
      case measure => simp [intOf]; omega
    · have hkn : k = n := by omega
      subst hkn
      go_wp2
      go_ret
      refine ⟨rfl, ?_, HB.out⟩
      refine (congrArg (OwnM _ _ _) ?_).mp HO.out
      have hl := HL.out
      apply List.ext_getElem
      · simp [hl]
      · intro i h1 h2
        simp [show i < k by omega, h2]

/-- The same, said for the exact laws. -/
theorem eqM (a : Option Addr) (n cap : Nat) (R : List (List Int)) (a' : Option Addr) (n' cap' : Nat) (w : World) (h : Mat w a n R) (h' : Mat w a' n' R) :
    Calls Tryz.prog 37 #[.slice a n cap, .slice a' n' cap'] w fun e w' => e = .returned (.bool true) ∧ Below w.heap.size w w' := by
  refine (eqIntss _ _ _ _ _ _ _ _ _ h h' rfl).mono ?_
  rintro e w' ⟨rfl, q, rfl⟩
  exact ⟨rfl, b_draws _ _⟩
theorem eqV (a : Option Addr) (n cap : Nat) (l : List Int) (a' : Option Addr) (n' cap' : Nat) (w : World) (h : Ints .i64 w a n l) (h' : Ints .i64 w a' n' l) :
    Calls Tryz.prog 108 #[.slice a n cap, .slice a' n' cap'] w fun e w' => e = .returned (.bool true) ∧ Below w.heap.size w w' := by
  refine (eqInts _ _ _ _ _ _ _ _ _ h h' rfl).mono ?_
  rintro e w' ⟨rfl, q, rfl⟩
  exact ⟨rfl, b_draws _ _⟩
end Go.Proofs.YtihpbgjiohnekabGreat.V

namespace Go.Proofs.YtihpbgjiohnekabGreat.V
open Go.RowKit

/-- Only blocks of S may have changed, and no others were added. -/
structure Chg (S : Nat → Prop) (w w' : World) : Prop where
  os : w'.os = w.os
  tape : w'.tape = w.tape
  output : w'.output = w.output
  size : w'.heap.size = w.heap.size
  other : ∀ k, ¬ S k → w'.heap[k]? = w.heap[k]?

theorem Chg.refl (S : Nat → Prop) (w : World) : Chg S w w := ⟨rfl, rfl, rfl, rfl, fun _ _ => rfl⟩
theorem Chg.trans {S : Nat → Prop} {a b c : World} (h : Chg S a b) (k : Chg S b c) : Chg S a c :=
  ⟨k.os.trans h.os, k.tape.trans h.tape, k.output.trans h.output, k.size.trans h.size, fun i hi => (k.other i hi).trans (h.other i hi)⟩
theorem Chg.mono {S S' : Nat → Prop} {a b : World} (h : Chg S a b) (hs : ∀ k, S k → S' k) : Chg S' a b :=
  ⟨h.os, h.tape, h.output, h.size, fun k hk => h.other k (fun hh => hk (hs k hh))⟩
theorem Chg.below {S : Nat → Prop} {a b : World} {B : Nat} (h : Chg S a b) (hs : ∀ k, S k → B ≤ k) : Below B a b :=
  ⟨h.os, h.tape, h.output, Nat.le_of_eq h.size.symm, fun k hk => h.other k (fun hh => by have := hs k hh; omega)⟩
theorem Chg.set {S : Nat → Prop} {a b : World} (h : Chg S a b) {g i : Nat} (hg : S g) (v : Value) : Chg S a (b.setCell ⟨g, i, none⟩ v) :=
  ⟨h.os, h.tape, h.output, by have := h.size; simpa [World.setCell] using this, fun k hk => (Below.heap_setCell _ _ _ _ (by show k ≠ g; intro e; subst e; exact hk hg)).trans (h.other k hk)⟩
theorem Own.chg {S : Nat → Prop} {w w' : World} {B : Nat} {v : Value} {l : List Int} (h : Own w B v l) (hc : Chg S w w') (hs : ∀ k, v.ownBlock = some k → ¬ S k) : Own w' B v l :=
  ownsRow_keep h fun k hk => hc.other k (hs k hk)

/-- The blocks from lo up to hi are as they were. -/
def Same (lo hi : Nat) (w w' : World) : Prop := ∀ k, lo ≤ k → k < hi → w'.heap[k]? = w.heap[k]?
theorem Same.refl (lo hi : Nat) (w : World) : Same lo hi w w := fun _ _ _ => rfl
theorem Same.below {lo hi b : Nat} {a w w' : World} (h : Same lo hi a w) (hb : Below b w w') (hh : hi ≤ b) : Same lo hi a w' :=
  fun k h1 h2 => (hb.block k (by omega)).trans (h k h1 h2)
theorem Same.chg {S : Nat → Prop} {lo hi : Nat} {a w w' : World} (h : Same lo hi a w) (hc : Chg S w w') (hs : ∀ k, lo ≤ k → k < hi → ¬ S k) : Same lo hi a w' :=
  fun k h1 h2 => (hc.other k (hs k h1 h2)).trans (h k h1 h2)

/-- One row of an owned matrix is rewritten. -/
theorem OwnV.row {w w' : World} {B : Nat} {v : Value} {R : List (List Int)} {V : List Value} {l : List Int} (h : OwnV w B v R V) (i : Nat) (hi : i < R.length) (ho : Own w' B (V.getD i (.slice none 0 0)) l)
    (hc : Chg (fun k => (V.getD i (.slice none 0 0)).ownBlock = some k) w w') : OwnV w' B v (R.set i l) V := by
  obtain ⟨h1, h2, h3, h4, h5⟩ := h
  refine ⟨by simpa using h1, ?_, ?_, ?_, ?_⟩
  · rw [List.length_set]
    exact ownsRow_keep h2 fun k hk => hc.other k (fun e => h4 i hi k e hk)
  · intro j hj
    simp only [List.length_set] at hj
    rw [getD_set _ _ _ _ _ hi]
    by_cases e : j = i
    · subst e; rw [if_pos rfl]; exact ho
    · rw [if_neg e]
      exact (h3 j hj).chg hc (fun k hk e2 => h5 j i hj hi e k hk e2)
  · intro j hj
    simp only [List.length_set] at hj
    exact h4 j hj
  · intro j t hj ht
    simp only [List.length_set] at hj ht
    exact h5 j t hj ht

set_option maxRecDepth 100000 in
set_option maxHeartbeats 400000 in
theorem markInts (a : Option Addr) (n cap B : Nat) (l : List Int) (m : Int) (w : World) (h : Own w B (.slice a n cap) l) (hn : n ≤ 1048576) (h1 : 0 ≤ m) (h2 : m ≤ 40000000) :
    Calls Tryz.prog 109 #[.slice a n cap, .int .i64 m] w fun e w' => e = .returned (.int .i64 (m + n)) ∧ Own w' B (.slice a n cap) (M.iota m n) ∧ Chg (fun k => (Value.slice a n cap).ownBlock = some k) w w' := by
  have HO := Lib.hid h
  have HL := Lib.hid h.len
  have hgg := own_form h
  obtain ⟨a', c', hv, -, -, hg⟩ := hgg
  injection hv with e1 e2 e3
  subst e1 e3
  rw [← e2] at hg
  clear h e2
  go_enter Tryz.func109, Tryz.ntmps109
  go_wp2
  go_loopw [1, 5] (fun x i wr => ∃ k : Nat, k ≤ n ∧ i = .int .i64 k ∧ x = .int .i64 (m + k) ∧ Own wr B (.slice a n cap) ((List.range n).map fun j => if j < k then m + (j : Int) else l.getD j 0) ∧ Chg (fun k => (Value.slice a n cap).ownBlock = some k) w wr) (fun _ i _ => n - (intOf i).toNat)
  case atStart =>
    refine ⟨0, Nat.zero_le _, rfl, by simp, ?_, Chg.refl _ _⟩
    refine (congrArg (Own _ _ _) ?_).mp HO.out
    have hl := HL.out
    apply List.ext_getElem
    · simp [hl]
    · intro i h1 h2
      simp [h1]
  case round =>
    obtain ⟨k, hk, rfl, rfl, hrow, hb⟩ := hrel
    by_cases hlt : k < n
    · obtain ⟨g, rfl, hBg, hgl⟩ := hg (by omega)
      have hst : ∃ v, wr.cell? ⟨g, k, none⟩ = some v := ⟨_, hrow.cellAt k hlt⟩
      obtain ⟨v, hst⟩ := hst
      have hfz := hrow.frozenAt k
      have HR := Lib.hid hrow
      have HB := Lib.hid hb
      clear hrow hb hg
      have hb1 : 0 ≤ m + (k : Int) := by omega
      have hb2 : m + (k : Int) ≤ 50000000 := by omega
      go_wp2
      go_roundw
      case rel =>
        refine ⟨k + 1, by omega, by go_num, vi (by omega), ?_, HB.out.set rfl _⟩
        have := Own.set HR.out k (m + k)
        rw [M.map_set] at this
        refine (congrArg (Own _ _ _) (List.map_congr_left fun j hj => ?_)).mp this
        by_cases e : j = k
        · subst e; rw [if_pos rfl, if_pos (by omega)]
        · rw [if_neg e]
          by_cases e2 : j < k
          · rw [if_pos e2, if_pos (by omega)]
          · rw [if_neg e2, if_neg (by omega)]
      case measure => simp [intOf]; omega
    · have hkn : k = n := by omega
      subst hkn
      have HR := Lib.hid hrow
      have HB := Lib.hid hb
      clear hrow hb hg
      go_wp2
      go_ret
      refine ⟨rfl, (congrArg (Own _ _ _) ?_).mp HR.out, HB.out⟩
      unfold M.iota
      exact List.map_congr_left fun j hj => by rw [if_pos (List.mem_range.1 hj)]

set_option maxRecDepth 100000 in
set_option maxHeartbeats 400000 in
theorem heldInts (a : Option Addr) (n cap : Nat) (m : Int) (w : World) (h : Ints .i64 w a n (M.iota m n)) (hn : n ≤ 1048576) (h1 : 0 ≤ m) (h2 : m ≤ 40000000) :
    Calls Tryz.prog 110 #[.slice a n cap, .int .i64 m] w fun e w' => e = .returned (.int .i64 (m + n)) ∧ w = w' := by
  have HI := Lib.hid h
  clear h
  go_enter Tryz.func110, Tryz.ntmps110
  go_wp2
  go_loop [1, 5] (fun x i => ∃ k : Nat, k ≤ n ∧ i = .int .i64 k ∧ x = .int .i64 (m + k)) (fun _ i => n - (intOf i).toNat)
  case atStart => exact ⟨0, Nat.zero_le _, rfl, by simp⟩
  case round =>
    obtain ⟨k, hk, rfl, rfl⟩ := hrel
    by_cases hlt : k < n
    · obtain ⟨b, off, x, rfl, hbl, hx, hc⟩ := HI.out.at k hlt
      rw [M.iota_getD m n k hlt] at hx
      subst hx
      have hb1 : 0 ≤ m + (k : Int) := by omega
      have hb2 : m + (k : Int) ≤ 50000000 := by omega
      go_wp2
      go_round
      case rel => exact ⟨k + 1, by omega, by go_num, vi (by omega)⟩
      case measure => simp [intOf]; omega
    · have hkn : k = n := by omega
      subst hkn
      go_wp2
      go_ret
      exact ⟨rfl, rfl⟩

set_option maxRecDepth 100000 in
set_option maxHeartbeats 400000 in
theorem markIntss (a : Option Addr) (n cap B : Nat) (R : List (List Int)) (m : Int) (w0 w : World) (h0 : OwnM w0 B (.slice a n cap) R) (hb0 : Same B w0.heap.size w0 w) (hn : n ≤ 1048576) (hp : M.pre R R.length ≤ 1048576) (h1 : 0 ≤ m) (h2 : m + M.pre R R.length ≤ 40000000) :
    Calls Tryz.prog 38 #[.slice a n cap, .int .i64 m] w fun e w' => e = .returned (.int .i64 (m + M.pre R R.length)) ∧ OwnM w' B (.slice a n cap) (M.marks m R) ∧ Chg (fun k => B ≤ k ∧ k < w0.heap.size) w w' := by
  obtain ⟨V, hV0⟩ := h0
  have hV : OwnV w B (.slice a n cap) R V := by
    obtain ⟨h1, h2, h3, h4, h5⟩ := hV0
    exact ⟨h1, ownsRow_keep h2 (fun k hv => hb0 k (own_lt h2 hv).1 (own_lt h2 hv).2), fun i hi => (h3 i hi).keep hb0, h4, h5⟩
  have hlt : ∀ i, i < n → ∀ k, (V.getD i (.slice none 0 0)).ownBlock = some k → B ≤ k ∧ k < w0.heap.size := by
    obtain ⟨e1, e2, e3, e4, e5⟩ := hV0
    have hl := OwnM.len ⟨V, e1, e2, e3, e4, e5⟩
    exact fun i hi k hk => own_lt (e3 i (by omega)) hk
  have HT := Lib.hid hlt
  have HL := Lib.hid (OwnM.len ⟨V, hV⟩)
  have hgg := own_form hV.2.1
  obtain ⟨a', c', hv, -, -, hg⟩ := hgg
  injection hv with e1 e2 e3
  subst e1 e3
  rw [← e2] at hg
  have HV := Lib.hid hV
  clear hV hlt hV0 e2 hb0
  go_enter Tryz.func38, Tryz.ntmps38
  go_wp2
  go_loopw [1, 5] (fun x i wr => ∃ (k : Nat) (y : Int), k ≤ n ∧ i = .int .i64 k ∧ x = .int .i64 y ∧ y = m + M.pre R k ∧ OwnV wr B (.slice a n cap) (M.marked m R k) V ∧ Chg (fun k => B ≤ k ∧ k < w0.heap.size) w wr) (fun _ i _ => n - (intOf i).toNat)
  case atStart => exact ⟨0, m, Nat.zero_le _, rfl, rfl, by rw [M.pre_zero]; omega, by rw [M.marked_zero]; exact HV.out, Chg.refl _ _⟩
  case round =>
    obtain ⟨k, y, hk, rfl, rfl, hy, hO, hb⟩ := hrel
    have HO := Lib.hid hO
    have HB := Lib.hid hb
    by_cases hlt : k < n
    · have hkR : k < R.length := by have := HL.out; omega
      have hps := M.pre_succ R k hkR
      have hpm := M.pre_mono R (show k + 1 ≤ R.length by omega)
      have hle := M.len_le_pre R k hkR
      obtain ⟨g, rfl, hBg, hgl⟩ := hg (by omega)
      have hrow := HO.out.2.2.1 k (by simpa using hkR)
      obtain ⟨ra, rc, hrv, hrc, hrm, hrg⟩ := own_form hrow
      have hcell : wr.cell? ⟨g, k, none⟩ = some (V.getD k (.slice none 0 0)) := by
        have e : n = (M.marked m R k).length := by have := HL.out; simpa using this
        have h2 := HO.out.2.1
        rw [← e] at h2
        rw [World.ownsRow.cellAt h2 k (by omega)]
        have := HO.out.1
        simp [show k < V.length by omega]
      rw [M.marked_rowlen m R k k hkR] at hrv hrc
      rw [hrv] at hcell hrow
      rw [M.marked_at m R k k hkR, if_neg (Nat.lt_irrefl _)] at hrow
      have y1 : 0 ≤ y := by omega
      have y2 : y ≤ 40000000 := by omega
      generalize hLn : (R.getD k []).length = L at *
      have hLs : L ≤ 1048576 := by omega
      have HY := Lib.hid hy
      have HP := Lib.hid hps
      have HRV := Lib.hid hrv
      have HRW := Lib.hid hrow
      have HLn := Lib.hid hLn
      have HTk := Lib.hid (HT.out k hlt)
      clear hO hb hg hps hpm hle hrow hrv hrg hrc hy hLn
      go_wp2_with fail
      refine (markInts _ _ _ B _ _ _ HRW.out hLs y1 y2).mono ?_
      rintro e w1 ⟨rfl, ho1, hc1⟩
      have hN : OwnV w1 B (.slice (some ⟨g, 0, none⟩) n cap) (M.marked m R (k + 1)) V := by
        have := HO.out.row k (by simpa using hkR) (l := M.iota y L) (by rw [HRV.out]; exact ho1) (by rw [HRV.out]; exact hc1)
        rw [HY.out, ← HLn.out, M.marked_set m R k hkR] at this
        exact this
      have HN := Lib.hid hN
      have HB1 := Lib.hid (HB.out.trans (hc1.mono (fun j hj => HTk.out j (by rw [HRV.out]; exact hj))))
      clear ho1 hc1 hN
      go_wp2
      go_roundw
      case rel => exact ⟨k + 1, y + L, by omega, by go_num, rfl, by rw [HY.out, HP.out]; omega, HN.out, HB1.out⟩
      case measure => simp [intOf]; omega
    · have hkn : k = n := by omega
      subst hkn
      have HY := Lib.hid hy
      clear hO hb hg hy
      go_wp2
      go_ret
      have e := HL.out
      refine ⟨by rw [HY.out, ← e]; rfl, ⟨V, ?_⟩, HB.out⟩
      unfold M.marks
      rw [← e]
      exact HO.out

set_option maxRecDepth 100000 in
set_option maxHeartbeats 400000 in
theorem heldIntss (a : Option Addr) (n cap : Nat) (R : List (List Int)) (m : Int) (w : World) (h : Mat w a n (M.marks m R)) (hp : M.pre R R.length ≤ 1048576) (h1 : 0 ≤ m) (h2 : m + M.pre R R.length ≤ 40000000) :
    Calls Tryz.prog 39 #[.slice a n cap, .int .i64 m] w fun e w' => e = .returned (.int .i64 (m + M.pre R R.length)) ∧ w = w' := by
  have HL : Hid (n = R.length) := by have := h.1; unfold M.marks at this; show _ = _; simpa using this.symm
  have hm := h.2.1
  have HI := Lib.hid h
  clear h
  unfold maxLen at hm
  go_enter Tryz.func39, Tryz.ntmps39
  go_wp2
  go_loop [1, 5] (fun x i => ∃ (k : Nat) (y : Int), k ≤ n ∧ i = .int .i64 k ∧ x = .int .i64 y ∧ y = m + M.pre R k) (fun _ i => n - (intOf i).toNat)
  case atStart => exact ⟨0, m, Nat.zero_le _, rfl, rfl, by rw [M.pre_zero]; omega⟩
  case round =>
    obtain ⟨k, y, hk, rfl, rfl, hy⟩ := hrel
    by_cases hlt : k < n
    · have hkR : k < R.length := by have := HL.out; omega
      have hps := M.pre_succ R k hkR
      have hpm := M.pre_mono R (show k + 1 ≤ R.length by omega)
      have hle := M.len_le_pre R k hkR
      obtain ⟨b, off, ra, rc, L, l, rfl, hbl, hll, hc, hI⟩ := HI.out.at k hlt
      unfold M.marks at hll
      rw [M.marked_at m R _ k hkR, if_pos hkR] at hll
      have hLe : L = (R.getD k []).length := by have := hI.1; rw [hll] at this; simpa using this.symm
      rw [← hLe] at hps hle hll
      rw [hll, ← hy] at hI
      have y1 : 0 ≤ y := by omega
      have y2 : y ≤ 40000000 := by omega
      have hLs : L ≤ 1048576 := by omega
      have HY := Lib.hid hy
      have HP := Lib.hid hps
      have HII := Lib.hid hI
      have hyL : 0 ≤ y + (L : Int) := by omega
      clear hI hll hps hpm hle hLe hy
      go_wp2_with fail
      refine (heldInts _ _ _ _ _ HII.out hLs y1 y2).mono ?_
      rintro e w' ⟨rfl, rfl⟩
      go_wp2
      go_round
      case rel => exact ⟨k + 1, y + L, by omega, by go_num, rfl, by rw [HY.out, HP.out]; omega⟩
      case measure => simp [intOf]; omega
    · have hkn : k = n := by omega
      subst hkn
      have HY := Lib.hid hy
      clear hy
      go_wp2
      go_ret
      have e := HL.out
      exact ⟨by rw [HY.out, ← e]; rfl, rfl⟩

/-- The same, said for the exact laws: the number is named, and what changed lies in the blocks of the marked slice. -/
theorem markM (a : Option Addr) (n cap B : Nat) (R : List (List Int)) (m : Int) (w0 w : World) (h0 : OwnM w0 B (.slice a n cap) R) (hb0 : Same B w0.heap.size w0 w) (hn : n ≤ 1048576) (hp : M.pre R R.length ≤ 1048576) (h1 : 0 ≤ m) (h2 : m + M.pre R R.length ≤ 40000000) :
    Calls Tryz.prog 38 #[.slice a n cap, .int .i64 m] w fun e w' => ∃ y : Int, e = .returned (.int .i64 y) ∧ 0 ≤ y ∧ Hid (y = m + M.pre R R.length) ∧ OwnM w' B (.slice a n cap) (M.marks m R) ∧ Chg (fun k => B ≤ k ∧ k < w0.heap.size) w w' := by
  refine (markIntss _ _ _ _ _ _ _ _ h0 hb0 hn hp h1 h2).mono ?_
  rintro e w' ⟨rfl, ho, hc⟩
  exact ⟨_, rfl, by omega, rfl, ho, hc⟩
theorem heldM (a : Option Addr) (n cap : Nat) (R : List (List Int)) (m y : Int) (w : World) (h : Mat w a n (M.marks m R)) (hp : M.pre R R.length ≤ 1048576) (h1 : 0 ≤ m) (h2 : m + M.pre R R.length ≤ 40000000) (hy : y = m + M.pre R R.length) :
    Calls Tryz.prog 39 #[.slice a n cap, .int .i64 m] w fun e w' => e = .returned (.int .i64 y) ∧ w = w' := by
  subst hy
  exact heldIntss _ _ _ _ _ _ h hp h1 h2
theorem markV (a : Option Addr) (n cap B : Nat) (l : List Int) (m : Int) (w0 w : World) (h0 : Own w0 B (.slice a n cap) l) (hb0 : Same B w0.heap.size w0 w) (hn : n ≤ 1048576) (h1 : 0 ≤ m) (h2 : m ≤ 40000000) :
    Calls Tryz.prog 109 #[.slice a n cap, .int .i64 m] w fun e w' => ∃ y : Int, e = .returned (.int .i64 y) ∧ 0 ≤ y ∧ Hid (y = m + n) ∧ Own w' B (.slice a n cap) (M.iota m n) ∧ Chg (fun k => B ≤ k ∧ k < w0.heap.size) w w' := by
  refine (markInts _ _ _ B l _ _ (h0.keep hb0) hn h1 h2).mono ?_
  rintro e w' ⟨rfl, ho, hc⟩
  exact ⟨_, rfl, by omega, rfl, ho, hc.mono (fun k hk => own_lt h0 hk)⟩
theorem heldV (a : Option Addr) (n cap : Nat) (m y : Int) (w : World) (h : Ints .i64 w a n (M.iota m n)) (hn : n ≤ 1048576) (h1 : 0 ≤ m) (h2 : m ≤ 40000000) (hy : y = m + n) :
    Calls Tryz.prog 110 #[.slice a n cap, .int .i64 m] w fun e w' => e = .returned (.int .i64 y) ∧ w = w' := by
  subst hy
  exact heldInts _ _ _ _ _ h hn h1 h2
end Go.Proofs.YtihpbgjiohnekabGreat.V

namespace Go.Proofs.YtihpbgjiohnekabGreat.V
set_option maxRecDepth 100000
open Go.RowKit Go.Maps
set_option maxRecDepth 100000 in
set_option maxHeartbeats 2000000 in
theorem componentOf (a : Option Addr) (n cap : Nat) (R : List (List Int)) (v : Nat) (w : World) (h : Sq w a n R) (hv : v < n) :
    Calls Tryz.prog 207 #[.slice a n cap, .int .i64 v] w fun e w' => ∃ b c, e = .returned (.slice b (M.compL (M.ent R) n v).length c) ∧ Own w' w.heap.size (.slice b (M.compL (M.ent R) n v).length c) (M.compL (M.ent R) n v) ∧ Below w.heap.size w w' := by
  have HSq := Lib.hid h
  obtain ⟨n1, n2⟩ := h.2.2.2
  clear h
  go_enter Tryz.func207, Tryz.ntmps207
  go_wp2_with fail
  refine (reachedFrom _ _ _ R v _ HSq.out hv).mono ?_
  rintro e w1 ⟨b1, rfl, hlo, hs, hb⟩
  have HS1 := Lib.hid hs
  have HB1 := Lib.hid hb
  clear hs hb
  go_wp2_with fail
  refine (reaching _ _ _ R v _ (HSq.out.below HB1.out) hv).mono ?_
  rintro e w2 ⟨b2, rfl, hlo2, hs, hb⟩
  have HS2 := Lib.hid hs
  have HS12 := Lib.hid (HS1.out.below hb HS1.out.lt)
  have HB2 := Lib.hid (HB1.out.trans (hb.mono HB1.out.size))
  clear hs hb HS1 HB1
  go_wp2
  go_loopw [7, 8, 17] (fun o _ i wr => ∃ (k : Nat) (b : Option Addr) (c : Nat), k ≤ n ∧ i = .int .i64 k ∧ o = .slice b (M.compP (M.ent R) n v k).length c ∧ Hid (Own wr w2.heap.size (.slice b (M.compP (M.ent R) n v k).length c) (M.compP (M.ent R) n v k)) ∧ Hid (Below w2.heap.size w2 wr)) (fun _ _ i _ => n - (intOf i).toNat)
  case atStart => exact ⟨0, none, 0, Nat.zero_le _, rfl, rfl, own_nil _ _, Below.refl _ _⟩
  case round =>
    obtain ⟨k, b, c, hk, rfl, rfl, HO, HB⟩ := hrel
    by_cases hlt : k < n
    · have hki : (k : Int) < (n : Int) := by omega
      have HL1 := (HS12.out.below HB.out HS12.out.lt).look n2 k hlt
      have HL2 : (Instr.lookup 198 (.map (some b2)) (.int .i64 (k : Int)) false).run Tryz.prog wr = .ok (.bool (M.rchB (M.ent R) n k v)) wr := (HS2.out.below HB.out HS2.out.lt).look n2 k hlt
      have hnx := M.compP_next (M.ent R) n v k
      have hrel : M.relB (M.ent R) n v k = (M.rchB (M.ent R) n v k && M.rchB (M.ent R) n k v) := rfl
      have hlen := M.compP_len (M.ent R) n v k
      obtain ⟨x, hx⟩ : ∃ x, x = M.rchB (M.ent R) n v k := ⟨_, rfl⟩
      obtain ⟨y, hy⟩ : ∃ y, y = M.rchB (M.ent R) n k v := ⟨_, rfl⟩
      rw [← hy] at HL2
      rw [← hx] at HL1 hrel
      rw [← hy] at hrel
      rw [hrel] at hnx
      clear hx hy hrel
      cases x with
      | false =>
        have HN : Hid (M.compP (M.ent R) n v (k + 1) = M.compP (M.ent R) n v k) := by show _ = _; rw [hnx]; simp
        clear hnx
        go_wp2
        go_roundw
        case rel => exact ⟨k + 1, b, c, by omega, by go_num, by rw [HN.out], by show Own _ _ _ _; rw [HN.out]; exact HO.out, HB⟩
        case measure => simp [intOf]; omega
      | true =>
        cases y with
        | false =>
          have HN : Hid (M.compP (M.ent R) n v (k + 1) = M.compP (M.ent R) n v k) := by show _ = _; rw [hnx]; simp
          clear hnx
          go_wp2
          go_roundw
          case rel => exact ⟨k + 1, b, c, by omega, by go_num, by rw [HN.out], by show Own _ _ _ _; rw [HN.out]; exact HO.out, HB⟩
          case measure => simp [intOf]; omega
        | true =>
          have HN : Hid (M.compP (M.ent R) n v (k + 1) = M.compP (M.ent R) n v k ++ [(k : Int)]) := by show _ = _; rw [hnx]; simp
          clear hnx
          generalize M.compP (M.ent R) n v k = l at *
          go_wp2_with (at_builtin; refine append1 _ rfl (.tmp 28) (.tmp 30) rfl w2.heap.size _ l (k : Int) _ rfl rfl HO.out rfl (by omega) HB.out.size ?_)
          intro b4 c4 w4 hO4 hb4 _
          have HO4 := Lib.hid hO4
          have HB4 := Lib.hid (HB.out.trans hb4)
          rw [← HN.out] at HO4
          clear hO4 hb4
          go_wp2
          go_roundw
          case rel => exact ⟨k + 1, b4, c4, by omega, by go_num, by rw [HN.out, List.length_append]; rfl, by show Own _ _ _ _; rw [HN.out, List.length_append]; rw [HN.out] at HO4; exact HO4.out, HB4⟩
          case measure => simp [intOf]; omega
    · obtain rfl : k = n := by omega
      go_wp2
      go_ret
      exact ⟨b, c, rfl, HO.out.mono HB2.out.size, HB2.out.trans (HB.out.mono HB2.out.size)⟩
end Go.Proofs.YtihpbgjiohnekabGreat.V
