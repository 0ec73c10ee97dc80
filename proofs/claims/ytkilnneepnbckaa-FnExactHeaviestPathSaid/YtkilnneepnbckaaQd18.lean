/- Texts laid together: Fix1, Mat2. -/
import Derived.Test.YtkilnneepnbckaaQd6
import Derived.Test.YtkilnneepnbckaaQd7
import Derived.Test.YtkilnneepnbckaaQd8
import Derived.Test.YtkilnneepnbckaaQd9
import Derived.Test.YtkilnneepnbckaaRows
import Derived.Test.YtkilnneepnbckaaQd1
import Derived.Test.YtkilnneepnbckaaQd2
import Derived.WalkKit
import Derived.ProofKit
import Derived.WalkSmall
import Derived.Deep.QuietTactic
import Derived.BigQuiet
import Derived.BigRegion
import Derived.Deep.Draws
import Derived.Lib.Hide
import Derived.OpenShut
import Derived.Deep.OwnRows
import Derived.Test.YtkilnneepnbckaaQd15
set_option linter.unusedSimpArgs false
set_option linter.unusedVariables false
set_option linter.unusedSectionVars false
namespace Go.Proofs.Ytkilnneepnbckaa.V
open Go.RowKit

/-- What the least fixed point of a matrix and a vector that fit is. -/
def M.lfpL (R : List (List Int)) (n : Nat) (l : List Int) : List Int × Int := if M.noPos (M.ent R) n then (if M.isVec (M.applyM (M.starM R n) l) then (M.applyM (M.starM R n) l, 0) else ([], 3)) else ([], 5)
set_option maxRecDepth 100000 in
set_option maxHeartbeats 1000000 in
theorem leastFixedPoint (a : Option Addr) (n cap : Nat) (R : List (List Int)) (a' : Option Addr) (cap' : Nat) (l : List Int) (w : World) (h : Sq w a n R) (h' : Ints .i64 w a' n l) (hlb : ∀ k, k < n → M.Big (l.getD k 0)) :
    Calls Try.prog 90 #[.slice a n cap, .slice a' n cap'] w (VRes (M.lfpL R n l) w) := by
  have HQ := Lib.hid h
  have HI := Lib.hid h'
  have HSm := Lib.hid h.2.2.1
  obtain ⟨-, -, -, n1, n2⟩ := h
  have HLB := Lib.hid hlb
  clear hlb h'
  obtain ⟨r, hr⟩ : ∃ r, r = M.starL R n := ⟨_, rfl⟩
  have HC : Calls Try.prog 57 #[.slice a n cap] w (CPost r w) := by rw [hr]; exact starOf _ _ _ _ _ HQ.out
  by_cases hp : M.noPos (M.ent R) n = true
  · have hr2 : r = (M.starM R n, true) := by rw [hr]; unfold M.starL; rw [hp]; rfl
    have HSB : Hid (∀ i j, i < n → j < n → M.Big (M.ent (M.starM R n) i j)) := fun i j hi hj => M.star_big n2 HSm.out hp hi hj
    obtain ⟨b, hb⟩ : ∃ b, b = M.isVec (M.applyM (M.starM R n) l) := ⟨_, rfl⟩
    have HM := Lib.hid hb.symm
    have HE : Hid (M.lfpL R n l = if b then (M.applyM (M.starM R n) l, 0) else ([], 3)) := by
      show _ = _; rw [hb]; unfold M.lfpL; rw [hp]; rfl
    clear hr hp hb
    subst hr2
    cases b with
    | true =>
      go_enter Try.func90, Try.ntmps90
      go_wp2_with fail
      refine HC.mono ?_
      rintro e w1 ⟨a2, m, cap2, rfl, hO, hb⟩
      obtain rfl : m = n := by have := hO.len; simpa [M.starM] using this
      have HO := Lib.hid hO
      have HB := Lib.hid hb
      clear hO hb
      go_wp2_with fail
      refine (timesColumn _ _ _ _ _ _ _ l _ HO.out.mat (HI.out.below HB.out) (rect_mk _ _ _) HSB.out HLB.out n1 n2 n1 n2).mono ?_
      rintro e w2 ⟨b3, c3, rfl, hx, hb⟩
      have HX := Lib.hid (hx.mono HB.out.size)
      have HB2 := Lib.hid (bnext HB.out hb)
      clear hx hb
      go_wp2_with fail
      refine (checkedVector_t _ _ _ _ _ HM.out HX.out.ints').mono ?_
      rintro e w' ⟨rfl, rfl⟩
      go_wp2
      go_ret2
      rw [HE.out]
      exact ⟨_, _, _, rfl, HX.out, HB2.out⟩
    | false =>
      go_enter Try.func90, Try.ntmps90
      go_wp2_with fail
      refine HC.mono ?_
      rintro e w1 ⟨a2, m, cap2, rfl, hO, hb⟩
      obtain rfl : m = n := by have := hO.len; simpa [M.starM] using this
      have HO := Lib.hid hO
      have HB := Lib.hid hb
      clear hO hb
      go_wp2_with fail
      refine (timesColumn _ _ _ _ _ _ _ l _ HO.out.mat (HI.out.below HB.out) (rect_mk _ _ _) HSB.out HLB.out n1 n2 n1 n2).mono ?_
      rintro e w2 ⟨b3, c3, rfl, hx, hb⟩
      have HX := Lib.hid (hx.mono HB.out.size)
      have HB2 := Lib.hid (bnext HB.out hb)
      clear hx hb
      go_wp2_with fail
      refine (checkedVector_f _ _ _ _ _ HM.out HX.out.ints').mono ?_
      rintro e w' ⟨rfl, rfl⟩
      go_wp2
      go_ret2
      exact VRes.nil HE.out HB2.out
  · simp only [Bool.not_eq_true] at hp
    have hr2 : r = ([], false) := by rw [hr]; unfold M.starL; rw [hp]; rfl
    have HE : Hid (M.lfpL R n l = ([], 5)) := by
      show _ = _; unfold M.lfpL; rw [hp]; rfl
    clear hr hp
    subst hr2
    go_enter Try.func90, Try.ntmps90
    go_wp2_with (go_at_call 57; refine HC.mono ?_; rintro e w1 ⟨a2, m, cap2, rfl, hO, hb⟩; have HB := Lib.hid hb; clear hO hb)
    go_ret2
    exact VRes.nil HE.out HB.out
set_option maxRecDepth 100000 in
set_option maxHeartbeats 1000000 in
theorem fixedPoint (a : Option Addr) (n cap : Nat) (R : List (List Int)) (a' : Option Addr) (N cap' : Nat) (l : List Int) (w : World) (h : Mat w a n R) (h' : Ints .i64 w a' N l) :
    Calls Try.prog 41 #[.slice a n cap, .slice a' N cap'] w (VRes (M.fixRes R l) w) := by
  have HA := Lib.hid h
  have HI := Lib.hid h'
  have HL := Lib.hid h'.1
  have HR := Lib.hid h.1
  by_cases hs : M.sqB R = true
  · have HS := Lib.hid hs
    by_cases hv : M.isVec l = true
    · have HV := Lib.hid hv
      have HQ := Lib.hid (sq_of h hs)
      by_cases hn : n = N
      · subst hn
        have HLB : Hid (∀ k, k < n → M.Big (l.getD k 0)) := fun k hk => M.big_val ((M.isVec_t hv).2.2 k (by rw [h'.1]; exact hk))
        have HE : Hid (M.fixRes R l = M.lfpL R n l) := by
          show _ = _; unfold M.fixRes M.lfpL; rw [hs, hv, HR.out, if_pos (by rfl), if_pos HL.out.symm]
        clear h h' hs hv
        go_enter Try.func41, Try.ntmps41
        go_wp2_with (first | (go_at_call 55; refine (isSquare_b _ _ _ R _ true HS.out HA.out).mono ?_; rintro e w' ⟨rfl, rfl⟩) | (go_at_call 89; refine (isVector_b _ _ _ l _ true HV.out HI.out).mono ?_; rintro e w' ⟨rfl, rfl⟩))
        refine (leastFixedPoint _ _ _ R _ _ l _ HQ.out HI.out HLB.out).mono ?_
        rintro e w1 ⟨b3, m, c3, rfl, ho, hb⟩
        have HO := Lib.hid ho
        have HB := Lib.hid hb
        clear ho hb
        go_wp2
        go_ret2
        rw [HE.out]
        exact ⟨_, _, _, rfl, HO.out, HB.out⟩
      · have hne : (n == N) = false := by simpa using hn
        have hne2 : ((n : Int) != (N : Int)) = true := by simp; omega
        have HE : Hid (M.fixRes R l = ([], 5)) := by
          show _ = _; unfold M.fixRes; rw [hs, hv, HR.out, HL.out, if_pos (by rfl), if_neg hn]
        clear h h' hs hv
        go_enter Try.func41, Try.ntmps41
        go_wp2_with (first | (go_at_call 55; refine (isSquare_b _ _ _ R _ true HS.out HA.out).mono ?_; rintro e w' ⟨rfl, rfl⟩) | (go_at_call 89; refine (isVector_b _ _ _ l _ true HV.out HI.out).mono ?_; rintro e w' ⟨rfl, rfl⟩))
        go_ret2
        exact VRes.nil HE.out (Below.refl _ _)
    · simp only [Bool.not_eq_true] at hv
      have HV := Lib.hid hv
      have HE : Hid (M.fixRes R l = ([], 1)) := by show _ = _; unfold M.fixRes; rw [hs, hv]; rfl
      clear h h' hs hv
      go_enter Try.func41, Try.ntmps41
      go_wp2_with (first | (go_at_call 55; refine (isSquare_b _ _ _ R _ true HS.out HA.out).mono ?_; rintro e w' ⟨rfl, rfl⟩) | (go_at_call 89; refine (isVector_b _ _ _ l _ false HV.out HI.out).mono ?_; rintro e w' ⟨rfl, rfl⟩))
      go_ret2
      exact VRes.nil HE.out (Below.refl _ _)
  · simp only [Bool.not_eq_true] at hs
    have HS := Lib.hid hs
    have HE : Hid (M.fixRes R l = ([], 1)) := by show _ = _; unfold M.fixRes; rw [hs]; rfl
    clear h h' hs
    go_enter Try.func41, Try.ntmps41
    go_wp2_with (go_at_call 55; refine (isSquare_b _ _ _ R _ false HS.out HA.out).mono ?_; rintro e w' ⟨rfl, rfl⟩)
    go_ret2
    exact VRes.nil HE.out (Below.refl _ _)

set_option maxRecDepth 100000 in
set_option maxHeartbeats 1000000 in
theorem sFixedPoint (a : Option Addr) (n cap : Nat) (R : List (List Int)) (a' : Option Addr) (N cap' : Nat) (l : List Int) (w : World) (h : Mat w a n R) (h' : Ints .i64 w a' N l) :
    Calls Try.prog 42 #[.slice a n cap, .slice a' N cap'] w (VRes (M.fixRes R l) w) := by
  have HA := Lib.hid h
  have HI := Lib.hid h'
  have HL := Lib.hid h'.1
  have HR := Lib.hid h.1
  by_cases hs : M.sqB R = true
  · have HS := Lib.hid hs
    by_cases hv : M.isVec l = true
    · have HV := Lib.hid hv
      obtain ⟨N1, N2⟩ := ints_vec h' hv
      have HQ := Lib.hid (sq_of h hs)
      have HSm := Lib.hid (sq_of h hs).2.2.1
      obtain ⟨-, -, -, n1, n2⟩ := sq_of h hs
      by_cases hn : n = N
      · subst hn
        have HLB : Hid (∀ k, k < n → M.Big (l.getD k 0)) := fun k hk => M.big_val ((M.isVec_t hv).2.2 k (by rw [h'.1]; exact hk))
        by_cases hp : M.noPos (M.ent R) n = true
        · have HC : ∀ w1, Below w.heap.size w w1 → Calls Try.prog 59 #[.slice a n cap] w1 fun e w' => ∃ b c, e = .returned (.tuple #[.slice b n c, .bool true]) ∧ OwnM w' w1.heap.size (.slice b n c) (M.starM R n) ∧ Below w1.heap.size w1 w' := by
            intro w1 hb
            have := sStar a n cap R w1 (HQ.out.below hb)
            rw [hp, M.bm_star n2 HSm.out hp] at this
            exact this
          have HSB : Hid (∀ i j, i < n → j < n → M.Big (M.ent (M.starM R n) i j)) := fun i j hi hj => M.star_big n2 HSm.out hp hi hj
          obtain ⟨b, hb⟩ : ∃ b, b = M.isVec (M.applyM (M.starM R n) l) := ⟨_, rfl⟩
          have HM := Lib.hid hb.symm
          have HE : Hid (M.fixRes R l = if b then (M.applyM (M.starM R n) l, 0) else ([], 3)) := by
            show _ = _; rw [hb]; unfold M.fixRes; rw [hs, hv, HR.out, if_pos (by rfl), if_pos HL.out.symm, hp]; rfl
          clear h h' hs hv hp hb
          cases b with
          | true =>
            go_enter Try.func42, Try.ntmps42
            go_wp2_with (first | (go_at_call 58; refine (sSquare_b _ _ _ R _ true HS.out HA.out).mono ?_; rintro e w' ⟨rfl, q, rfl⟩) | (go_at_call 91; refine (sVector_b _ _ _ l _ true HV.out (HI.out.below (b_draws _ _))).mono ?_; rintro e w' ⟨rfl, rfl⟩) | (go_at_call 59; refine (HC _ (b_draws _ _)).mono ?_; rintro e w1 ⟨a2, cap2, rfl, hO, hb⟩; have HO := Lib.hid (hO.mono (b_draws w q).size); have HB := Lib.hid (bnext (b_draws w q) hb); clear hO hb))
            refine (sApplyB _ _ _ _ _ _ _ l _ HO.out.mat (HI.out.below HB.out) (rect_mk _ _ _) HSB.out HLB.out n2 n1 n2).mono ?_
            rintro e w2 ⟨b3, c3, rfl, hx, hb⟩
            have HX := Lib.hid (hx.mono HB.out.size)
            have HB2 := Lib.hid (bnext HB.out hb)
            clear hx hb
            go_wp2_with fail
            refine (sVector_b _ _ _ _ _ true HM.out HX.out.ints').mono ?_
            rintro e w' ⟨rfl, rfl⟩
            go_wp2
            go_ret2
            rw [HE.out]
            exact ⟨_, _, _, rfl, HX.out, HB2.out⟩
          | false =>
            go_enter Try.func42, Try.ntmps42
            go_wp2_with (first | (go_at_call 58; refine (sSquare_b _ _ _ R _ true HS.out HA.out).mono ?_; rintro e w' ⟨rfl, q, rfl⟩) | (go_at_call 91; refine (sVector_b _ _ _ l _ true HV.out (HI.out.below (b_draws _ _))).mono ?_; rintro e w' ⟨rfl, rfl⟩) | (go_at_call 59; refine (HC _ (b_draws _ _)).mono ?_; rintro e w1 ⟨a2, cap2, rfl, hO, hb⟩; have HO := Lib.hid (hO.mono (b_draws w q).size); have HB := Lib.hid (bnext (b_draws w q) hb); clear hO hb))
            refine (sApplyB _ _ _ _ _ _ _ l _ HO.out.mat (HI.out.below HB.out) (rect_mk _ _ _) HSB.out HLB.out n2 n1 n2).mono ?_
            rintro e w2 ⟨b3, c3, rfl, hx, hb⟩
            have HX := Lib.hid (hx.mono HB.out.size)
            have HB2 := Lib.hid (bnext HB.out hb)
            clear hx hb
            go_wp2_with fail
            refine (sVector_b _ _ _ _ _ false HM.out HX.out.ints').mono ?_
            rintro e w' ⟨rfl, rfl⟩
            go_wp2
            go_ret2
            exact VRes.nil HE.out HB2.out
        · simp only [Bool.not_eq_true] at hp
          have HC : ∀ w1, Below w.heap.size w w1 → Calls Try.prog 59 #[.slice a n cap] w1 fun e w' => ∃ b c, e = .returned (.tuple #[.slice b n c, .bool false]) ∧ OwnM w' w1.heap.size (.slice b n c) (M.bmM R n n) ∧ Below w1.heap.size w1 w' := by
            intro w1 hb
            have := sStar a n cap R w1 (HQ.out.below hb)
            rw [hp] at this
            exact this
          have HE : Hid (M.fixRes R l = ([], 5)) := by
            show _ = _; unfold M.fixRes; rw [hs, hv, HR.out, if_pos (by rfl), if_pos HL.out.symm, hp]; rfl
          clear h h' hs hv hp
          go_enter Try.func42, Try.ntmps42
          go_wp2_with (first | (go_at_call 58; refine (sSquare_b _ _ _ R _ true HS.out HA.out).mono ?_; rintro e w' ⟨rfl, q, rfl⟩) | (go_at_call 91; refine (sVector_b _ _ _ l _ true HV.out (HI.out.below (b_draws _ _))).mono ?_; rintro e w' ⟨rfl, rfl⟩) | (go_at_call 59; refine (HC _ (b_draws _ _)).mono ?_; rintro e w1 ⟨a2, cap2, rfl, hO, hb⟩; have HB := Lib.hid (bnext (b_draws w q) hb); clear hO hb))
          go_ret2
          exact VRes.nil HE.out HB.out
      · have hne : (n == N) = false := by simpa using hn
        have hne2 : ((n : Int) != (N : Int)) = true := by simp; omega
        have HE : Hid (M.fixRes R l = ([], 5)) := by
          show _ = _; unfold M.fixRes; rw [hs, hv, HR.out, HL.out, if_pos (by rfl), if_neg hn]
        clear h h' hs hv
        go_enter Try.func42, Try.ntmps42
        go_wp2_with (first | (go_at_call 58; refine (sSquare_b _ _ _ R _ true HS.out HA.out).mono ?_; rintro e w' ⟨rfl, q, rfl⟩) | (go_at_call 91; refine (sVector_b _ _ _ l _ true HV.out (HI.out.below (b_draws _ _))).mono ?_; rintro e w' ⟨rfl, rfl⟩))
        go_ret2
        exact VRes.nil HE.out (b_draws _ _)
    · simp only [Bool.not_eq_true] at hv
      have HV := Lib.hid hv
      have HE : Hid (M.fixRes R l = ([], 1)) := by show _ = _; unfold M.fixRes; rw [hs, hv]; rfl
      clear h h' hs hv
      go_enter Try.func42, Try.ntmps42
      go_wp2_with (first | (go_at_call 58; refine (sSquare_b _ _ _ R _ true HS.out HA.out).mono ?_; rintro e w' ⟨rfl, q, rfl⟩) | (go_at_call 91; refine (sVector_b _ _ _ l _ false HV.out (HI.out.below (b_draws _ _))).mono ?_; rintro e w' ⟨rfl, rfl⟩))
      go_ret2
      exact VRes.nil HE.out (b_draws _ _)
  · simp only [Bool.not_eq_true] at hs
    have HS := Lib.hid hs
    have HE : Hid (M.fixRes R l = ([], 1)) := by show _ = _; unfold M.fixRes; rw [hs]; rfl
    clear h h' hs
    go_enter Try.func42, Try.ntmps42
    go_wp2_with (go_at_call 58; refine (sSquare_b _ _ _ R _ false HS.out HA.out).mono ?_; rintro e w' ⟨rfl, q, rfl⟩)
    go_ret2
    exact VRes.nil HE.out (b_draws _ _)
end Go.Proofs.Ytkilnneepnbckaa.V

namespace Go.Proofs.Ytkilnneepnbckaa.V
open Go.RowKit

set_option maxRecDepth 100000 in
set_option maxHeartbeats 400000 in
theorem eqIntss (a : Option Addr) (n cap : Nat) (R : List (List Int)) (a' : Option Addr) (n' cap' : Nat) (R' : List (List Int)) (w : World) (h : Mat w a n R) (h' : Mat w a' n' R') (heq : R = R') :
    Calls Try.prog 47 #[.slice a n cap, .slice a' n' cap'] w fun e w' => e = .returned (.bool true) ∧ ∃ q, w' = w.drewN q := by
  subst heq
  have HM := Lib.hid h
  have HM' := Lib.hid h'
  obtain ⟨hl, hm, -⟩ := h
  obtain ⟨hl', -, -⟩ := h'
  obtain rfl : n = n' := by omega
  unfold maxLen at hm
  have HL := Lib.hid hl
  clear hl hl'
  go_enter Try.func47, Try.ntmps47
  go_wp2
  go_loopw [5] (fun i wr => ∃ k : Nat, k ≤ n ∧ i = .int .i64 k ∧ ∃ q, wr = w.drewN q) (fun i _ => n - (intOf i).toNat)
  case atStart => exact ⟨0, Nat.zero_le _, rfl, 0, rfl⟩
  case round =>
    obtain ⟨k, hk, rfl, q, rfl⟩ := hrel
    by_cases hlt : k < n
    · obtain ⟨b, off, ra, rc, L, l, rfl, hbl, hll, hc, hI⟩ := HM.out.at k hlt
      obtain ⟨b', off', ra', rc', L', l', rfl, hbl', hll', hc', hI'⟩ := HM'.out.at k hlt
      have HI := Lib.hid hI
      have HI' := Lib.hid hI'
      have HE := Lib.hid (hll.trans hll'.symm)
      clear hI hI' hll hll' HM HM'
      have hki : (k : Int) < (n : Int) := by omega
      go_wp2
      go_quiet ((go_at_call 48; exact q_more (eqInts _ _ _ l _ _ _ l' _ HI.out HI'.out HE.out)))
      go_wp2
      go_roundw
      case rel => exact ⟨k + 1, by omega, by go_num, _, rfl⟩
      case measure => simp [intOf]; omega
    · have hkn : k = n := by omega
      subst hkn
      go_wp2
      go_ret
      exact ⟨rfl, q, rfl⟩

set_option maxRecDepth 100000 in
set_option maxHeartbeats 400000 in
theorem copyIntss (a : Option Addr) (n cap : Nat) (R : List (List Int)) (w : World) (h : Mat w a n R) (hs : n ≤ 1048576) (hr : M.pre R R.length ≤ 1048576) :
    Calls Try.prog 45 #[.slice a n cap] w fun e w' => e = .returned (.slice (some ⟨w.heap.size, 0, none⟩) n n) ∧ OwnM w' w.heap.size (.slice (some ⟨w.heap.size, 0, none⟩) n n) R ∧ Below w.heap.size w w' := by
  have HM := Lib.hid h
  obtain ⟨hl, hm, -⟩ := h
  have hm2 := hm
  unfold maxLen at hm
  have HL := Lib.hid hl
  have HR := Lib.hid hr
  clear hl hr
  have hmk := run_make_row' (P := Try.prog) 24 28 (.slice none 0 0) 24 Try.underlying24 infoS64 rfl .i64 .i64 n (by omega) (by omega)
  go_enter Try.func45, Try.ntmps45
  go_wp2
  clear hmk
  go_loopw [4] (fun i wr => ∃ k : Nat, k ≤ n ∧ i = .int .i64 k ∧ OwnM wr w.heap.size (.slice (some ⟨w.heap.size, 0, none⟩) n n) ((List.range n).map fun j => if j < k then R.getD j [] else []) ∧ Below w.heap.size w wr) (fun i _ => n - (intOf i).toNat)
  case atStart =>
    refine ⟨0, Nat.zero_le _, rfl, ?_, b_alloc _ _⟩
    refine (congrArg (OwnM _ _ _) ?_).mp (ownM_made w _ n (Nat.le_refl _) hm2)
    apply List.ext_getElem
    · simp
    · intro i h1 h2; simp
  case round =>
    obtain ⟨k, hk, rfl, hO, hb⟩ := hrel
    have HO := Lib.hid hO
    have HB := Lib.hid hb
    clear hO hb
    by_cases hlt : k < n
    · obtain ⟨b, off, ra, rc, L, l, rfl, hbl, hll, hc, hI⟩ := (HM.out.below HB.out).at k hlt
      have HI := Lib.hid hI
      have HLL := Lib.hid hll
      have hLs : L ≤ 1048576 := by
        have e1 := M.len_le_pre R k (by have := HL.out; omega)
        have e2 := HR.out
        have e3 := HI.out.1
        rw [HLL.out] at e3
        omega
      clear hI hll
      go_wp2_with fail
      refine (copyInts _ _ _ l _ HI.out hLs).mono ?_
      rintro e w1 ⟨rfl, ho1, hb1⟩
      have hg := HO.out.lt rfl
      have hst : ∃ v, w1.cell? ⟨w.heap.size, k, none⟩ = some v := by
        obtain ⟨v, hv⟩ := HO.out.outer k hlt
        exact ⟨v, by rw [hb1.cell (p := ⟨w.heap.size, k, none⟩) hg]; exact hv⟩
      obtain ⟨v, hst⟩ := hst
      have hfz : w1.frozen? ⟨w.heap.size, k, none⟩ = false := by rw [hb1.frozen (p := ⟨w.heap.size, k, none⟩) hg]; exact HO.out.outerFz k
      have HN := Lib.hid (HO.out.setRow hb1 HB.out.size ho1 k hlt)
      have HB1 := Lib.hid (bnext HB.out hb1)
      clear ho1 hb1 hg
      go_wp2
      go_roundw
      case rel =>
        refine ⟨k + 1, by omega, by go_num, ?_, HB1.out.setCell (Nat.le_refl _) _⟩
        refine (congrArg (OwnM _ _ _) ?_).mp HN.out
        apply List.ext_getElem
        · simp
        · intro j h1 h2
          simp only [List.length_map, List.length_range] at h2
          rw [List.getElem_set]
          simp only [List.getElem_map, List.getElem_range]
          by_cases e : k = j
          · subst e; rw [if_pos rfl, if_pos (by omega), HLL.out]
          · rw [if_neg e]
            by_cases e2 : j < k
            · rw [if_pos e2, if_pos (by omega)]
            · rw [if_neg e2, if_neg (by omega)]
      case measure => simp [intOf]; omega
    · have hkn : k = n := by omega
      subst hkn
      go_wp2
      go_ret
      refine ⟨rfl, ?_, HB.out⟩
      refine (congrArg (OwnM _ _ _) ?_).mp HO.out
      have hl := HL.out
      apply List.ext_getElem
      · simp [hl]
      · intro i h1 h2
        simp [show i < k by omega, h2]

/-- The same, said for the exact laws. -/
theorem eqM (a : Option Addr) (n cap : Nat) (R : List (List Int)) (a' : Option Addr) (n' cap' : Nat) (w : World) (h : Mat w a n R) (h' : Mat w a' n' R) :
    Calls Try.prog 47 #[.slice a n cap, .slice a' n' cap'] w fun e w' => e = .returned (.bool true) ∧ Below w.heap.size w w' := by
  refine (eqIntss _ _ _ _ _ _ _ _ _ h h' rfl).mono ?_
  rintro e w' ⟨rfl, q, rfl⟩
  exact ⟨rfl, b_draws _ _⟩
theorem eqV (a : Option Addr) (n cap : Nat) (l : List Int) (a' : Option Addr) (n' cap' : Nat) (w : World) (h : Ints .i64 w a n l) (h' : Ints .i64 w a' n' l) :
    Calls Try.prog 48 #[.slice a n cap, .slice a' n' cap'] w fun e w' => e = .returned (.bool true) ∧ Below w.heap.size w w' := by
  refine (eqInts _ _ _ _ _ _ _ _ _ h h' rfl).mono ?_
  rintro e w' ⟨rfl, q, rfl⟩
  exact ⟨rfl, b_draws _ _⟩
end Go.Proofs.Ytkilnneepnbckaa.V
