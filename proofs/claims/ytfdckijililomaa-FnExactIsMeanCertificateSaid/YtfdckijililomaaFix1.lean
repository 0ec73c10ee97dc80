/- FixedPoint, in the program and in the model: every case. -/
import Derived.Test.YtfdckijililomaaClo3
import Derived.Test.YtfdckijililomaaClo5
import Derived.Test.YtfdckijililomaaTrans
import Derived.Test.YtfdckijililomaaApply
namespace Go.Proofs.Ytfdckijililomaa.V
open Go.RowKit

/-- What the least fixed point of a matrix and a vector that fit is. -/
def M.lfpL (R : List (List Int)) (n : Nat) (l : List Int) : List Int × Int := if M.noPos (M.ent R) n then (if M.isVec (M.applyM (M.starM R n) l) then (M.applyM (M.starM R n) l, 0) else ([], 3)) else ([], 5)
set_option maxRecDepth 100000 in
set_option maxHeartbeats 1000000 in
theorem leastFixedPoint (a : Option Addr) (n cap : Nat) (R : List (List Int)) (a' : Option Addr) (cap' : Nat) (l : List Int) (w : World) (h : Sq w a n R) (h' : Ints .i64 w a' n l) (hlb : ∀ k, k < n → M.Big (l.getD k 0)) :
    Calls Try.prog 109 #[.slice a n cap, .slice a' n cap'] w (VRes (M.lfpL R n l) w) := by
  have HQ := Lib.hid h
  have HI := Lib.hid h'
  have HSm := Lib.hid h.2.2.1
  obtain ⟨-, -, -, n1, n2⟩ := h
  have HLB := Lib.hid hlb
  clear hlb h'
  obtain ⟨r, hr⟩ : ∃ r, r = M.starL R n := ⟨_, rfl⟩
  have HC : Calls Try.prog 134 #[.slice a n cap] w (CPost r w) := by rw [hr]; exact starOf _ _ _ _ _ HQ.out
  by_cases hp : M.noPos (M.ent R) n = true
  · have hr2 : r = (M.starM R n, true) := by rw [hr]; unfold M.starL; rw [hp]; rfl
    have HSB : Hid (∀ i j, i < n → j < n → M.Big (M.ent (M.starM R n) i j)) := fun i j hi hj => M.star_big n2 HSm.out hp hi hj
    obtain ⟨b, hb⟩ : ∃ b, b = M.isVec (M.applyM (M.starM R n) l) := ⟨_, rfl⟩
    have HM := Lib.hid hb.symm
    have HE : Hid (M.lfpL R n l = if b then (M.applyM (M.starM R n) l, 0) else ([], 3)) := by
      show _ = _; rw [hb]; unfold M.lfpL; rw [hp]; rfl
    clear hr hp hb
    subst hr2
    cases b with
    | true =>
      go_enter Try.func109, Try.ntmps109
      go_wp2_with fail
      refine HC.mono ?_
      rintro e w1 ⟨a2, m, cap2, rfl, hO, hb⟩
      obtain rfl : m = n := by have := hO.len; simpa [M.starM] using this
      have HO := Lib.hid hO
      have HB := Lib.hid hb
      clear hO hb
      go_wp2_with fail
      refine (timesColumn _ _ _ _ _ _ _ l _ HO.out.mat (HI.out.below HB.out) (rect_mk _ _ _) HSB.out HLB.out n1 n2 n1 n2).mono ?_
      rintro e w2 ⟨b3, c3, rfl, hx, hb⟩
      have HX := Lib.hid (hx.mono HB.out.size)
      have HB2 := Lib.hid (bnext HB.out hb)
      clear hx hb
      go_wp2_with fail
      refine (isVector_b _ _ _ _ _ true HM.out HX.out.ints').mono ?_
      rintro e w' ⟨rfl, rfl⟩
      go_wp2
      go_ret2
      rw [HE.out]
      exact ⟨_, _, _, rfl, HX.out, HB2.out⟩
    | false =>
      go_enter Try.func109, Try.ntmps109
      go_wp2_with fail
      refine HC.mono ?_
      rintro e w1 ⟨a2, m, cap2, rfl, hO, hb⟩
      obtain rfl : m = n := by have := hO.len; simpa [M.starM] using this
      have HO := Lib.hid hO
      have HB := Lib.hid hb
      clear hO hb
      go_wp2_with fail
      refine (timesColumn _ _ _ _ _ _ _ l _ HO.out.mat (HI.out.below HB.out) (rect_mk _ _ _) HSB.out HLB.out n1 n2 n1 n2).mono ?_
      rintro e w2 ⟨b3, c3, rfl, hx, hb⟩
      have HX := Lib.hid (hx.mono HB.out.size)
      have HB2 := Lib.hid (bnext HB.out hb)
      clear hx hb
      go_wp2_with fail
      refine (isVector_b _ _ _ _ _ false HM.out HX.out.ints').mono ?_
      rintro e w' ⟨rfl, rfl⟩
      go_wp2
      go_ret2
      exact VRes.nil HE.out HB2.out
  · simp only [Bool.not_eq_true] at hp
    have hr2 : r = ([], false) := by rw [hr]; unfold M.starL; rw [hp]; rfl
    have HE : Hid (M.lfpL R n l = ([], 5)) := by
      show _ = _; unfold M.lfpL; rw [hp]; rfl
    clear hr hp
    subst hr2
    go_enter Try.func109, Try.ntmps109
    go_wp2_with (go_at_call 134; refine HC.mono ?_; rintro e w1 ⟨a2, m, cap2, rfl, hO, hb⟩; have HB := Lib.hid hb; clear hO hb)
    go_ret2
    exact VRes.nil HE.out HB.out
set_option maxRecDepth 100000 in
set_option maxHeartbeats 1000000 in
theorem fixedPoint (a : Option Addr) (n cap : Nat) (R : List (List Int)) (a' : Option Addr) (N cap' : Nat) (l : List Int) (w : World) (h : Mat w a n R) (h' : Ints .i64 w a' N l) :
    Calls Try.prog 80 #[.slice a n cap, .slice a' N cap'] w (VRes (M.fixRes R l) w) := by
  have HA := Lib.hid h
  have HI := Lib.hid h'
  have HL := Lib.hid h'.1
  have HR := Lib.hid h.1
  by_cases hs : M.sqB R = true
  · have HS := Lib.hid hs
    by_cases hv : M.isVec l = true
    · have HV := Lib.hid hv
      have HQ := Lib.hid (sq_of h hs)
      by_cases hn : n = N
      · subst hn
        have HLB : Hid (∀ k, k < n → M.Big (l.getD k 0)) := fun k hk => M.big_val ((M.isVec_t hv).2.2 k (by rw [h'.1]; exact hk))
        have HE : Hid (M.fixRes R l = M.lfpL R n l) := by
          show _ = _; unfold M.fixRes M.lfpL; rw [hs, hv, HR.out, if_pos (by rfl), if_pos HL.out.symm]
        clear h h' hs hv
        go_enter Try.func80, Try.ntmps80
        go_wp2_with (first | (go_at_call 93; refine (isSquare_b _ _ _ R _ true HS.out HA.out).mono ?_; rintro e w' ⟨rfl, rfl⟩) | (go_at_call 103; refine (isVector_b _ _ _ l _ true HV.out HI.out).mono ?_; rintro e w' ⟨rfl, rfl⟩))
        refine (leastFixedPoint _ _ _ R _ _ l _ HQ.out HI.out HLB.out).mono ?_
        rintro e w1 ⟨b3, m, c3, rfl, ho, hb⟩
        have HO := Lib.hid ho
        have HB := Lib.hid hb
        clear ho hb
        go_wp2
        go_ret2
        rw [HE.out]
        exact ⟨_, _, _, rfl, HO.out, HB.out⟩
      · have hne : (n == N) = false := by simpa using hn
        have hne2 : ((n : Int) != (N : Int)) = true := by simp; omega
        have HE : Hid (M.fixRes R l = ([], 5)) := by
          show _ = _; unfold M.fixRes; rw [hs, hv, HR.out, HL.out, if_pos (by rfl), if_neg hn]
        clear h h' hs hv
        go_enter Try.func80, Try.ntmps80
        go_wp2_with (first | (go_at_call 93; refine (isSquare_b _ _ _ R _ true HS.out HA.out).mono ?_; rintro e w' ⟨rfl, rfl⟩) | (go_at_call 103; refine (isVector_b _ _ _ l _ true HV.out HI.out).mono ?_; rintro e w' ⟨rfl, rfl⟩))
        go_ret2
        exact VRes.nil HE.out (Below.refl _ _)
    · simp only [Bool.not_eq_true] at hv
      have HV := Lib.hid hv
      have HE : Hid (M.fixRes R l = ([], 1)) := by show _ = _; unfold M.fixRes; rw [hs, hv]; rfl
      clear h h' hs hv
      go_enter Try.func80, Try.ntmps80
      go_wp2_with (first | (go_at_call 93; refine (isSquare_b _ _ _ R _ true HS.out HA.out).mono ?_; rintro e w' ⟨rfl, rfl⟩) | (go_at_call 103; refine (isVector_b _ _ _ l _ false HV.out HI.out).mono ?_; rintro e w' ⟨rfl, rfl⟩))
      go_ret2
      exact VRes.nil HE.out (Below.refl _ _)
  · simp only [Bool.not_eq_true] at hs
    have HS := Lib.hid hs
    have HE : Hid (M.fixRes R l = ([], 1)) := by show _ = _; unfold M.fixRes; rw [hs]; rfl
    clear h h' hs
    go_enter Try.func80, Try.ntmps80
    go_wp2_with (go_at_call 93; refine (isSquare_b _ _ _ R _ false HS.out HA.out).mono ?_; rintro e w' ⟨rfl, rfl⟩)
    go_ret2
    exact VRes.nil HE.out (Below.refl _ _)

set_option maxRecDepth 100000 in
set_option maxHeartbeats 1000000 in
theorem sFixedPoint (a : Option Addr) (n cap : Nat) (R : List (List Int)) (a' : Option Addr) (N cap' : Nat) (l : List Int) (w : World) (h : Mat w a n R) (h' : Ints .i64 w a' N l) :
    Calls Try.prog 79 #[.slice a n cap, .slice a' N cap'] w (VRes (M.fixRes R l) w) := by
  have HA := Lib.hid h
  have HI := Lib.hid h'
  have HL := Lib.hid h'.1
  have HR := Lib.hid h.1
  by_cases hs : M.sqB R = true
  · have HS := Lib.hid hs
    by_cases hv : M.isVec l = true
    · have HV := Lib.hid hv
      obtain ⟨N1, N2⟩ := ints_vec h' hv
      have HQ := Lib.hid (sq_of h hs)
      have HSm := Lib.hid (sq_of h hs).2.2.1
      obtain ⟨-, -, -, n1, n2⟩ := sq_of h hs
      by_cases hn : n = N
      · subst hn
        have HLB : Hid (∀ k, k < n → M.Big (l.getD k 0)) := fun k hk => M.big_val ((M.isVec_t hv).2.2 k (by rw [h'.1]; exact hk))
        by_cases hp : M.noPos (M.ent R) n = true
        · have HC : ∀ w1, Below w.heap.size w w1 → Calls Try.prog 106 #[.slice a n cap] w1 fun e w' => ∃ b c, e = .returned (.tuple #[.slice b n c, .bool true]) ∧ OwnM w' w1.heap.size (.slice b n c) (M.starM R n) ∧ Below w1.heap.size w1 w' := by
            intro w1 hb
            have := sStar a n cap R w1 (HQ.out.below hb)
            rw [hp, M.bm_star n2 HSm.out hp] at this
            exact this
          have HSB : Hid (∀ i j, i < n → j < n → M.Big (M.ent (M.starM R n) i j)) := fun i j hi hj => M.star_big n2 HSm.out hp hi hj
          obtain ⟨b, hb⟩ : ∃ b, b = M.isVec (M.applyM (M.starM R n) l) := ⟨_, rfl⟩
          have HM := Lib.hid hb.symm
          have HE : Hid (M.fixRes R l = if b then (M.applyM (M.starM R n) l, 0) else ([], 3)) := by
            show _ = _; rw [hb]; unfold M.fixRes; rw [hs, hv, HR.out, if_pos (by rfl), if_pos HL.out.symm, hp]; rfl
          clear h h' hs hv hp hb
          cases b with
          | true =>
            go_enter Try.func79, Try.ntmps79
            go_wp2_with (first | (go_at_call 86; refine (sSquare_b _ _ _ R _ true HS.out HA.out).mono ?_; rintro e w' ⟨rfl, q, rfl⟩) | (go_at_call 140; refine (sVector_b _ _ _ l _ true HV.out (HI.out.below (b_draws _ _))).mono ?_; rintro e w' ⟨rfl, rfl⟩) | (go_at_call 106; refine (HC _ (b_draws _ _)).mono ?_; rintro e w1 ⟨a2, cap2, rfl, hO, hb⟩; have HO := Lib.hid (hO.mono (b_draws w q).size); have HB := Lib.hid (bnext (b_draws w q) hb); clear hO hb))
            refine (sApplyB _ _ _ _ _ _ _ l _ HO.out.mat (HI.out.below HB.out) (rect_mk _ _ _) HSB.out HLB.out n2 n1 n2).mono ?_
            rintro e w2 ⟨b3, c3, rfl, hx, hb⟩
            have HX := Lib.hid (hx.mono HB.out.size)
            have HB2 := Lib.hid (bnext HB.out hb)
            clear hx hb
            go_wp2_with fail
            refine (sVector_b _ _ _ _ _ true HM.out HX.out.ints').mono ?_
            rintro e w' ⟨rfl, rfl⟩
            go_wp2
            go_ret2
            rw [HE.out]
            exact ⟨_, _, _, rfl, HX.out, HB2.out⟩
          | false =>
            go_enter Try.func79, Try.ntmps79
            go_wp2_with (first | (go_at_call 86; refine (sSquare_b _ _ _ R _ true HS.out HA.out).mono ?_; rintro e w' ⟨rfl, q, rfl⟩) | (go_at_call 140; refine (sVector_b _ _ _ l _ true HV.out (HI.out.below (b_draws _ _))).mono ?_; rintro e w' ⟨rfl, rfl⟩) | (go_at_call 106; refine (HC _ (b_draws _ _)).mono ?_; rintro e w1 ⟨a2, cap2, rfl, hO, hb⟩; have HO := Lib.hid (hO.mono (b_draws w q).size); have HB := Lib.hid (bnext (b_draws w q) hb); clear hO hb))
            refine (sApplyB _ _ _ _ _ _ _ l _ HO.out.mat (HI.out.below HB.out) (rect_mk _ _ _) HSB.out HLB.out n2 n1 n2).mono ?_
            rintro e w2 ⟨b3, c3, rfl, hx, hb⟩
            have HX := Lib.hid (hx.mono HB.out.size)
            have HB2 := Lib.hid (bnext HB.out hb)
            clear hx hb
            go_wp2_with fail
            refine (sVector_b _ _ _ _ _ false HM.out HX.out.ints').mono ?_
            rintro e w' ⟨rfl, rfl⟩
            go_wp2
            go_ret2
            exact VRes.nil HE.out HB2.out
        · simp only [Bool.not_eq_true] at hp
          have HC : ∀ w1, Below w.heap.size w w1 → Calls Try.prog 106 #[.slice a n cap] w1 fun e w' => ∃ b c, e = .returned (.tuple #[.slice b n c, .bool false]) ∧ OwnM w' w1.heap.size (.slice b n c) (M.bmM R n n) ∧ Below w1.heap.size w1 w' := by
            intro w1 hb
            have := sStar a n cap R w1 (HQ.out.below hb)
            rw [hp] at this
            exact this
          have HE : Hid (M.fixRes R l = ([], 5)) := by
            show _ = _; unfold M.fixRes; rw [hs, hv, HR.out, if_pos (by rfl), if_pos HL.out.symm, hp]; rfl
          clear h h' hs hv hp
          go_enter Try.func79, Try.ntmps79
          go_wp2_with (first | (go_at_call 86; refine (sSquare_b _ _ _ R _ true HS.out HA.out).mono ?_; rintro e w' ⟨rfl, q, rfl⟩) | (go_at_call 140; refine (sVector_b _ _ _ l _ true HV.out (HI.out.below (b_draws _ _))).mono ?_; rintro e w' ⟨rfl, rfl⟩) | (go_at_call 106; refine (HC _ (b_draws _ _)).mono ?_; rintro e w1 ⟨a2, cap2, rfl, hO, hb⟩; have HB := Lib.hid (bnext (b_draws w q) hb); clear hO hb))
          go_ret2
          exact VRes.nil HE.out HB.out
      · have hne : (n == N) = false := by simpa using hn
        have hne2 : ((n : Int) != (N : Int)) = true := by simp; omega
        have HE : Hid (M.fixRes R l = ([], 5)) := by
          show _ = _; unfold M.fixRes; rw [hs, hv, HR.out, HL.out, if_pos (by rfl), if_neg hn]
        clear h h' hs hv
        go_enter Try.func79, Try.ntmps79
        go_wp2_with (first | (go_at_call 86; refine (sSquare_b _ _ _ R _ true HS.out HA.out).mono ?_; rintro e w' ⟨rfl, q, rfl⟩) | (go_at_call 140; refine (sVector_b _ _ _ l _ true HV.out (HI.out.below (b_draws _ _))).mono ?_; rintro e w' ⟨rfl, rfl⟩))
        go_ret2
        exact VRes.nil HE.out (b_draws _ _)
    · simp only [Bool.not_eq_true] at hv
      have HV := Lib.hid hv
      have HE : Hid (M.fixRes R l = ([], 1)) := by show _ = _; unfold M.fixRes; rw [hs, hv]; rfl
      clear h h' hs hv
      go_enter Try.func79, Try.ntmps79
      go_wp2_with (first | (go_at_call 86; refine (sSquare_b _ _ _ R _ true HS.out HA.out).mono ?_; rintro e w' ⟨rfl, q, rfl⟩) | (go_at_call 140; refine (sVector_b _ _ _ l _ false HV.out (HI.out.below (b_draws _ _))).mono ?_; rintro e w' ⟨rfl, rfl⟩))
      go_ret2
      exact VRes.nil HE.out (b_draws _ _)
  · simp only [Bool.not_eq_true] at hs
    have HS := Lib.hid hs
    have HE : Hid (M.fixRes R l = ([], 1)) := by show _ = _; unfold M.fixRes; rw [hs]; rfl
    clear h h' hs
    go_enter Try.func79, Try.ntmps79
    go_wp2_with (go_at_call 86; refine (sSquare_b _ _ _ R _ false HS.out HA.out).mono ?_; rintro e w' ⟨rfl, q, rfl⟩)
    go_ret2
    exact VRes.nil HE.out (b_draws _ _)
end Go.Proofs.Ytfdckijililomaa.V
