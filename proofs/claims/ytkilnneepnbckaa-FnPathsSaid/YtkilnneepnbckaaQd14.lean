/- Texts laid together: Pth6, Hv1. -/
import Derived.Test.YtkilnneepnbckaaQd7
import Derived.Test.YtkilnneepnbckaaQd13
import Derived.Test.YtkilnneepnbckaaQd6
import Derived.Test.YtkilnneepnbckaaQd8
import Derived.Test.YtkilnneepnbckaaQd9
import Derived.Test.YtkilnneepnbckaaQd3
set_option linter.unusedSimpArgs false
set_option linter.unusedVariables false
set_option linter.unusedSectionVars false
namespace Go.Proofs.Ytkilnneepnbckaa.V
open Go.RowKit

/-- Two integers are returned, and nothing that was there is changed. -/
def IPost (r : Int × Int) (w : World) (e : Ending) (w' : World) : Prop := e = .returned (.tuple #[.int .i64 r.1, .int .i64 r.2]) ∧ Below w.heap.size w w'
theorem IPost.mk {r : Int × Int} {x y : Int} {w w' : World} (h : r = (x, y)) (hb : Below w.heap.size w w') : IPost r w (.returned (.tuple #[.int .i64 x, .int .i64 y])) w' := by
  subst h; exact ⟨rfl, hb⟩
def BPost (b : Bool) (w : World) (e : Ending) (w' : World) : Prop := e = .returned (.bool b) ∧ Below w.heap.size w w'

set_option maxRecDepth 100000 in
set_option maxHeartbeats 1000000 in
theorem pathWeight (a : Option Addr) (n cap : Nat) (R : List (List Int)) (a' : Option Addr) (N cap' : Nat) (l : List Int) (w : World) (h : Mat w a n R) (h' : Ints .i64 w a' N l) (hc1 : N ≤ cap') (hc2 : cap' ≤ maxLen) :
    Calls Try.prog 31 #[.slice a n cap, .slice a' N cap'] w (IPost (M.pathRes R l) w) := by
  have HM := Lib.hid hc2
  have hm := h'.2.1
  unfold maxLen at hc2 hm
  have HA := Lib.hid h
  have HI := Lib.hid h'
  have HL := Lib.hid h'.1
  have HR := Lib.hid h.1
  by_cases hs : M.sqB R = true
  · have HS := Lib.hid hs
    have HQ := Lib.hid (sq_of h hs)
    obtain ⟨-, -, -, n1, n2⟩ := sq_of h hs
    clear h h' hs
    by_cases h0 : N = 0
    · subst h0
      have HE : Hid (M.pathRes R l = (0, 2)) := by show _ = _; unfold M.pathRes; rw [HS.out, HL.out]; simp
      go_enter Try.func31, Try.ntmps31
      go_wp2_with (go_at_call 55; refine (isSquare_b _ _ _ R _ true HS.out HA.out).mono ?_; rintro e w' ⟨rfl, rfl⟩)
      go_ret2
      exact IPost.mk HE.out (Below.refl _ _)
    · by_cases h1 : 100 < N
      · have HE : Hid (M.pathRes R l = (0, 2)) := by show _ = _; unfold M.pathRes; rw [HS.out, HL.out, if_pos rfl, if_neg (by omega)]
        have d1 : 1 ≤ N := by omega
        have d2 : (100 : Int) < (N : Int) := by omega
        go_enter Try.func31, Try.ntmps31
        go_wp2_with (go_at_call 55; refine (isSquare_b _ _ _ R _ true HS.out HA.out).mono ?_; rintro e w' ⟨rfl, rfl⟩)
        go_ret2
        exact IPost.mk HE.out (Below.refl _ _)
      · have d1 : 1 ≤ N := by omega
        have d2 : N ≤ 100 := by omega
        have d3 : (N : Int) ≤ 100 := by omega
        by_cases hv : M.nodesB n l = true
        · have HV := Lib.hid hv
          clear hv
          obtain ⟨y, hy⟩ : ∃ y, y = M.alongW R l := ⟨_, rfl⟩
          have HY := Lib.hid hy
          have HC : Calls Try.prog 78 #[.slice a n cap, .slice a' N cap'] w fun e w' => e = .returned (.int .i64 y) ∧ ∃ q, w' = w.drewN q := by
            rw [hy]
            exact weightAlong _ _ _ _ _ _ _ _ _ HQ.out HI.out HV.out hc1 HM.out d1 (by omega)
          clear hy
          by_cases hb : y = -1000000000000000
          · have HE : Hid (M.pathRes R l = (0, 4)) := by
              show _ = _; unfold M.pathRes; rw [HS.out, HL.out, if_pos rfl, HR.out, if_pos ⟨d1, d2, HV.out⟩, ← HY.out, if_pos hb]
            subst hb
            go_enter Try.func31, Try.ntmps31
            go_wp2_with (first | (go_at_call 55; refine (isSquare_b _ _ _ R _ true HS.out HA.out).mono ?_; rintro e w' ⟨rfl, rfl⟩) | (go_at_call 71; refine (areNodes_b _ n _ _ _ _ l _ true HV.out (by omega) HI.out).mono ?_; rintro e w' ⟨rfl, rfl⟩) | (go_at_call 78; refine HC.mono ?_; rintro e w' ⟨rfl, q, rfl⟩))
            go_ret2
            exact IPost.mk HE.out (b_draws _ _)
          · have hb2 : (y == -1000000000000000) = false := by simpa using hb
            have HE : Hid (M.pathRes R l = M.chk y) := by
              show _ = _; unfold M.pathRes; rw [HS.out, HL.out, if_pos rfl, HR.out, if_pos ⟨d1, d2, HV.out⟩, ← HY.out, if_neg hb]
            clear hb
            go_enter Try.func31, Try.ntmps31
            go_wp2_with (first | (go_at_call 55; refine (isSquare_b _ _ _ R _ true HS.out HA.out).mono ?_; rintro e w' ⟨rfl, rfl⟩) | (go_at_call 71; refine (areNodes_b _ n _ _ _ _ l _ true HV.out (by omega) HI.out).mono ?_; rintro e w' ⟨rfl, rfl⟩) | (go_at_call 78; refine HC.mono ?_; rintro e w' ⟨rfl, q, rfl⟩) | (go_at_call 79; refine (checked _ _).mono ?_; rintro e w' ⟨rfl, rfl⟩))
            go_ret2
            exact IPost.mk HE.out (b_draws _ _)
        · simp only [Bool.not_eq_true] at hv
          have HV := Lib.hid hv
          have HE : Hid (M.pathRes R l = (0, 2)) := by show _ = _; unfold M.pathRes; rw [HS.out, HR.out, HV.out]; simp
          clear hv
          go_enter Try.func31, Try.ntmps31
          go_wp2_with (first | (go_at_call 55; refine (isSquare_b _ _ _ R _ true HS.out HA.out).mono ?_; rintro e w' ⟨rfl, rfl⟩) | (go_at_call 71; refine (areNodes_b _ n _ _ _ _ l _ false HV.out (by omega) HI.out).mono ?_; rintro e w' ⟨rfl, rfl⟩))
          go_ret2
          exact IPost.mk HE.out (Below.refl _ _)
  · simp only [Bool.not_eq_true] at hs
    have HS := Lib.hid hs
    have HE : Hid (M.pathRes R l = (0, 1)) := by show _ = _; unfold M.pathRes; rw [HS.out]; rfl
    clear h h' hs
    go_enter Try.func31, Try.ntmps31
    go_wp2_with (go_at_call 55; refine (isSquare_b _ _ _ R _ false HS.out HA.out).mono ?_; rintro e w' ⟨rfl, rfl⟩)
    go_ret2
    exact IPost.mk HE.out (Below.refl _ _)

set_option maxRecDepth 100000 in
set_option maxHeartbeats 1000000 in
theorem sPathWeight (a : Option Addr) (n cap : Nat) (R : List (List Int)) (a' : Option Addr) (N cap' : Nat) (l : List Int) (w : World) (h : Mat w a n R) (h' : Ints .i64 w a' N l) :
    Calls Try.prog 32 #[.slice a n cap, .slice a' N cap'] w (IPost (M.pathRes R l) w) := by
  have hm := h'.2.1
  unfold maxLen at hm
  have HA := Lib.hid h
  have HI := Lib.hid h'
  have HL := Lib.hid h'.1
  have HR := Lib.hid h.1
  by_cases hs : M.sqB R = true
  · have HS := Lib.hid hs
    have HQ := Lib.hid (sq_of h hs)
    obtain ⟨-, -, -, n1, n2⟩ := sq_of h hs
    clear h h' hs
    by_cases h0 : N = 0
    · subst h0
      have HE : Hid (M.pathRes R l = (0, 2)) := by show _ = _; unfold M.pathRes; rw [HS.out, HL.out]; simp
      go_enter Try.func32, Try.ntmps32
      go_wp2_with (go_at_call 58; refine (sSquare_b _ _ _ R _ true HS.out HA.out).mono ?_; rintro e w' ⟨rfl, q, rfl⟩)
      go_ret2
      exact IPost.mk HE.out (b_draws _ _)
    · by_cases h1 : 100 < N
      · have HE : Hid (M.pathRes R l = (0, 2)) := by show _ = _; unfold M.pathRes; rw [HS.out, HL.out, if_pos rfl, if_neg (by omega)]
        have d1 : 1 ≤ N := by omega
        have d2 : (100 : Int) < (N : Int) := by omega
        go_enter Try.func32, Try.ntmps32
        go_wp2_with (go_at_call 58; refine (sSquare_b _ _ _ R _ true HS.out HA.out).mono ?_; rintro e w' ⟨rfl, q, rfl⟩)
        go_ret2
        exact IPost.mk HE.out (b_draws _ _)
      · have d1 : 1 ≤ N := by omega
        have d2 : N ≤ 100 := by omega
        have d3 : (N : Int) ≤ 100 := by omega
        by_cases hv : M.nodesB n l = true
        · have HV := Lib.hid hv
          clear hv
          obtain ⟨r, hr⟩ : ∃ r, r = M.walkR R l := ⟨_, rfl⟩
          have HW := Lib.hid hr
          have HC : ∀ q, Calls Try.prog 81 #[.slice a n cap, .slice a' N cap'] (w.drewN q) fun e w' => e = .returned (.tuple #[.int .i64 r.1, .bool r.2]) ∧ ∃ q2, w' = (w.drewN q).drewN q2 := by
            intro q
            rw [hr]
            exact sWalk _ _ _ _ _ _ _ _ _ (HQ.out.below (b_draws _ _)) (HI.out.below (b_draws _ _)) HV.out d1 (by omega)
          clear hr
          obtain ⟨y, ok⟩ := r
          cases ok with
          | false =>
            have HE : Hid (M.pathRes R l = (0, 4)) := by
              show _ = _
              have e := HW.out
              unfold M.walkR at e
              unfold M.pathRes
              rw [HS.out, HL.out, if_pos rfl, HR.out, if_pos ⟨d1, d2, HV.out⟩]
              by_cases hb : M.alongW R l = -1000000000000000
              · rw [if_pos hb]
              · rw [if_neg hb] at e; simp at e
            go_enter Try.func32, Try.ntmps32
            go_wp2_with (first | (go_at_call 58; refine (sSquare_b _ _ _ R _ true HS.out HA.out).mono ?_; rintro e w' ⟨rfl, q, rfl⟩) | (go_at_call 80; refine (sNodes_b _ n _ _ _ _ l _ true HV.out (by omega) (HI.out.below (b_draws _ _))).mono ?_; rintro e w' ⟨rfl, rfl⟩) | (go_at_call 81; refine (HC _).mono ?_; rintro e w' ⟨rfl, q2, rfl⟩))
            go_ret2
            exact IPost.mk HE.out (b_draws _ _)
          | true =>
            have HE : Hid (M.pathRes R l = M.chk y) := by
              show _ = _
              have e := HW.out
              unfold M.walkR at e
              unfold M.pathRes
              rw [HS.out, HL.out, if_pos rfl, HR.out, if_pos ⟨d1, d2, HV.out⟩]
              by_cases hb : M.alongW R l = -1000000000000000
              · rw [if_pos hb] at e; simp at e
              · rw [if_neg hb] at e ⊢; simp at e; rw [e]
            go_enter Try.func32, Try.ntmps32
            go_wp2_with (first | (go_at_call 58; refine (sSquare_b _ _ _ R _ true HS.out HA.out).mono ?_; rintro e w' ⟨rfl, q, rfl⟩) | (go_at_call 80; refine (sNodes_b _ n _ _ _ _ l _ true HV.out (by omega) (HI.out.below (b_draws _ _))).mono ?_; rintro e w' ⟨rfl, rfl⟩) | (go_at_call 81; refine (HC _).mono ?_; rintro e w' ⟨rfl, q2, rfl⟩) | (go_at_call 82; refine (sValue _ _).mono ?_; rintro e w' ⟨rfl, rfl⟩))
            go_ret2
            exact IPost.mk HE.out (b_draws _ _)
        · simp only [Bool.not_eq_true] at hv
          have HV := Lib.hid hv
          have HE : Hid (M.pathRes R l = (0, 2)) := by show _ = _; unfold M.pathRes; rw [HS.out, HR.out, HV.out]; simp
          clear hv
          go_enter Try.func32, Try.ntmps32
          go_wp2_with (first | (go_at_call 58; refine (sSquare_b _ _ _ R _ true HS.out HA.out).mono ?_; rintro e w' ⟨rfl, q, rfl⟩) | (go_at_call 80; refine (sNodes_b _ n _ _ _ _ l _ false HV.out (by omega) (HI.out.below (b_draws _ _))).mono ?_; rintro e w' ⟨rfl, rfl⟩))
          go_ret2
          exact IPost.mk HE.out (b_draws _ _)
  · simp only [Bool.not_eq_true] at hs
    have HS := Lib.hid hs
    have HE : Hid (M.pathRes R l = (0, 1)) := by show _ = _; unfold M.pathRes; rw [HS.out]; rfl
    clear h h' hs
    go_enter Try.func32, Try.ntmps32
    go_wp2_with (go_at_call 58; refine (sSquare_b _ _ _ R _ false HS.out HA.out).mono ?_; rintro e w' ⟨rfl, q, rfl⟩)
    go_ret2
    exact IPost.mk HE.out (b_draws _ _)
end Go.Proofs.Ytkilnneepnbckaa.V

namespace Go.Proofs.Ytkilnneepnbckaa.V
open Go.RowKit

set_option maxRecDepth 100000 in
set_option maxHeartbeats 1000000 in
theorem isCycle (a : Option Addr) (n cap : Nat) (R : List (List Int)) (a' : Option Addr) (N cap' : Nat) (l : List Int) (w : World) (h : Mat w a n R) (h' : Ints .i64 w a' N l) (hc1 : N ≤ cap') (hc2 : cap' ≤ maxLen) :
    Calls Try.prog 38 #[.slice a n cap, .slice a' N cap'] w (BPost (M.isCycB R l) w) := by
  have HM := Lib.hid hc2
  have hm := h'.2.1
  unfold maxLen at hc2 hm
  have HA := Lib.hid h
  have HI := Lib.hid h'
  have HL := Lib.hid h'.1
  have HR := Lib.hid h.1
  by_cases hs : M.sqB R = true
  · have HS := Lib.hid hs
    have HQ := Lib.hid (sq_of h hs)
    obtain ⟨-, -, -, n1, n2⟩ := sq_of h hs
    clear h h' hs
    by_cases h0 : N = 0
    · subst h0
      have HE : Hid (M.isCycB R l = false) := by show _ = _; unfold M.isCycB M.cycB; rw [HL.out]; simp
      go_enter Try.func38, Try.ntmps38
      go_wp2_with (go_at_call 55; refine (isSquare_b _ _ _ R _ true HS.out HA.out).mono ?_; rintro e w' ⟨rfl, rfl⟩)
      go_ret
      exact ⟨retB HE.out.symm, Below.refl _ _⟩
    · have d1 : 1 ≤ N := by omega
      by_cases hv : M.nodesB n l = true
      · have HV := Lib.hid hv
        clear hv
        obtain ⟨q, hq⟩ : ∃ q, q = M.diffB l := ⟨_, rfl⟩
        have HQd := Lib.hid hq
        have HC : Calls Try.prog 87 #[.slice a' N cap'] w fun e w' => e = .returned (.bool q) ∧ Below w.heap.size w w' := by
          rw [hq]
          exact areDifferent n _ _ _ _ _ HI.out HV.out n2
        clear hq
        cases q with
        | false =>
          have HE : Hid (M.isCycB R l = false) := by show _ = _; unfold M.isCycB M.cycB; rw [← HQd.out]; simp
          go_enter Try.func38, Try.ntmps38
          go_wp2_with (first | (go_at_call 55; refine (isSquare_b _ _ _ R _ true HS.out HA.out).mono ?_; rintro e w' ⟨rfl, rfl⟩) | (go_at_call 71; refine (areNodes_b _ n _ _ _ _ l _ true HV.out (by omega) HI.out).mono ?_; rintro e w' ⟨rfl, rfl⟩) | (go_at_call 87; refine HC.mono ?_; rintro e w1 ⟨rfl, hb⟩; have HB := Lib.hid hb; clear hb))
          go_ret
          exact ⟨retB HE.out.symm, HB.out⟩
        | true =>
          have hN : N ≤ n := by have := M.diffB_len HV.out HQd.out.symm; rw [HL.out] at this; exact this
          obtain ⟨y, hy⟩ : ∃ y, y = M.aroundW R l := ⟨_, rfl⟩
          have HY := Lib.hid hy
          have HC2 : ∀ w1, Below w.heap.size w w1 → Calls Try.prog 84 #[.slice a n cap, .slice a' N cap'] w1 fun e w' => e = .returned (.int .i64 y) ∧ ∃ q, w' = w1.drewN q := by
            intro w1 hb
            rw [hy]
            exact weightAround _ _ _ _ _ _ _ _ _ (HQ.out.below hb) (HI.out.below hb) HV.out hc1 HM.out d1 (by omega)
          clear hy
          by_cases hb : y = -1000000000000000
          · have HE : Hid (M.isCycB R l = false) := by show _ = _; unfold M.isCycB M.cycB; rw [← HY.out, hb]; simp
            subst hb
            go_enter Try.func38, Try.ntmps38
            go_wp2_with (first | (go_at_call 55; refine (isSquare_b _ _ _ R _ true HS.out HA.out).mono ?_; rintro e w' ⟨rfl, rfl⟩) | (go_at_call 71; refine (areNodes_b _ n _ _ _ _ l _ true HV.out (by omega) HI.out).mono ?_; rintro e w' ⟨rfl, rfl⟩) | (go_at_call 87; refine HC.mono ?_; rintro e w1 ⟨rfl, hb⟩; have HB := Lib.hid hb; clear hb) | (go_at_call 84; refine (HC2 _ HB.out).mono ?_; rintro e w' ⟨rfl, q, rfl⟩))
            go_ret
            exact ⟨retB HE.out.symm, below_drewN HB.out _⟩
          · have hb2 : (y == -1000000000000000) = false := by simpa using hb
            have hb3 : (y != -1000000000000000) = true := by simpa using hb
            have HE : Hid (M.isCycB R l = true) := by
              show _ = _; unfold M.isCycB M.cycB
              rw [← HY.out, HS.out, HR.out, HV.out, ← HQd.out, HL.out, decide_eq_true d1, decide_eq_true hb]; rfl
            clear hb
            go_enter Try.func38, Try.ntmps38
            go_wp2_with (first | (go_at_call 55; refine (isSquare_b _ _ _ R _ true HS.out HA.out).mono ?_; rintro e w' ⟨rfl, rfl⟩) | (go_at_call 71; refine (areNodes_b _ n _ _ _ _ l _ true HV.out (by omega) HI.out).mono ?_; rintro e w' ⟨rfl, rfl⟩) | (go_at_call 87; refine HC.mono ?_; rintro e w1 ⟨rfl, hb⟩; have HB := Lib.hid hb; clear hb) | (go_at_call 84; refine (HC2 _ HB.out).mono ?_; rintro e w' ⟨rfl, q, rfl⟩))
            go_ret
            exact ⟨retB HE.out.symm, below_drewN HB.out _⟩
      · simp only [Bool.not_eq_true] at hv
        have HV := Lib.hid hv
        have HE : Hid (M.isCycB R l = false) := by show _ = _; unfold M.isCycB M.cycB; rw [HR.out, HV.out]; simp
        clear hv
        go_enter Try.func38, Try.ntmps38
        go_wp2_with (first | (go_at_call 55; refine (isSquare_b _ _ _ R _ true HS.out HA.out).mono ?_; rintro e w' ⟨rfl, rfl⟩) | (go_at_call 71; refine (areNodes_b _ n _ _ _ _ l _ false HV.out (by omega) HI.out).mono ?_; rintro e w' ⟨rfl, rfl⟩))
        go_ret
        exact ⟨retB HE.out.symm, Below.refl _ _⟩
  · simp only [Bool.not_eq_true] at hs
    have HS := Lib.hid hs
    have HE : Hid (M.isCycB R l = false) := by show _ = _; unfold M.isCycB; rw [HS.out]; rfl
    clear h h' hs
    go_enter Try.func38, Try.ntmps38
    go_wp2_with (go_at_call 55; refine (isSquare_b _ _ _ R _ false HS.out HA.out).mono ?_; rintro e w' ⟨rfl, rfl⟩)
    go_ret
    exact ⟨retB HE.out.symm, Below.refl _ _⟩
theorem isCycle_b (a : Option Addr) (n cap : Nat) (R : List (List Int)) (a' : Option Addr) (N cap' : Nat) (l : List Int) (w : World) (b : Bool) (hb : M.isCycB R l = b) (h : Mat w a n R) (h' : Ints .i64 w a' N l) (hc1 : N ≤ cap') (hc2 : cap' ≤ maxLen) :
    Calls Try.prog 38 #[.slice a n cap, .slice a' N cap'] w fun e w' => e = .returned (.bool b) ∧ Below w.heap.size w w' := by
  subst hb; exact isCycle _ _ _ _ _ _ _ _ _ h h' hc1 hc2

set_option maxRecDepth 100000 in
set_option maxHeartbeats 1000000 in
theorem cycleWeight (a : Option Addr) (n cap : Nat) (R : List (List Int)) (a' : Option Addr) (N cap' : Nat) (l : List Int) (w : World) (h : Mat w a n R) (h' : Ints .i64 w a' N l) (hc1 : N ≤ cap') (hc2 : cap' ≤ maxLen) :
    Calls Try.prog 35 #[.slice a n cap, .slice a' N cap'] w (IPost (M.cycRes R l) w) := by
  have HA := Lib.hid h
  have HI := Lib.hid h'
  have HM := Lib.hid hc2
  have HC1 := Lib.hid hc1
  by_cases hs : M.sqB R = true
  · have HS := Lib.hid hs
    by_cases hc : M.cycB R l = true
    · have HB : Hid (M.isCycB R l = true) := by show _ = _; unfold M.isCycB; rw [hs, hc]; rfl
      have HE : Hid (M.cycRes R l = M.chk (M.aroundW R l)) := by show _ = _; unfold M.cycRes; rw [hs, hc]; rfl
      have HQ := Lib.hid (sq_of h hs)
      have hh : 1 ≤ N ∧ N ≤ 10 ∧ M.nodesB n l = true := by
        unfold M.cycB at hc
        simp only [Bool.and_eq_true, decide_eq_true_eq] at hc
        obtain ⟨⟨⟨h1, h2⟩, h3⟩, -⟩ := hc
        rw [h.1] at h2
        have h4 := M.diffB_len h2 h3
        have h5 := (sq_of h hs).2.2.2.2
        have h6 := h'.1
        exact ⟨by omega, by omega, h2⟩
      obtain ⟨d1, d2, hv⟩ := hh
      have HV := Lib.hid hv
      obtain ⟨y, hy⟩ : ∃ y, y = M.aroundW R l := ⟨_, rfl⟩
      have HY := Lib.hid hy
      have HC2 : ∀ w1, Below w.heap.size w w1 → Calls Try.prog 84 #[.slice a n cap, .slice a' N cap'] w1 fun e w' => e = .returned (.int .i64 y) ∧ ∃ q, w' = w1.drewN q := by
        intro w1 hb
        rw [hy]
        exact weightAround _ _ _ _ _ _ _ _ _ (HQ.out.below hb) (HI.out.below hb) HV.out HC1.out HM.out d1 (by omega)
      clear h h' hs hc hv hy hc1 hc2
      go_enter Try.func35, Try.ntmps35
      go_wp2_with (first | (go_at_call 55; refine (isSquare_b _ _ _ R _ true HS.out HA.out).mono ?_; rintro e w' ⟨rfl, rfl⟩) | (go_at_call 38; refine (isCycle_b _ _ _ R _ _ _ l _ true HB.out HA.out HI.out HC1.out HM.out).mono ?_; rintro e w1 ⟨rfl, hb⟩; have HB1 := Lib.hid hb; clear hb) | (go_at_call 84; refine (HC2 _ HB1.out).mono ?_; rintro e w' ⟨rfl, q, rfl⟩) | (go_at_call 79; refine (checked _ _).mono ?_; rintro e w' ⟨rfl, rfl⟩))
      go_ret2
      exact IPost.mk (by rw [HE.out, ← HY.out]) (below_drewN HB1.out _)
    · simp only [Bool.not_eq_true] at hc
      have HB : Hid (M.isCycB R l = false) := by show _ = _; unfold M.isCycB; rw [hs, hc]; rfl
      have HE : Hid (M.cycRes R l = (0, 4)) := by show _ = _; unfold M.cycRes; rw [hs, hc]; rfl
      clear h h' hs hc hc1 hc2
      go_enter Try.func35, Try.ntmps35
      go_wp2_with (first | (go_at_call 55; refine (isSquare_b _ _ _ R _ true HS.out HA.out).mono ?_; rintro e w' ⟨rfl, rfl⟩) | (go_at_call 38; refine (isCycle_b _ _ _ R _ _ _ l _ false HB.out HA.out HI.out HC1.out HM.out).mono ?_; rintro e w1 ⟨rfl, hb⟩; have HB1 := Lib.hid hb; clear hb))
      go_ret2
      exact IPost.mk HE.out HB1.out
  · simp only [Bool.not_eq_true] at hs
    have HS := Lib.hid hs
    have HE : Hid (M.cycRes R l = (0, 1)) := by show _ = _; unfold M.cycRes; rw [hs]; rfl
    clear h h' hs hc1 hc2
    go_enter Try.func35, Try.ntmps35
    go_wp2_with (go_at_call 55; refine (isSquare_b _ _ _ R _ false HS.out HA.out).mono ?_; rintro e w' ⟨rfl, rfl⟩)
    go_ret2
    exact IPost.mk HE.out (Below.refl _ _)

set_option maxRecDepth 100000 in
set_option maxHeartbeats 1000000 in
theorem sIsCycle (a : Option Addr) (n cap : Nat) (R : List (List Int)) (a' : Option Addr) (N cap' : Nat) (l : List Int) (w : World) (h : Mat w a n R) (h' : Ints .i64 w a' N l) (hc1 : N ≤ cap') (hc2 : cap' ≤ maxLen) :
    Calls Try.prog 39 #[.slice a n cap, .slice a' N cap'] w (BPost (M.isCycB R l) w) := by
  have HA := Lib.hid h
  have HI := Lib.hid h'
  have HM := Lib.hid hc2
  by_cases hs : M.sqB R = true
  · have HS := Lib.hid hs
    have HQ := Lib.hid (sq_of h hs)
    have HB : Hid (M.isCycB R l = (M.cycleR R l).2) := by
      show _ = _; unfold M.isCycB M.cycleR; rw [hs]; cases M.cycB R l <;> rfl
    obtain ⟨r, hr⟩ : ∃ r, r = M.cycleR R l := ⟨_, rfl⟩
    have HW := Lib.hid hr
    have HC : ∀ w1, Below w.heap.size w w1 → Calls Try.prog 85 #[.slice a n cap, .slice a' N cap'] w1 fun e w' => e = .returned (.tuple #[.int .i64 r.1, .bool r.2]) ∧ Below w1.heap.size w1 w' := by
      intro w1 hb
      rw [hr]
      exact sCycle _ _ _ _ _ _ _ _ _ (HQ.out.below hb) (HI.out.below hb) hc1 HM.out
    clear h h' hs hc1 hc2 hr
    go_enter Try.func39, Try.ntmps39
    go_wp2_with (first | (go_at_call 58; refine (sSquare_b _ _ _ R _ true HS.out HA.out).mono ?_; rintro e w' ⟨rfl, q, rfl⟩) | (go_at_call 85; refine (HC _ (b_draws _ _)).mono ?_; rintro e w1 ⟨rfl, hb⟩; have HB1 := Lib.hid hb; clear hb))
    go_ret
    exact ⟨retB (by rw [HB.out, ← HW.out]), bnext (b_draws _ _) HB1.out⟩
  · simp only [Bool.not_eq_true] at hs
    have HS := Lib.hid hs
    have HE : Hid (M.isCycB R l = false) := by show _ = _; unfold M.isCycB; rw [hs]; rfl
    clear h h' hs hc1 hc2
    go_enter Try.func39, Try.ntmps39
    go_wp2_with (go_at_call 58; refine (sSquare_b _ _ _ R _ false HS.out HA.out).mono ?_; rintro e w' ⟨rfl, q, rfl⟩)
    go_ret
    exact ⟨retB HE.out.symm, b_draws _ _⟩

set_option maxRecDepth 100000 in
set_option maxHeartbeats 1000000 in
theorem sCycleWeight (a : Option Addr) (n cap : Nat) (R : List (List Int)) (a' : Option Addr) (N cap' : Nat) (l : List Int) (w : World) (h : Mat w a n R) (h' : Ints .i64 w a' N l) (hc1 : N ≤ cap') (hc2 : cap' ≤ maxLen) :
    Calls Try.prog 36 #[.slice a n cap, .slice a' N cap'] w (IPost (M.cycRes R l) w) := by
  have HA := Lib.hid h
  have HI := Lib.hid h'
  have HM := Lib.hid hc2
  by_cases hs : M.sqB R = true
  · have HS := Lib.hid hs
    have HQ := Lib.hid (sq_of h hs)
    obtain ⟨r, hr⟩ : ∃ r, r = M.cycleR R l := ⟨_, rfl⟩
    have HW := Lib.hid hr
    have HE : Hid (M.cycRes R l = if r.2 then M.chk r.1 else (0, 4)) := by
      show _ = _; rw [hr]; unfold M.cycRes M.cycleR; rw [hs]; cases M.cycB R l <;> rfl
    have HC : ∀ w1, Below w.heap.size w w1 → Calls Try.prog 85 #[.slice a n cap, .slice a' N cap'] w1 fun e w' => e = .returned (.tuple #[.int .i64 r.1, .bool r.2]) ∧ Below w1.heap.size w1 w' := by
      intro w1 hb
      rw [hr]
      exact sCycle _ _ _ _ _ _ _ _ _ (HQ.out.below hb) (HI.out.below hb) hc1 HM.out
    clear h h' hs hc1 hc2 hr
    obtain ⟨y, ok⟩ := r
    cases ok with
    | true =>
      go_enter Try.func36, Try.ntmps36
      go_wp2_with (first | (go_at_call 58; refine (sSquare_b _ _ _ R _ true HS.out HA.out).mono ?_; rintro e w' ⟨rfl, q, rfl⟩) | (go_at_call 85; refine (HC _ (b_draws _ _)).mono ?_; rintro e w1 ⟨rfl, hb⟩; have HB1 := Lib.hid hb; clear hb) | (go_at_call 82; refine (sValue _ _).mono ?_; rintro e w' ⟨rfl, rfl⟩))
      go_ret2
      exact IPost.mk (by rw [HE.out]; rfl) (bnext (b_draws _ _) HB1.out)
    | false =>
      go_enter Try.func36, Try.ntmps36
      go_wp2_with (first | (go_at_call 58; refine (sSquare_b _ _ _ R _ true HS.out HA.out).mono ?_; rintro e w' ⟨rfl, q, rfl⟩) | (go_at_call 85; refine (HC _ (b_draws _ _)).mono ?_; rintro e w1 ⟨rfl, hb⟩; have HB1 := Lib.hid hb; clear hb))
      go_ret2
      exact IPost.mk (by rw [HE.out]; rfl) (bnext (b_draws _ _) HB1.out)
  · simp only [Bool.not_eq_true] at hs
    have HS := Lib.hid hs
    have HE : Hid (M.cycRes R l = (0, 1)) := by show _ = _; unfold M.cycRes; rw [hs]; rfl
    clear h h' hs hc1 hc2
    go_enter Try.func36, Try.ntmps36
    go_wp2_with (go_at_call 58; refine (sSquare_b _ _ _ R _ false HS.out HA.out).mono ?_; rintro e w' ⟨rfl, q, rfl⟩)
    go_ret2
    exact IPost.mk HE.out (b_draws _ _)
end Go.Proofs.Ytkilnneepnbckaa.V

namespace Go.Proofs.Ytkilnneepnbckaa.V
open Go.RowKit

theorem OwnM.caps {w : World} {B n cap : Nat} {a : Option Addr} {R : List (List Int)} (h : OwnM w B (.slice a n cap) R) : n ≤ cap ∧ cap ≤ maxLen := by
  obtain ⟨V, h1, h2, _⟩ := h
  obtain ⟨a', c', hv, k1, k2, _⟩ := own_form h2
  injection hv with e1 e2 e3
  subst e2 e3
  exact ⟨k1, k2⟩
/-- One row of an owned matrix, as a list of its own. -/
theorem OwnM.row {w : World} {B n cap : Nat} {a : Option Addr} {R : List (List Int)} (h : OwnM w B (.slice a n cap) R) (i : Nat) (hi : i < n) :
    ∃ g ra rc, a = some ⟨g, 0, none⟩ ∧ w.cell? ⟨g, i, none⟩ = some (.slice ra (R.getD i []).length rc) ∧ Own w B (.slice ra (R.getD i []).length rc) (R.getD i []) := by
  have hl := h.len
  obtain ⟨V, h1, h2, h3, h4, h5⟩ := h
  obtain ⟨a', c', hv, hc, hm, hg⟩ := own_form h2
  injection hv with e1 e2 e3
  subst e1 e2 e3
  obtain ⟨g, rfl, hB, hlt⟩ := hg (by omega)
  have hr := h3 i (by omega)
  obtain ⟨ra, rc, hrv, _⟩ := own_form hr
  rw [hrv] at hr
  refine ⟨g, ra, rc, rfl, ?_, hr⟩
  rw [World.ownsRow.cellAt h2 i (by omega), ← hrv]
  simp [show i < V.length by omega]
theorem ownM_lit1 (w : World) (B : Nat) (hB : B ≤ w.heap.size) {rv : Value} {l : List Int} (ho : Own w B rv l) : OwnM (w.alloc (.cells #[rv] 28)) B (.slice (some ⟨w.heap.size, 0, none⟩) 1 1) [l] := by
  refine ⟨[rv], rfl, World.ownsRow_lit w #[rv] 1 hB (by decide) rfl, fun i hi => ?_, fun i hi k hk => ?_, fun i j hi hj hne => ?_⟩
  · obtain rfl : i = 0 := by simp at hi; omega
    exact ho.below (b_alloc w _)
  · obtain rfl : i = 0 := by simp at hi; omega
    have := (own_lt ho hk).2
    intro e
    simp only [Value.ownBlock, Option.some.injEq] at e
    omega
  · simp at hi hj; omega
/-- A part of one row. -/
theorem mat_sub {w : World} {b off n : Nat} {R : List (List Int)} (h : Mat w (some ⟨b, off, none⟩) n R) (k : Nat) (hk : k < n) : Mat w (some ⟨b, off + k, none⟩) 1 [R.getD k []] := by
  obtain ⟨h1, h2, h3⟩ := h
  refine ⟨rfl, by decide, .inr ?_⟩
  rcases h3 with h3 | ⟨b', off', e, hlt, hc⟩
  · omega
  · injection e with e
    injection e with e1 e2
    subst e1 e2
    refine ⟨b, off + k, rfl, hlt, fun i hi => ?_⟩
    obtain rfl : i = 0 := by omega
    obtain ⟨ra, rc, hr, hI⟩ := hc k hk
    exact ⟨ra, rc, hr, hI⟩
/-- The weights to a node, one row for each number of arcs. -/
def M.wtM (A : Nat → Nat → Int) (n t k : Nat) : List (List Int) := M.mk k n fun s j => M.cpw A n s t j
theorem M.wt_row (A : Nat → Nat → Int) (n t k s : Nat) (h : s < k) : (M.wtM A n t k).getD s [] = (List.range n).map fun j => M.cpw A n s t j := M.mk_row _ _ _ _ h
theorem M.wt_next (R : List (List Int)) (n t s : Nat) : (M.mk 1 n (fun i j => M.dot [(List.range n).map fun j => M.cpw (M.ent R) n s t j] R i j n)).getD 0 [] = (List.range n).map fun j => M.cpw (M.ent R) n (s + 1) t j := by
  rw [M.mk_row _ _ _ _ (by omega)]
  refine List.map_congr_left fun j _ => ?_
  unfold M.dot
  refine M.sumN_congr fun u hu => ?_
  congr 1
  unfold M.ent
  simp [hu]

set_option maxRecDepth 100000 in
set_option maxHeartbeats 1000000 in
theorem weightsTo (a : Option Addr) (n cap : Nat) (R : List (List Int)) (f t m : Nat) (y : Int) (w : World) (h : Sq w a n R) (hf : f < n) (ht : t < n) (hm : m ≤ 10) (hy : M.cpw (M.ent R) n m t f = y) (hlt : ∀ s, s < m → M.cpw (M.ent R) n s t f ≠ y) :
    Calls Try.prog 72 #[.slice a n cap, .int .i64 f, .int .i64 t, .int .i64 y] w (MPost (m + 1) (M.wtM (M.ent R) n t (m + 1)) w) := by
  have HS := Lib.hid h
  obtain ⟨n1, n2⟩ := h.2.2.2
  have HSm : Hid (∀ i j, i < n → j < n → M.Sm 1000001000000 (M.ent R i j)) := h.2.2.1
  have HRB : Hid (∀ i j, i < n → j < n → M.Big (M.ent R i j)) := fun i j hi hj => M.big_sm (HSm.out i j hi hj) (by omega)
  have HY := Lib.hid hy
  have HLT := Lib.hid hlt
  have hti : (t : Int) < (n : Int) := by omega
  have hfi : (f : Int) < (n : Int) := by omega
  clear h hy hlt
  go_enter Try.func72, Try.ntmps72
  go_wp2_with fail
  refine (unitOf n _ n1 n2).mono ?_
  rintro e w1 ⟨a1, c1, rfl, hO, hb⟩
  obtain ⟨g1, ra, rc, rfl, hc1, hr1⟩ := hO.row t ht
  have erow : (M.unitM n).getD t [] = (List.range n).map fun j => M.cpw (M.ent R) n 0 t j := M.mk_row _ _ _ _ ht
  rw [erow] at hr1 hc1
  rw [List.length_map, List.length_range] at hr1 hc1
  have HO0 : Hid (OwnM (w1.alloc (.cells #[.slice ra n rc] 28)) w.heap.size (.slice (some ⟨w1.heap.size, 0, none⟩) 1 1) (M.wtM (M.ent R) n t 1)) := ownM_lit1 w1 _ hb.size hr1
  have HB0 : Hid (Below w.heap.size w (w1.alloc (.cells #[.slice ra n rc] 28))) := hb.alloc hb.size _
  clear hO hb hr1 erow
  go_wp2
  clear hc1
  go_loopw [9, 10] (fun o _ wr => ∃ (s : Nat) (b : Option Addr) (c : Nat), s ≤ m ∧ o = .slice b (s + 1) c ∧ OwnM wr w.heap.size (.slice b (s + 1) c) (M.wtM (M.ent R) n t (s + 1)) ∧ Below w.heap.size w wr) (fun o _ _ => match o with | .slice _ k _ => m + 1 - k | _ => 0)
  case atStart => exact ⟨0, _, _, Nat.zero_le _, rfl, HO0.out, HB0.out⟩
  case round =>
    obtain ⟨s, b, c, hs, rfl, hO, hb⟩ := hrel
    obtain ⟨wo, rfl⟩ : ∃ x, x = wr := ⟨_, rfl⟩
    have HO := Lib.hid hO
    have HB := Lib.hid hb
    have hzo : w.heap.size ≤ wo.heap.size := hb.size
    obtain ⟨g, rr, rrc, rfl, hcr, hrow⟩ := hO.row s (by omega)
    rw [M.wt_row _ _ _ _ _ (Nat.lt_succ_self s), List.length_map, List.length_range] at hcr hrow
    obtain ⟨d, od, x, hd, -, hx, cx⟩ := hrow.ints'.at f hf
    have hx2 : x = M.cpw (M.ent R) n s t f := by rw [hx]; simp [hf]
    have HX := Lib.hid hx2
    have hd2 : rr = some ⟨d, od, none⟩ := hd
    subst hd2
    have hcp := hO.caps
    obtain ⟨hcp1, hcp2⟩ := hcp
    have hcs : ¬ c = s := by omega
    unfold maxLen at hcp2
    have hi1 : ((s : Int) + 1 - 1) = (s : Int) := by omega
    clear hO hb HO0 HB0 hx hx2
    by_cases hlt : s < m
    · have hne : (x == y) = false := by
        have := HLT.out s hlt
        rw [← HX.out] at this
        simpa using this
      have HL1 : Hid (Mat wo (some ⟨g, 0 + s, none⟩) 1 [(List.range n).map fun j => M.cpw (M.ent R) n s t j]) := by
        have := mat_sub HO.out.mat s (by omega)
        rw [M.wt_row _ _ _ _ _ (Nat.lt_succ_self s)] at this
        exact this
      have HLR : Hid (Rect [(List.range n).map fun j => M.cpw (M.ent R) n s t j] 1 n) := by
        refine ⟨rfl, fun i hi => ?_⟩
        obtain rfl : i = 0 := by omega
        simp
      have HLB : Hid (∀ i k, i < 1 → k < n → M.Big (M.ent [(List.range n).map fun j => M.cpw (M.ent R) n s t j] i k)) := fun i k hi hk => by
        obtain rfl : i = 0 := by omega
        have e : M.ent [(List.range n).map fun j => M.cpw (M.ent R) n s t j] 0 k = M.cpw (M.ent R) n s t k := by simp [M.ent, hk]
        rw [e]
        exact M.big_sm (M.cpw_sm HSm.out s t k ht hk) (by omega)
      rw [Nat.zero_add] at HL1
      go_wp2_with fail
      refine (maxPlus _).mono ?_
      rintro e w2 ⟨rfl, hb2⟩
      have HBx2 := Lib.hid hb2
      have HB2 := Lib.hid (bnext HB.out hb2)
      clear hb2 hcr cx
      go_wp2_with fail
      refine (multipliedB _ _ _ n _ _ _ n R _ (HL1.out.below HBx2.out) (HS.out.1.below HB2.out) HLR.out HS.out.2.1 HLB.out HRB.out (by omega) (by omega) n1 n2 n1 n2).mono ?_
      rintro e w3 ⟨a3, c3, rfl, hP, hb3⟩
      obtain ⟨g3, r3, rc3, rfl, hc3, hr3⟩ := hP.row 0 (by omega)
      rw [M.wt_next, List.length_map, List.length_range] at hc3 hr3
      have HR3 := Lib.hid (hr3.mono HBx2.out.size)
      have HBx3 := Lib.hid (bnext HBx2.out hb3)
      clear hP hb3 hr3
      have hml : (M.wtM (M.ent R) n t (s + 1)).length = s + 1 := M.mk_length _ _ _
      have HML := Lib.hid hml
      have HAS : Hid (M.wtM (M.ent R) n t (s + 1) ++ [(List.range n).map fun j => M.cpw (M.ent R) n (s + 1) t j] = M.wtM (M.ent R) n t (s + 1 + 1)) := (M.mk_snoc _ _ _).symm
      clear hml
      go_wp2_with (at_builtin; refine appendRow wo _ rfl (.tmp 34) (.tmp 41) rfl w.heap.size _ _ _ _ (s + 1) HML.out rfl HO.out HBx3.out HR3.out rfl (by rw [HML.out]; omega) hzo ?_)
      intro b4 c4 w4 hO4 hb4 _
      rw [HAS.out] at hO4
      have HO4 := Lib.hid hO4
      have HB4 := Lib.hid ((HB.out.trans (HBx3.out.mono hzo)).trans hb4)
      clear hO4 hb4
      go_wp2
      go_roundw
      case rel => exact ⟨s + 1, _, _, by omega, rfl, HO4.out, HB4.out⟩
      case measure => simp; omega
    · obtain rfl : s = m := by omega
      have he : x = y := by rw [HX.out]; exact HY.out
      subst he
      go_wp2
      go_ret
      exact ⟨_, _, rfl, HO.out, HB.out⟩

theorem fld1h (w : World) (f g : Fn) : (Instr.field 62 (.agg #[.func f #[] #[], .func g #[] #[]]) 1).run Try.prog w = .ok (.func g #[] #[]) w := by
  simp [Instr.field, part, asAgg, go_sem]
set_option maxRecDepth 100000 in
set_option maxHeartbeats 1000000 in
theorem nextNode (a : Option Addr) (n cap : Nat) (R : List (List Int)) (x m : Nat) (a' : Option Addr) (cap' : Nat) (l : List Int) (y : Int) (w : World) (h : Sq w a n R) (h' : Ints .i64 w a' n l) (hx : x < n) (hm : m < n) (hl : ∀ k, k < n → M.Big (l.getD k 0))
    (hy : M.times (l.getD m 0) (M.ent R m x) = y) (hlt : ∀ v, v < m → M.times (l.getD v 0) (M.ent R v x) ≠ y) :
    Calls Try.prog 73 #[.slice a n cap, .int .i64 x, .slice a' n cap', .int .i64 y] w fun e w' => e = .returned (.int .i64 m) ∧ Below w.heap.size w w' := by
  have HS := Lib.hid h
  have HI := Lib.hid h'
  have HLB := Lib.hid hl
  have HY := Lib.hid hy
  have HLT := Lib.hid hlt
  obtain ⟨n1, n2⟩ := h.2.2.2
  obtain ⟨b', off', z0, rfl, -, -, -⟩ := h'.at 0 (by omega)
  obtain ⟨b, off, ra, rc, rfl, -, -⟩ := h.1.rect_first h.2.1 h.2.2.2.1
  have hxi : (x : Int) < (n : Int) := by omega
  have hfld := fld1h
  clear h h' hl hy hlt
  go_enter Try.func73, Try.ntmps73
  go_wp2_with fail
  refine (maxPlus _).mono ?_
  rintro e w1 ⟨rfl, hb1⟩
  have HB1 := Lib.hid hb1
  clear hb1
  go_wp2
  clear hfld
  go_loopw [10] (fun i wr => ∃ v : Nat, v ≤ m ∧ i = .int .i64 v ∧ ∃ q, wr = w1.drewN q) (fun i _ => n - (intOf i).toNat)
  case atStart => exact ⟨0, Nat.zero_le _, rfl, 0, rfl⟩
  case round =>
    obtain ⟨v, hv, rfl, q2, rfl⟩ := hrel
    have hvn : v < n := by omega
    have hvi : (v : Int) < (n : Int) := by omega
    obtain ⟨d, od, p, hdd, -, hp, c1⟩ := (HI.out.below HB1.out).at v hvn
    injection hdd with hdd
    injection hdd with e1 e2
    subst e1 e2
    obtain ⟨d, od, rd, rdo, c4, z, hdd, hz, c41, c42⟩ := (HS.out.1.below HB1.out).rect_ent HS.out.2.1 v x hvn hx
    injection hdd with hdd
    injection hdd with e1 e2
    subst e1 e2
    have HP : Hid (M.Big p) := by show M.Big _; rw [hp]; exact HLB.out v hvn
    have HZ : Hid (M.Big z) := by show M.Big _; rw [hz]; exact M.big_sm (HS.out.2.2.1 v x hvn hx) (by omega)
    obtain ⟨u, hu⟩ : ∃ u, u = M.times p z := ⟨_, rfl⟩
    have HU : Hid (u = M.times (l.getD v 0) (M.ent R v x)) := by show _ = _; rw [hu, hp, hz]
    have HC1 : ∀ w : World, Calls Try.prog 110 #[.int .i64 p, .int .i64 z] w fun e w' => e = .returned (.int .i64 u) ∧ w = w' := by
      intro w
      rw [hu]
      exact clTimes _ _ _ HP.out HZ.out
    clear hp hz hu
    by_cases hvm : v < m
    · have hne : (u == y) = false := by
        have := HLT.out v hvm
        rw [← HU.out] at this
        simpa using this
      have hne2 : (u != y) = true := by simpa using hne
      go_wp2
      go_quiet ((go_at_call 110; exact q_more_s (HC1 _)))
      go_wp2
      go_roundw
      case rel => exact ⟨v + 1, by omega, by go_num, _, rfl⟩
      case measure => simp [intOf]; omega
    · obtain rfl : v = m := by omega
      obtain rfl : u = y := by rw [HU.out]; exact HY.out
      go_wp2
      go_quiet ((go_at_call 110; exact q_more_s (HC1 _)))
      go_wp2
      go_ret
      exact ⟨rfl, below_drewN (below_drewN HB1.out _) _⟩
end Go.Proofs.Ytkilnneepnbckaa.V
