/- PathWeight, IsCycle and CycleWeight, in the program and in the model: every case. -/
import Derived.Test.YtichbgffpflldaaPth4
namespace Go.Proofs.Ytichbgffpflldaa.V
open Go.RowKit

/-- Two integers are returned, and nothing that was there is changed. -/
def IPost (r : Int × Int) (w : World) (e : Ending) (w' : World) : Prop := e = .returned (.tuple #[.int .i64 r.1, .int .i64 r.2]) ∧ Below w.heap.size w w'
theorem IPost.mk {r : Int × Int} {x y : Int} {w w' : World} (h : r = (x, y)) (hb : Below w.heap.size w w') : IPost r w (.returned (.tuple #[.int .i64 x, .int .i64 y])) w' := by
  subst h; exact ⟨rfl, hb⟩
def BPost (b : Bool) (w : World) (e : Ending) (w' : World) : Prop := e = .returned (.bool b) ∧ Below w.heap.size w w'

set_option maxRecDepth 100000 in
set_option maxHeartbeats 1000000 in
theorem pathWeight (a : Option Addr) (n cap : Nat) (R : List (List Int)) (a' : Option Addr) (N cap' : Nat) (l : List Int) (w : World) (h : Mat w a n R) (h' : Ints .i64 w a' N l) (hc1 : N ≤ cap') (hc2 : cap' ≤ maxLen) :
    Calls Try.prog 46 #[.slice a n cap, .slice a' N cap'] w (IPost (M.pathRes R l) w) := by
  have HM := Lib.hid hc2
  have hm := h'.2.1
  unfold maxLen at hc2 hm
  have HA := Lib.hid h
  have HI := Lib.hid h'
  have HL := Lib.hid h'.1
  have HR := Lib.hid h.1
  by_cases hs : M.sqB R = true
  · have HS := Lib.hid hs
    have HQ := Lib.hid (sq_of h hs)
    obtain ⟨-, -, -, n1, n2⟩ := sq_of h hs
    clear h h' hs
    by_cases h0 : N = 0
    · subst h0
      have HE : Hid (M.pathRes R l = (0, 2)) := by show _ = _; unfold M.pathRes; rw [HS.out, HL.out]; simp
      go_enter Try.func46, Try.ntmps46
      go_wp2_with (go_at_call 82; refine (isSquare_b _ _ _ R _ true HS.out HA.out).mono ?_; rintro e w' ⟨rfl, rfl⟩)
      go_ret2
      exact IPost.mk HE.out (Below.refl _ _)
    · by_cases h1 : 100 < N
      · have HE : Hid (M.pathRes R l = (0, 2)) := by show _ = _; unfold M.pathRes; rw [HS.out, HL.out, if_pos rfl, if_neg (by omega)]
        have d1 : 1 ≤ N := by omega
        have d2 : (100 : Int) < (N : Int) := by omega
        go_enter Try.func46, Try.ntmps46
        go_wp2_with (go_at_call 82; refine (isSquare_b _ _ _ R _ true HS.out HA.out).mono ?_; rintro e w' ⟨rfl, rfl⟩)
        go_ret2
        exact IPost.mk HE.out (Below.refl _ _)
      · have d1 : 1 ≤ N := by omega
        have d2 : N ≤ 100 := by omega
        have d3 : (N : Int) ≤ 100 := by omega
        by_cases hv : M.nodesB n l = true
        · have HV := Lib.hid hv
          clear hv
          obtain ⟨y, hy⟩ : ∃ y, y = M.alongW R l := ⟨_, rfl⟩
          have HY := Lib.hid hy
          have HC : Calls Try.prog 101 #[.slice a n cap, .slice a' N cap'] w fun e w' => e = .returned (.int .i64 y) ∧ ∃ q, w' = w.drewN q := by
            rw [hy]
            exact weightAlong _ _ _ _ _ _ _ _ _ HQ.out HI.out HV.out hc1 HM.out d1 (by omega)
          clear hy
          by_cases hb : y = -1000000000000000
          · have HE : Hid (M.pathRes R l = (0, 4)) := by
              show _ = _; unfold M.pathRes; rw [HS.out, HL.out, if_pos rfl, HR.out, if_pos ⟨d1, d2, HV.out⟩, ← HY.out, if_pos hb]
            subst hb
            go_enter Try.func46, Try.ntmps46
            go_wp2_with (first | (go_at_call 82; refine (isSquare_b _ _ _ R _ true HS.out HA.out).mono ?_; rintro e w' ⟨rfl, rfl⟩) | (go_at_call 94; refine (areNodes_b _ n _ _ _ _ l _ true HV.out (by omega) HI.out).mono ?_; rintro e w' ⟨rfl, rfl⟩) | (go_at_call 101; refine HC.mono ?_; rintro e w' ⟨rfl, q, rfl⟩))
            go_ret2
            exact IPost.mk HE.out (b_draws _ _)
          · have hb2 : (y == -1000000000000000) = false := by simpa using hb
            have HE : Hid (M.pathRes R l = M.chk y) := by
              show _ = _; unfold M.pathRes; rw [HS.out, HL.out, if_pos rfl, HR.out, if_pos ⟨d1, d2, HV.out⟩, ← HY.out, if_neg hb]
            clear hb
            go_enter Try.func46, Try.ntmps46
            go_wp2_with (first | (go_at_call 82; refine (isSquare_b _ _ _ R _ true HS.out HA.out).mono ?_; rintro e w' ⟨rfl, rfl⟩) | (go_at_call 94; refine (areNodes_b _ n _ _ _ _ l _ true HV.out (by omega) HI.out).mono ?_; rintro e w' ⟨rfl, rfl⟩) | (go_at_call 101; refine HC.mono ?_; rintro e w' ⟨rfl, q, rfl⟩) | (go_at_call 102; refine (checked _ _).mono ?_; rintro e w' ⟨rfl, rfl⟩))
            go_ret2
            exact IPost.mk HE.out (b_draws _ _)
        · simp only [Bool.not_eq_true] at hv
          have HV := Lib.hid hv
          have HE : Hid (M.pathRes R l = (0, 2)) := by show _ = _; unfold M.pathRes; rw [HS.out, HR.out, HV.out]; simp
          clear hv
          go_enter Try.func46, Try.ntmps46
          go_wp2_with (first | (go_at_call 82; refine (isSquare_b _ _ _ R _ true HS.out HA.out).mono ?_; rintro e w' ⟨rfl, rfl⟩) | (go_at_call 94; refine (areNodes_b _ n _ _ _ _ l _ false HV.out (by omega) HI.out).mono ?_; rintro e w' ⟨rfl, rfl⟩))
          go_ret2
          exact IPost.mk HE.out (Below.refl _ _)
  · simp only [Bool.not_eq_true] at hs
    have HS := Lib.hid hs
    have HE : Hid (M.pathRes R l = (0, 1)) := by show _ = _; unfold M.pathRes; rw [HS.out]; rfl
    clear h h' hs
    go_enter Try.func46, Try.ntmps46
    go_wp2_with (go_at_call 82; refine (isSquare_b _ _ _ R _ false HS.out HA.out).mono ?_; rintro e w' ⟨rfl, rfl⟩)
    go_ret2
    exact IPost.mk HE.out (Below.refl _ _)

set_option maxRecDepth 100000 in
set_option maxHeartbeats 1000000 in
theorem sPathWeight (a : Option Addr) (n cap : Nat) (R : List (List Int)) (a' : Option Addr) (N cap' : Nat) (l : List Int) (w : World) (h : Mat w a n R) (h' : Ints .i64 w a' N l) :
    Calls Try.prog 47 #[.slice a n cap, .slice a' N cap'] w (IPost (M.pathRes R l) w) := by
  have hm := h'.2.1
  unfold maxLen at hm
  have HA := Lib.hid h
  have HI := Lib.hid h'
  have HL := Lib.hid h'.1
  have HR := Lib.hid h.1
  by_cases hs : M.sqB R = true
  · have HS := Lib.hid hs
    have HQ := Lib.hid (sq_of h hs)
    obtain ⟨-, -, -, n1, n2⟩ := sq_of h hs
    clear h h' hs
    by_cases h0 : N = 0
    · subst h0
      have HE : Hid (M.pathRes R l = (0, 2)) := by show _ = _; unfold M.pathRes; rw [HS.out, HL.out]; simp
      go_enter Try.func47, Try.ntmps47
      go_wp2_with (go_at_call 85; refine (sSquare_b _ _ _ R _ true HS.out HA.out).mono ?_; rintro e w' ⟨rfl, q, rfl⟩)
      go_ret2
      exact IPost.mk HE.out (b_draws _ _)
    · by_cases h1 : 100 < N
      · have HE : Hid (M.pathRes R l = (0, 2)) := by show _ = _; unfold M.pathRes; rw [HS.out, HL.out, if_pos rfl, if_neg (by omega)]
        have d1 : 1 ≤ N := by omega
        have d2 : (100 : Int) < (N : Int) := by omega
        go_enter Try.func47, Try.ntmps47
        go_wp2_with (go_at_call 85; refine (sSquare_b _ _ _ R _ true HS.out HA.out).mono ?_; rintro e w' ⟨rfl, q, rfl⟩)
        go_ret2
        exact IPost.mk HE.out (b_draws _ _)
      · have d1 : 1 ≤ N := by omega
        have d2 : N ≤ 100 := by omega
        have d3 : (N : Int) ≤ 100 := by omega
        by_cases hv : M.nodesB n l = true
        · have HV := Lib.hid hv
          clear hv
          obtain ⟨r, hr⟩ : ∃ r, r = M.walkR R l := ⟨_, rfl⟩
          have HW := Lib.hid hr
          have HC : ∀ q, Calls Try.prog 104 #[.slice a n cap, .slice a' N cap'] (w.drewN q) fun e w' => e = .returned (.tuple #[.int .i64 r.1, .bool r.2]) ∧ ∃ q2, w' = (w.drewN q).drewN q2 := by
            intro q
            rw [hr]
            exact sWalk _ _ _ _ _ _ _ _ _ (HQ.out.below (b_draws _ _)) (HI.out.below (b_draws _ _)) HV.out d1 (by omega)
          clear hr
          obtain ⟨y, ok⟩ := r
          cases ok with
          | false =>
            have HE : Hid (M.pathRes R l = (0, 4)) := by
              show _ = _
              have e := HW.out
              unfold M.walkR at e
              unfold M.pathRes
              rw [HS.out, HL.out, if_pos rfl, HR.out, if_pos ⟨d1, d2, HV.out⟩]
              by_cases hb : M.alongW R l = -1000000000000000
              · rw [if_pos hb]
              · rw [if_neg hb] at e; simp at e
            go_enter Try.func47, Try.ntmps47
            go_wp2_with (first | (go_at_call 85; refine (sSquare_b _ _ _ R _ true HS.out HA.out).mono ?_; rintro e w' ⟨rfl, q, rfl⟩) | (go_at_call 103; refine (sNodes_b _ n _ _ _ _ l _ true HV.out (by omega) (HI.out.below (b_draws _ _))).mono ?_; rintro e w' ⟨rfl, rfl⟩) | (go_at_call 104; refine (HC _).mono ?_; rintro e w' ⟨rfl, q2, rfl⟩))
            go_ret2
            exact IPost.mk HE.out (b_draws _ _)
          | true =>
            have HE : Hid (M.pathRes R l = M.chk y) := by
              show _ = _
              have e := HW.out
              unfold M.walkR at e
              unfold M.pathRes
              rw [HS.out, HL.out, if_pos rfl, HR.out, if_pos ⟨d1, d2, HV.out⟩]
              by_cases hb : M.alongW R l = -1000000000000000
              · rw [if_pos hb] at e; simp at e
              · rw [if_neg hb] at e ⊢; simp at e; rw [e]
            go_enter Try.func47, Try.ntmps47
            go_wp2_with (first | (go_at_call 85; refine (sSquare_b _ _ _ R _ true HS.out HA.out).mono ?_; rintro e w' ⟨rfl, q, rfl⟩) | (go_at_call 103; refine (sNodes_b _ n _ _ _ _ l _ true HV.out (by omega) (HI.out.below (b_draws _ _))).mono ?_; rintro e w' ⟨rfl, rfl⟩) | (go_at_call 104; refine (HC _).mono ?_; rintro e w' ⟨rfl, q2, rfl⟩) | (go_at_call 105; refine (sValue _ _).mono ?_; rintro e w' ⟨rfl, rfl⟩))
            go_ret2
            exact IPost.mk HE.out (b_draws _ _)
        · simp only [Bool.not_eq_true] at hv
          have HV := Lib.hid hv
          have HE : Hid (M.pathRes R l = (0, 2)) := by show _ = _; unfold M.pathRes; rw [HS.out, HR.out, HV.out]; simp
          clear hv
          go_enter Try.func47, Try.ntmps47
          go_wp2_with (first | (go_at_call 85; refine (sSquare_b _ _ _ R _ true HS.out HA.out).mono ?_; rintro e w' ⟨rfl, q, rfl⟩) | (go_at_call 103; refine (sNodes_b _ n _ _ _ _ l _ false HV.out (by omega) (HI.out.below (b_draws _ _))).mono ?_; rintro e w' ⟨rfl, rfl⟩))
          go_ret2
          exact IPost.mk HE.out (b_draws _ _)
  · simp only [Bool.not_eq_true] at hs
    have HS := Lib.hid hs
    have HE : Hid (M.pathRes R l = (0, 1)) := by show _ = _; unfold M.pathRes; rw [HS.out]; rfl
    clear h h' hs
    go_enter Try.func47, Try.ntmps47
    go_wp2_with (go_at_call 85; refine (sSquare_b _ _ _ R _ false HS.out HA.out).mono ?_; rintro e w' ⟨rfl, q, rfl⟩)
    go_ret2
    exact IPost.mk HE.out (b_draws _ _)
end Go.Proofs.Ytichbgffpflldaa.V
