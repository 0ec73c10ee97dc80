/- Texts laid together: Pth6. -/
import Derived.Test.YthonlfjjgmmnpabQg10
namespace Go.Proofs.Ythonlfjjgmmnpab.V
open Go.RowKit

/-- Two integers are returned, and nothing that was there is changed. -/
def IPost (r : Int × Int) (w : World) (e : Ending) (w' : World) : Prop := e = .returned (.tuple #[.int .i64 r.1, .int .i64 r.2]) ∧ Below w.heap.size w w'
theorem IPost.mk {r : Int × Int} {x y : Int} {w w' : World} (h : r = (x, y)) (hb : Below w.heap.size w w') : IPost r w (.returned (.tuple #[.int .i64 x, .int .i64 y])) w' := by
  subst h; exact ⟨rfl, hb⟩
def BPost (b : Bool) (w : World) (e : Ending) (w' : World) : Prop := e = .returned (.bool b) ∧ Below w.heap.size w w'


end Go.Proofs.Ythonlfjjgmmnpab.V

namespace Go.Proofs.Ythonlfjjgmmnpab.V
open Go.RowKit

set_option maxRecDepth 100000 in
set_option maxHeartbeats 1000000 in
theorem isCycle (a : Option Addr) (n cap : Nat) (R : List (List Int)) (a' : Option Addr) (N cap' : Nat) (l : List Int) (w : World) (h : Mat w a n R) (h' : Ints .i64 w a' N l) (hc1 : N ≤ cap') (hc2 : cap' ≤ maxLen) :
    Calls Try.prog 99 #[.slice a n cap, .slice a' N cap'] w (BPost (M.isCycB R l) w) := by
  have HM := Lib.hid hc2
  have hm := h'.2.1
  unfold maxLen at hc2 hm
  have HA := Lib.hid h
  have HI := Lib.hid h'
  have HL := Lib.hid h'.1
  have HR := Lib.hid h.1
  by_cases hs : M.sqB R = true
  · have HS := Lib.hid hs
    have HQ := Lib.hid (sq_of h hs)
    obtain ⟨-, -, -, n1, n2⟩ := sq_of h hs
    clear h h' hs
    by_cases h0 : N = 0
    · subst h0
      have HE : Hid (M.isCycB R l = false) := by show _ = _; unfold M.isCycB M.cycB; rw [HL.out]; simp
      go_enter Try.func99, Try.ntmps99
      go_wp2_with (go_at_call 44; refine (isSquare_b _ _ _ R _ true HS.out HA.out).mono ?_; rintro e w' ⟨rfl, rfl⟩)
      go_ret
      exact ⟨retB HE.out.symm, Below.refl _ _⟩
    · have d1 : 1 ≤ N := by omega
      by_cases hv : M.nodesB n l = true
      · have HV := Lib.hid hv
        clear hv
        obtain ⟨q, hq⟩ : ∃ q, q = M.diffB l := ⟨_, rfl⟩
        have HQd := Lib.hid hq
        have HC : Calls Try.prog 124 #[.slice a' N cap'] w fun e w' => e = .returned (.bool q) ∧ Below w.heap.size w w' := by
          rw [hq]
          exact areDifferent n _ _ _ _ _ HI.out HV.out n2
        clear hq
        cases q with
        | false =>
          have HE : Hid (M.isCycB R l = false) := by show _ = _; unfold M.isCycB M.cycB; rw [← HQd.out]; simp
          go_enter Try.func99, Try.ntmps99
          go_wp2_with (first | (go_at_call 44; refine (isSquare_b _ _ _ R _ true HS.out HA.out).mono ?_; rintro e w' ⟨rfl, rfl⟩) | (go_at_call 49; refine (areNodes_b _ n _ _ _ _ l _ true HV.out (by omega) HI.out).mono ?_; rintro e w' ⟨rfl, rfl⟩) | (go_at_call 124; refine HC.mono ?_; rintro e w1 ⟨rfl, hb⟩; have HB := Lib.hid hb; clear hb))
          go_ret
          exact ⟨retB HE.out.symm, HB.out⟩
        | true =>
          have hN : N ≤ n := by have := M.diffB_len HV.out HQd.out.symm; rw [HL.out] at this; exact this
          obtain ⟨y, hy⟩ : ∃ y, y = M.aroundW R l := ⟨_, rfl⟩
          have HY := Lib.hid hy
          have HC2 : ∀ w1, Below w.heap.size w w1 → Calls Try.prog 125 #[.slice a n cap, .slice a' N cap'] w1 fun e w' => e = .returned (.int .i64 y) ∧ ∃ q, w' = w1.drewN q := by
            intro w1 hb
            rw [hy]
            exact weightAround _ _ _ _ _ _ _ _ _ (HQ.out.below hb) (HI.out.below hb) HV.out hc1 HM.out d1 (by omega)
          clear hy
          by_cases hb : y = -1000000000000000
          · have HE : Hid (M.isCycB R l = false) := by show _ = _; unfold M.isCycB M.cycB; rw [← HY.out, hb]; simp
            subst hb
            go_enter Try.func99, Try.ntmps99
            go_wp2_with (first | (go_at_call 44; refine (isSquare_b _ _ _ R _ true HS.out HA.out).mono ?_; rintro e w' ⟨rfl, rfl⟩) | (go_at_call 49; refine (areNodes_b _ n _ _ _ _ l _ true HV.out (by omega) HI.out).mono ?_; rintro e w' ⟨rfl, rfl⟩) | (go_at_call 124; refine HC.mono ?_; rintro e w1 ⟨rfl, hb⟩; have HB := Lib.hid hb; clear hb) | (go_at_call 125; refine (HC2 _ HB.out).mono ?_; rintro e w' ⟨rfl, q, rfl⟩))
            go_ret
            exact ⟨retB HE.out.symm, below_drewN HB.out _⟩
          · have hb2 : (y == -1000000000000000) = false := by simpa using hb
            have hb3 : (y != -1000000000000000) = true := by simpa using hb
            have HE : Hid (M.isCycB R l = true) := by
              show _ = _; unfold M.isCycB M.cycB
              rw [← HY.out, HS.out, HR.out, HV.out, ← HQd.out, HL.out, decide_eq_true d1, decide_eq_true hb]; rfl
            clear hb
            go_enter Try.func99, Try.ntmps99
            go_wp2_with (first | (go_at_call 44; refine (isSquare_b _ _ _ R _ true HS.out HA.out).mono ?_; rintro e w' ⟨rfl, rfl⟩) | (go_at_call 49; refine (areNodes_b _ n _ _ _ _ l _ true HV.out (by omega) HI.out).mono ?_; rintro e w' ⟨rfl, rfl⟩) | (go_at_call 124; refine HC.mono ?_; rintro e w1 ⟨rfl, hb⟩; have HB := Lib.hid hb; clear hb) | (go_at_call 125; refine (HC2 _ HB.out).mono ?_; rintro e w' ⟨rfl, q, rfl⟩))
            go_ret
            exact ⟨retB HE.out.symm, below_drewN HB.out _⟩
      · simp only [Bool.not_eq_true] at hv
        have HV := Lib.hid hv
        have HE : Hid (M.isCycB R l = false) := by show _ = _; unfold M.isCycB M.cycB; rw [HR.out, HV.out]; simp
        clear hv
        go_enter Try.func99, Try.ntmps99
        go_wp2_with (first | (go_at_call 44; refine (isSquare_b _ _ _ R _ true HS.out HA.out).mono ?_; rintro e w' ⟨rfl, rfl⟩) | (go_at_call 49; refine (areNodes_b _ n _ _ _ _ l _ false HV.out (by omega) HI.out).mono ?_; rintro e w' ⟨rfl, rfl⟩))
        go_ret
        exact ⟨retB HE.out.symm, Below.refl _ _⟩
  · simp only [Bool.not_eq_true] at hs
    have HS := Lib.hid hs
    have HE : Hid (M.isCycB R l = false) := by show _ = _; unfold M.isCycB; rw [HS.out]; rfl
    clear h h' hs
    go_enter Try.func99, Try.ntmps99
    go_wp2_with (go_at_call 44; refine (isSquare_b _ _ _ R _ false HS.out HA.out).mono ?_; rintro e w' ⟨rfl, rfl⟩)
    go_ret
    exact ⟨retB HE.out.symm, Below.refl _ _⟩
theorem isCycle_b (a : Option Addr) (n cap : Nat) (R : List (List Int)) (a' : Option Addr) (N cap' : Nat) (l : List Int) (w : World) (b : Bool) (hb : M.isCycB R l = b) (h : Mat w a n R) (h' : Ints .i64 w a' N l) (hc1 : N ≤ cap') (hc2 : cap' ≤ maxLen) :
    Calls Try.prog 99 #[.slice a n cap, .slice a' N cap'] w fun e w' => e = .returned (.bool b) ∧ Below w.heap.size w w' := by
  subst hb; exact isCycle _ _ _ _ _ _ _ _ _ h h' hc1 hc2



end Go.Proofs.Ythonlfjjgmmnpab.V
