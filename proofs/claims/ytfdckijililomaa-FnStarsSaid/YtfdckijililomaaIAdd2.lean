/- The sum of two matrices, in the program: every case. -/
import Derived.Test.YtfdckijililomaaRows
import Derived.Test.YtfdckijililomaaMath1
import Derived.Test.YtfdckijililomaaList
import Derived.Test.YtfdckijililomaaMatM
import Derived.Test.YtfdckijililomaaHelp
import Derived.Test.YtfdckijililomaaRows0
import Derived.Test.YtfdckijililomaaOwn
import Derived.Test.YtfdckijililomaaMat0
import Derived.WalkKit
import Derived.ProofKit
import Derived.WalkSmall
import Derived.Deep.QuietTactic
import Derived.BigQuiet
import Derived.BigRegion
import Derived.Deep.Draws
import Derived.Lib.Hide
import Derived.OpenShut
import Derived.Deep.OwnRows
import Derived.Test.YtfdckijililomaaVals0
import Derived.Test.YtfdckijililomaaApp
import Derived.Test.YtfdckijililomaaSBot
import Derived.Test.YtfdckijililomaaVec
import Derived.Test.YtfdckijililomaaIsMat
import Derived.StillTailTactics
import Derived.Test.YtfdckijililomaaIAdd
namespace Go.Proofs.Ytfdckijililomaa.V
open Go.RowKit

set_option maxRecDepth 100000 in
set_option maxHeartbeats 1000000 in
theorem addMatrices (a : Option Addr) (n cap : Nat) (R : List (List Int)) (a' : Option Addr) (n' cap' : Nat) (R' : List (List Int)) (w : World) (h : Mat w a n R) (h' : Mat w a' n' R') :
    Calls Try.prog 78 #[.slice a n cap, .slice a' n' cap'] w (MRes (M.addRes R R') w) := by
  by_cases hR : M.isMat R = true
  · by_cases hR' : M.isMat R' = true
    · by_cases hl : n = n'
      · by_cases hw : M.wid R = M.wid R'
        · have e : M.addRes R R' = (M.addM R R', 0) := by
            unfold M.addRes; rw [hR, hR', if_pos (by rfl), if_pos ⟨by rw [h.1, h'.1, hl], hw⟩]
          rw [e]
          exact addMatrices_ok _ _ _ _ _ _ _ _ _ h h' hR hR' hl hw
        · have HE : Hid (M.addRes R R' = ([], 5)) := by
            show _ = _; unfold M.addRes; rw [hR, hR', if_pos (by rfl), if_neg (fun hh => hw hh.2)]
          subst hl
          have HA := Lib.hid h
          have HA' := Lib.hid h'
          have m1 := (M.isMat_t hR).1
          rw [h.1] at m1
          obtain ⟨b, off, ra, L, rc, rfl, hL, hc⟩ := h.first (by omega)
          obtain ⟨b', off', ra', L', rc', rfl, hL', hc'⟩ := h'.first (by omega)
          have hne : (L == L') = false := by rw [hL, hL']; simpa using hw
          have hne2 : (L != L') = true := by rw [hL, hL']; simpa using hw
          have HR := Lib.hid hR
          have HR' := Lib.hid hR'
          clear h h' hR hR' hw hL hL'
          go_enter Try.func78, Try.ntmps78
          go_wp2_with fail
          refine (isMatrix_b _ _ _ R _ true HR.out HA.out).mono ?_
          rintro e w' ⟨rfl, rfl⟩
          go_wp2_with fail
          refine (isMatrix_b _ _ _ R' _ true HR'.out HA'.out).mono ?_
          rintro e w' ⟨rfl, rfl⟩
          go_wp2_with fail
          go_quiet (fail)
          go_wp2
          go_ret2
          exact MRes.nil HE.out (b_draws _ _)
      · have HE : Hid (M.addRes R R' = ([], 5)) := by
          show _ = _; unfold M.addRes; rw [hR, hR', if_pos (by rfl), if_neg (fun hh => hl (by rw [← h.1, ← h'.1, hh.1]))]
        have HA := Lib.hid h
        have HA' := Lib.hid h'
        have HR := Lib.hid hR
        have HR' := Lib.hid hR'
        have hne : (n == n') = false := by simpa using hl
        have hne2 : (n != n') = true := by simpa using hl
        have hne3 : ((n : Int) != (n' : Int)) = true := by simp; omega
        clear h h' hR hR'
        go_enter Try.func78, Try.ntmps78
        go_wp2_with fail
        refine (isMatrix_b _ _ _ R _ true HR.out HA.out).mono ?_
        rintro e w' ⟨rfl, rfl⟩
        go_wp2_with fail
        refine (isMatrix_b _ _ _ R' _ true HR'.out HA'.out).mono ?_
        rintro e w' ⟨rfl, rfl⟩
        go_wp2_with fail
        go_quiet (fail)
        go_wp2
        go_ret2
        exact MRes.nil HE.out (b_draws _ _)
    · simp only [Bool.not_eq_true] at hR'
      have HE : Hid (M.addRes R R' = ([], 1)) := by
        show _ = _; unfold M.addRes; rw [hR, hR', if_neg (by simp)]
      have HA := Lib.hid h
      have HA' := Lib.hid h'
      have HR := Lib.hid hR
      have HR' := Lib.hid hR'
      clear h h' hR hR'
      go_enter Try.func78, Try.ntmps78
      go_wp2_with fail
      refine (isMatrix_b _ _ _ R _ true HR.out HA.out).mono ?_
      rintro e w' ⟨rfl, rfl⟩
      go_wp2_with fail
      refine (isMatrix_b _ _ _ R' _ false HR'.out HA'.out).mono ?_
      rintro e w' ⟨rfl, rfl⟩
      go_wp2
      go_ret2
      exact MRes.nil HE.out (Below.refl _ _)
  · simp only [Bool.not_eq_true] at hR
    have HE : Hid (M.addRes R R' = ([], 1)) := by
      show _ = _; unfold M.addRes; rw [hR, if_neg (by simp)]
    have HA := Lib.hid h
    have HR := Lib.hid hR
    clear h h' hR
    go_enter Try.func78, Try.ntmps78
    go_wp2_with fail
    refine (isMatrix_b _ _ _ R _ false HR.out HA.out).mono ?_
    rintro e w' ⟨rfl, rfl⟩
    go_wp2
    go_ret2
    exact MRes.nil HE.out (Below.refl _ _)
end Go.Proofs.Ytfdckijililomaa.V
