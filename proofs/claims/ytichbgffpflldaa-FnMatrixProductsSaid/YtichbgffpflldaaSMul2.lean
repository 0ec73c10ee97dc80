/- MultiplyMatrices, in the model: every case. -/
import Derived.Test.YtichbgffpflldaaRows
import Derived.Test.YtichbgffpflldaaMath1
import Derived.Test.YtichbgffpflldaaList
import Derived.Test.YtichbgffpflldaaMatM
import Derived.Test.YtichbgffpflldaaHelp
import Derived.Test.YtichbgffpflldaaRows0
import Derived.Test.YtichbgffpflldaaOwn
import Derived.Test.YtichbgffpflldaaMat0
import Derived.WalkKit
import Derived.ProofKit
import Derived.WalkSmall
import Derived.Deep.QuietTactic
import Derived.BigQuiet
import Derived.BigRegion
import Derived.Deep.Draws
import Derived.Lib.Hide
import Derived.OpenShut
import Derived.Deep.OwnRows
import Derived.Test.YtichbgffpflldaaVals0
import Derived.Test.YtichbgffpflldaaApp
import Derived.Test.YtichbgffpflldaaSBot
import Derived.Test.YtichbgffpflldaaVec
import Derived.Test.YtichbgffpflldaaIsMat
import Derived.StillTailTactics
import Derived.Test.YtichbgffpflldaaSMul
namespace Go.Proofs.Ytichbgffpflldaa.V
open Go.RowKit

set_option maxRecDepth 100000 in
set_option maxHeartbeats 1000000 in
theorem sMultiplyMatrices (a : Option Addr) (n cap : Nat) (R : List (List Int)) (a' : Option Addr) (n' cap' : Nat) (R' : List (List Int)) (w : World) (h : Mat w a n R) (h' : Mat w a' n' R') :
    Calls Try.prog 21 #[.slice a n cap, .slice a' n' cap'] w (MRes (M.mulRes R R') w) := by
  have HA := Lib.hid h
  have HA' := Lib.hid h'
  have HL := Lib.hid h.1
  have HL' := Lib.hid h'.1
  by_cases hR : M.isMat R = true
  · have HR := Lib.hid hR
    by_cases hR' : M.isMat R' = true
    · have HR' := Lib.hid hR'
      obtain ⟨m1, m2, c1, c2, -, -⟩ := M.isMat_t hR
      obtain ⟨m1', m2', c1', c2', -, -⟩ := M.isMat_t hR'
      have HT : Hid (Rect R n (M.wid R)) := by show Rect _ _ _; rw [← HL.out]; exact rect_mat hR
      have HT' : Hid (Rect R' n' (M.wid R')) := by show Rect _ _ _; rw [← HL'.out]; exact rect_mat hR'
      rw [HL.out] at m1 m2
      rw [HL'.out] at m1' m2'
      have HF : Hid (M.mulM R R' = M.mk n (M.wid R') (fun i j => M.dot R R' i j n')) := by show _ = _; unfold M.mulM; rw [HL.out, HL'.out]
      obtain ⟨b, off, ra, rc, rfl, -, hc⟩ := h.rect_first HT.out (by omega)
      by_cases hl : M.wid R = n'
      · have HE : Hid (M.mulRes R R' = if M.isMat (M.mulM R R') then (M.mulM R R', 0) else ([], 3)) := by
          show _ = _; unfold M.mulRes; rw [hR, hR', if_pos (by rfl), if_pos (by rw [hl, HL'.out])]
        rw [hl] at HT hc c1 c2
        generalize M.wid R' = L at c1' c2' HT' HF
        clear h h' hR hR' hl
        by_cases hM : M.isMat (M.mulM R R') = true
        · have HE2 : Hid (M.mulRes R R' = (M.mulM R R', 0)) := by show _ = _; rw [HE.out, if_pos hM]
          have HM := Lib.hid hM
          clear hM HE
          go_enter Try.func21, Try.ntmps21
          go_wp2_with fail
          refine (sIsMatrix_b _ _ _ R _ true HR.out (by exact HA.out)).mono ?_
          rintro e w' ⟨rfl, qq, rfl⟩
          go_wp2_with fail
          refine (sIsMatrix_b _ _ _ R' _ true HR'.out (by exact HA'.out)).mono ?_
          rintro e w' ⟨rfl, qq, rfl⟩
          go_wp2_with fail
          refine (sMultiply _ _ _ n' R _ _ L R' _ (by exact HA.out) (by exact HA'.out) HT.out HT'.out HR.out HR'.out m1 m2 c1 c2 c1' c2').mono ?_
          rintro e w2 ⟨a2, cap2, rfl, ho, hb2⟩
          have hO2 : OwnM w2 w.heap.size (.slice a2 n cap2) (M.mulM R R') := by rw [HF.out]; exact ho
          have HO2 := Lib.hid hO2
          have HB2 : Hid (Below w.heap.size w w2) := (b_draws w _).trans hb2
          clear ho hb2 hO2
          go_wp2_with fail
          refine (sIsMatrix_b _ _ _ (M.mulM R R') _ true HM.out (by exact HO2.out.mat)).mono ?_
          rintro e w' ⟨rfl, qq, rfl⟩
          go_wp2
          go_ret2
          rw [HE2.out]
          exact ⟨_, _, _, rfl, HO2.out.keep (fun _ _ _ => rfl), below_drewN HB2.out _⟩
        · simp only [Bool.not_eq_true] at hM
          have HE2 : Hid (M.mulRes R R' = ([], 3)) := by show _ = _; rw [HE.out, hM, if_neg (by simp)]
          have HM := Lib.hid hM
          clear hM HE
          go_enter Try.func21, Try.ntmps21
          go_wp2_with fail
          refine (sIsMatrix_b _ _ _ R _ true HR.out (by exact HA.out)).mono ?_
          rintro e w' ⟨rfl, qq, rfl⟩
          go_wp2_with fail
          refine (sIsMatrix_b _ _ _ R' _ true HR'.out (by exact HA'.out)).mono ?_
          rintro e w' ⟨rfl, qq, rfl⟩
          go_wp2_with fail
          refine (sMultiply _ _ _ n' R _ _ L R' _ (by exact HA.out) (by exact HA'.out) HT.out HT'.out HR.out HR'.out m1 m2 c1 c2 c1' c2').mono ?_
          rintro e w2 ⟨a2, cap2, rfl, ho, hb2⟩
          have hO2 : OwnM w2 w.heap.size (.slice a2 n cap2) (M.mulM R R') := by rw [HF.out]; exact ho
          have HO2 := Lib.hid hO2
          have HB2 : Hid (Below w.heap.size w w2) := (b_draws w _).trans hb2
          clear ho hb2 hO2
          go_wp2_with fail
          refine (sIsMatrix_b _ _ _ (M.mulM R R') _ false HM.out (by exact HO2.out.mat)).mono ?_
          rintro e w' ⟨rfl, qq, rfl⟩
          go_wp2
          go_ret2
          exact MRes.nil HE2.out (below_drewN HB2.out _)
      · have HE : Hid (M.mulRes R R' = ([], 5)) := by
          show _ = _; unfold M.mulRes; rw [hR, hR', if_pos (by rfl), if_neg (by rw [HL'.out]; exact hl)]
        generalize M.wid R = L at hl hc
        have hne : (L == n') = false := by simpa using hl
        have hne2 : (L != n') = true := by simpa using hl
        have hne3 : ((L : Int) != (n' : Int)) = true := by simp; omega
        clear h h' hR hR'
        go_enter Try.func21, Try.ntmps21
        go_wp2_with fail
        refine (sIsMatrix_b _ _ _ R _ true HR.out (by exact HA.out)).mono ?_
        rintro e w' ⟨rfl, qq, rfl⟩
        go_wp2_with fail
        refine (sIsMatrix_b _ _ _ R' _ true HR'.out (by exact HA'.out)).mono ?_
        rintro e w' ⟨rfl, qq, rfl⟩
        go_wp2
        go_ret2
        exact MRes.nil HE.out (b_draws _ _)
    · simp only [Bool.not_eq_true] at hR'
      have HE : Hid (M.mulRes R R' = ([], 1)) := by
        show _ = _; unfold M.mulRes; rw [hR, hR', if_neg (by simp)]
      have HR' := Lib.hid hR'
      clear h h' hR hR'
      go_enter Try.func21, Try.ntmps21
      go_wp2_with fail
      refine (sIsMatrix_b _ _ _ R _ true HR.out (by exact HA.out)).mono ?_
      rintro e w' ⟨rfl, qq, rfl⟩
      go_wp2_with fail
      refine (sIsMatrix_b _ _ _ R' _ false HR'.out (by exact HA'.out)).mono ?_
      rintro e w' ⟨rfl, qq, rfl⟩
      go_wp2
      go_ret2
      exact MRes.nil HE.out (b_draws _ _)
  · simp only [Bool.not_eq_true] at hR
    have HE : Hid (M.mulRes R R' = ([], 1)) := by
      show _ = _; unfold M.mulRes; rw [hR, if_neg (by simp)]
    have HR := Lib.hid hR
    clear h h' hR
    go_enter Try.func21, Try.ntmps21
    go_wp2_with fail
    refine (sIsMatrix_b _ _ _ R _ false HR.out (by exact HA.out)).mono ?_
    rintro e w' ⟨rfl, qq, rfl⟩
    go_wp2
    go_ret2
    exact MRes.nil HE.out (b_draws _ _)
end Go.Proofs.Ytichbgffpflldaa.V
