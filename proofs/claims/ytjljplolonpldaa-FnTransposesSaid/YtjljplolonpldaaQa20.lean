/- Texts laid together: IMul2, SMul2, DrawMM, Dice, Pow, MatT. -/
import Derived.Test.YtjljplolonpldaaRows
import Derived.Test.YtjljplolonpldaaQa1
import Derived.Test.YtjljplolonpldaaQa2
import Derived.Test.YtjljplolonpldaaQa3
import Derived.WalkKit
import Derived.ProofKit
import Derived.WalkSmall
import Derived.Deep.QuietTactic
import Derived.BigQuiet
import Derived.BigRegion
import Derived.Deep.Draws
import Derived.Lib.Hide
import Derived.OpenShut
import Derived.Deep.OwnRows
import Derived.Test.YtjljplolonpldaaQa4
import Derived.StillTailTactics
import Derived.Test.YtjljplolonpldaaQa16
import Derived.Deep.RegionHeld3
import Derived.Test.YtjljplolonpldaaQa17
import Derived.Deep.RegionWith
import Derived.IntWalk
import Derived.Conc.WgArith
import Derived.Laws.BitsLemmas
import Derived.Test.YtjljplolonpldaaQa10
set_option linter.unusedSimpArgs false
set_option linter.unusedVariables false
set_option linter.unusedSectionVars false
namespace Go.Proofs.Ytjljplolonpldaa.V
open Go.RowKit

set_option maxRecDepth 100000 in
set_option maxHeartbeats 1000000 in
theorem multiplyMatrices (a : Option Addr) (n cap : Nat) (R : List (List Int)) (a' : Option Addr) (n' cap' : Nat) (R' : List (List Int)) (w : World) (h : Mat w a n R) (h' : Mat w a' n' R') :
    Calls Try.prog 47 #[.slice a n cap, .slice a' n' cap'] w (MRes (M.mulRes R R') w) := by
  have HA := Lib.hid h
  have HA' := Lib.hid h'
  have HL := Lib.hid h.1
  have HL' := Lib.hid h'.1
  by_cases hR : M.isMat R = true
  · have HR := Lib.hid hR
    by_cases hR' : M.isMat R' = true
    · have HR' := Lib.hid hR'
      obtain ⟨m1, m2, c1, c2, -, -⟩ := M.isMat_t hR
      obtain ⟨m1', m2', c1', c2', -, -⟩ := M.isMat_t hR'
      have HT : Hid (Rect R n (M.wid R)) := by show Rect _ _ _; rw [← HL.out]; exact rect_mat hR
      have HT' : Hid (Rect R' n' (M.wid R')) := by show Rect _ _ _; rw [← HL'.out]; exact rect_mat hR'
      rw [HL.out] at m1 m2
      rw [HL'.out] at m1' m2'
      have HF : Hid (M.mulM R R' = M.mk n (M.wid R') (fun i j => M.dot R R' i j n')) := by show _ = _; unfold M.mulM; rw [HL.out, HL'.out]
      obtain ⟨b, off, ra, rc, rfl, -, hc⟩ := h.rect_first HT.out (by omega)
      by_cases hl : M.wid R = n'
      · have HE : Hid (M.mulRes R R' = if M.isMat (M.mulM R R') then (M.mulM R R', 0) else ([], 3)) := by
          show _ = _; unfold M.mulRes; rw [hR, hR', if_pos (by rfl), if_pos (by rw [hl, HL'.out])]
        rw [hl] at HT hc c1 c2
        generalize M.wid R' = L at c1' c2' HT' HF
        clear h h' hR hR' hl
        by_cases hM : M.isMat (M.mulM R R') = true
        · have HE2 : Hid (M.mulRes R R' = (M.mulM R R', 0)) := by show _ = _; rw [HE.out, if_pos hM]
          have HM := Lib.hid hM
          clear hM HE
          go_enter Try.func47, Try.ntmps47
          go_wp2_with fail
          refine (isMatrix_b _ _ _ R _ true HR.out HA.out).mono ?_
          rintro e w' ⟨rfl, rfl⟩
          go_wp2_with fail
          refine (isMatrix_b _ _ _ R' _ true HR'.out HA'.out).mono ?_
          rintro e w' ⟨rfl, rfl⟩
          go_wp2_with fail
          refine (maxPlus _).mono ?_
          rintro e w1 ⟨rfl, hb1⟩
          have HB1 := Lib.hid hb1
          clear hb1
          go_wp2_with fail
          refine (multiplied _ _ _ n' R _ _ L R' _ (HA.out.below HB1.out) (HA'.out.below HB1.out) HT.out HT'.out HR.out HR'.out m1 m2 c1 c2 c1' c2').mono ?_
          rintro e w2 ⟨a2, cap2, rfl, ho, hb2⟩
          have hO2 : OwnM w2 w1.heap.size (.slice a2 n cap2) (M.mulM R R') := by rw [HF.out]; exact ho
          have HO2 := Lib.hid (hO2.mono HB1.out.size)
          have HB2 := Lib.hid (bnext HB1.out hb2)
          clear ho hb2 hO2
          go_wp2_with fail
          refine (checkedMatrix_t _ _ _ (M.mulM R R') _ HM.out HO2.out.mat).mono ?_
          rintro e w' ⟨rfl, rfl⟩
          go_wp2
          go_ret2
          rw [HE2.out]
          exact ⟨_, _, _, rfl, HO2.out, HB2.out⟩
        · simp only [Bool.not_eq_true] at hM
          have HE2 : Hid (M.mulRes R R' = ([], 3)) := by show _ = _; rw [HE.out, hM, if_neg (by simp)]
          have HM := Lib.hid hM
          clear hM HE
          go_enter Try.func47, Try.ntmps47
          go_wp2_with fail
          refine (isMatrix_b _ _ _ R _ true HR.out HA.out).mono ?_
          rintro e w' ⟨rfl, rfl⟩
          go_wp2_with fail
          refine (isMatrix_b _ _ _ R' _ true HR'.out HA'.out).mono ?_
          rintro e w' ⟨rfl, rfl⟩
          go_wp2_with fail
          refine (maxPlus _).mono ?_
          rintro e w1 ⟨rfl, hb1⟩
          have HB1 := Lib.hid hb1
          clear hb1
          go_wp2_with fail
          refine (multiplied _ _ _ n' R _ _ L R' _ (HA.out.below HB1.out) (HA'.out.below HB1.out) HT.out HT'.out HR.out HR'.out m1 m2 c1 c2 c1' c2').mono ?_
          rintro e w2 ⟨a2, cap2, rfl, ho, hb2⟩
          have hO2 : OwnM w2 w1.heap.size (.slice a2 n cap2) (M.mulM R R') := by rw [HF.out]; exact ho
          have HO2 := Lib.hid hO2
          have HB2 := Lib.hid (bnext HB1.out hb2)
          clear ho hb2 hO2
          go_wp2_with fail
          refine (checkedMatrix_f _ _ _ (M.mulM R R') _ HM.out HO2.out.mat).mono ?_
          rintro e w' ⟨rfl, rfl⟩
          go_wp2
          go_ret2
          exact MRes.nil HE2.out HB2.out
      · have HE : Hid (M.mulRes R R' = ([], 5)) := by
          show _ = _; unfold M.mulRes; rw [hR, hR', if_pos (by rfl), if_neg (by rw [HL'.out]; exact hl)]
        generalize M.wid R = L at hl hc
        have hne : (L == n') = false := by simpa using hl
        have hne2 : (L != n') = true := by simpa using hl
        have hne3 : ((L : Int) != (n' : Int)) = true := by simp; omega
        clear h h' hR hR'
        go_enter Try.func47, Try.ntmps47
        go_wp2_with fail
        refine (isMatrix_b _ _ _ R _ true HR.out HA.out).mono ?_
        rintro e w' ⟨rfl, rfl⟩
        go_wp2_with fail
        refine (isMatrix_b _ _ _ R' _ true HR'.out HA'.out).mono ?_
        rintro e w' ⟨rfl, rfl⟩
        go_wp2
        go_ret2
        exact MRes.nil HE.out (Below.refl _ _)
    · simp only [Bool.not_eq_true] at hR'
      have HE : Hid (M.mulRes R R' = ([], 1)) := by
        show _ = _; unfold M.mulRes; rw [hR, hR', if_neg (by simp)]
      have HR' := Lib.hid hR'
      clear h h' hR hR'
      go_enter Try.func47, Try.ntmps47
      go_wp2_with fail
      refine (isMatrix_b _ _ _ R _ true HR.out HA.out).mono ?_
      rintro e w' ⟨rfl, rfl⟩
      go_wp2_with fail
      refine (isMatrix_b _ _ _ R' _ false HR'.out HA'.out).mono ?_
      rintro e w' ⟨rfl, rfl⟩
      go_wp2
      go_ret2
      exact MRes.nil HE.out (Below.refl _ _)
  · simp only [Bool.not_eq_true] at hR
    have HE : Hid (M.mulRes R R' = ([], 1)) := by
      show _ = _; unfold M.mulRes; rw [hR, if_neg (by simp)]
    have HR := Lib.hid hR
    clear h h' hR
    go_enter Try.func47, Try.ntmps47
    go_wp2_with fail
    refine (isMatrix_b _ _ _ R _ false HR.out HA.out).mono ?_
    rintro e w' ⟨rfl, rfl⟩
    go_wp2
    go_ret2
    exact MRes.nil HE.out (Below.refl _ _)
end Go.Proofs.Ytjljplolonpldaa.V

namespace Go.Proofs.Ytjljplolonpldaa.V
open Go.RowKit

set_option maxRecDepth 100000 in
set_option maxHeartbeats 1000000 in
theorem sMultiplyMatrices (a : Option Addr) (n cap : Nat) (R : List (List Int)) (a' : Option Addr) (n' cap' : Nat) (R' : List (List Int)) (w : World) (h : Mat w a n R) (h' : Mat w a' n' R') :
    Calls Try.prog 48 #[.slice a n cap, .slice a' n' cap'] w (MRes (M.mulRes R R') w) := by
  have HA := Lib.hid h
  have HA' := Lib.hid h'
  have HL := Lib.hid h.1
  have HL' := Lib.hid h'.1
  by_cases hR : M.isMat R = true
  · have HR := Lib.hid hR
    by_cases hR' : M.isMat R' = true
    · have HR' := Lib.hid hR'
      obtain ⟨m1, m2, c1, c2, -, -⟩ := M.isMat_t hR
      obtain ⟨m1', m2', c1', c2', -, -⟩ := M.isMat_t hR'
      have HT : Hid (Rect R n (M.wid R)) := by show Rect _ _ _; rw [← HL.out]; exact rect_mat hR
      have HT' : Hid (Rect R' n' (M.wid R')) := by show Rect _ _ _; rw [← HL'.out]; exact rect_mat hR'
      rw [HL.out] at m1 m2
      rw [HL'.out] at m1' m2'
      have HF : Hid (M.mulM R R' = M.mk n (M.wid R') (fun i j => M.dot R R' i j n')) := by show _ = _; unfold M.mulM; rw [HL.out, HL'.out]
      obtain ⟨b, off, ra, rc, rfl, -, hc⟩ := h.rect_first HT.out (by omega)
      by_cases hl : M.wid R = n'
      · have HE : Hid (M.mulRes R R' = if M.isMat (M.mulM R R') then (M.mulM R R', 0) else ([], 3)) := by
          show _ = _; unfold M.mulRes; rw [hR, hR', if_pos (by rfl), if_pos (by rw [hl, HL'.out])]
        rw [hl] at HT hc c1 c2
        generalize M.wid R' = L at c1' c2' HT' HF
        clear h h' hR hR' hl
        by_cases hM : M.isMat (M.mulM R R') = true
        · have HE2 : Hid (M.mulRes R R' = (M.mulM R R', 0)) := by show _ = _; rw [HE.out, if_pos hM]
          have HM := Lib.hid hM
          clear hM HE
          go_enter Try.func48, Try.ntmps48
          go_wp2_with fail
          refine (sIsMatrix_b _ _ _ R _ true HR.out (by exact HA.out)).mono ?_
          rintro e w' ⟨rfl, qq, rfl⟩
          go_wp2_with fail
          refine (sIsMatrix_b _ _ _ R' _ true HR'.out (by exact HA'.out)).mono ?_
          rintro e w' ⟨rfl, qq, rfl⟩
          go_wp2_with fail
          refine (sMultiply _ _ _ n' R _ _ L R' _ (by exact HA.out) (by exact HA'.out) HT.out HT'.out HR.out HR'.out m1 m2 c1 c2 c1' c2').mono ?_
          rintro e w2 ⟨a2, cap2, rfl, ho, hb2⟩
          have hO2 : OwnM w2 w.heap.size (.slice a2 n cap2) (M.mulM R R') := by rw [HF.out]; exact ho
          have HO2 := Lib.hid hO2
          have HB2 : Hid (Below w.heap.size w w2) := (b_draws w _).trans hb2
          clear ho hb2 hO2
          go_wp2_with fail
          refine (sIsMatrix_b _ _ _ (M.mulM R R') _ true HM.out (by exact HO2.out.mat)).mono ?_
          rintro e w' ⟨rfl, qq, rfl⟩
          go_wp2
          go_ret2
          rw [HE2.out]
          exact ⟨_, _, _, rfl, HO2.out.keep (fun _ _ _ => rfl), below_drewN HB2.out _⟩
        · simp only [Bool.not_eq_true] at hM
          have HE2 : Hid (M.mulRes R R' = ([], 3)) := by show _ = _; rw [HE.out, hM, if_neg (by simp)]
          have HM := Lib.hid hM
          clear hM HE
          go_enter Try.func48, Try.ntmps48
          go_wp2_with fail
          refine (sIsMatrix_b _ _ _ R _ true HR.out (by exact HA.out)).mono ?_
          rintro e w' ⟨rfl, qq, rfl⟩
          go_wp2_with fail
          refine (sIsMatrix_b _ _ _ R' _ true HR'.out (by exact HA'.out)).mono ?_
          rintro e w' ⟨rfl, qq, rfl⟩
          go_wp2_with fail
          refine (sMultiply _ _ _ n' R _ _ L R' _ (by exact HA.out) (by exact HA'.out) HT.out HT'.out HR.out HR'.out m1 m2 c1 c2 c1' c2').mono ?_
          rintro e w2 ⟨a2, cap2, rfl, ho, hb2⟩
          have hO2 : OwnM w2 w.heap.size (.slice a2 n cap2) (M.mulM R R') := by rw [HF.out]; exact ho
          have HO2 := Lib.hid hO2
          have HB2 : Hid (Below w.heap.size w w2) := (b_draws w _).trans hb2
          clear ho hb2 hO2
          go_wp2_with fail
          refine (sIsMatrix_b _ _ _ (M.mulM R R') _ false HM.out (by exact HO2.out.mat)).mono ?_
          rintro e w' ⟨rfl, qq, rfl⟩
          go_wp2
          go_ret2
          exact MRes.nil HE2.out (below_drewN HB2.out _)
      · have HE : Hid (M.mulRes R R' = ([], 5)) := by
          show _ = _; unfold M.mulRes; rw [hR, hR', if_pos (by rfl), if_neg (by rw [HL'.out]; exact hl)]
        generalize M.wid R = L at hl hc
        have hne : (L == n') = false := by simpa using hl
        have hne2 : (L != n') = true := by simpa using hl
        have hne3 : ((L : Int) != (n' : Int)) = true := by simp; omega
        clear h h' hR hR'
        go_enter Try.func48, Try.ntmps48
        go_wp2_with fail
        refine (sIsMatrix_b _ _ _ R _ true HR.out (by exact HA.out)).mono ?_
        rintro e w' ⟨rfl, qq, rfl⟩
        go_wp2_with fail
        refine (sIsMatrix_b _ _ _ R' _ true HR'.out (by exact HA'.out)).mono ?_
        rintro e w' ⟨rfl, qq, rfl⟩
        go_wp2
        go_ret2
        exact MRes.nil HE.out (b_draws _ _)
    · simp only [Bool.not_eq_true] at hR'
      have HE : Hid (M.mulRes R R' = ([], 1)) := by
        show _ = _; unfold M.mulRes; rw [hR, hR', if_neg (by simp)]
      have HR' := Lib.hid hR'
      clear h h' hR hR'
      go_enter Try.func48, Try.ntmps48
      go_wp2_with fail
      refine (sIsMatrix_b _ _ _ R _ true HR.out (by exact HA.out)).mono ?_
      rintro e w' ⟨rfl, qq, rfl⟩
      go_wp2_with fail
      refine (sIsMatrix_b _ _ _ R' _ false HR'.out (by exact HA'.out)).mono ?_
      rintro e w' ⟨rfl, qq, rfl⟩
      go_wp2
      go_ret2
      exact MRes.nil HE.out (b_draws _ _)
  · simp only [Bool.not_eq_true] at hR
    have HE : Hid (M.mulRes R R' = ([], 1)) := by
      show _ = _; unfold M.mulRes; rw [hR, if_neg (by simp)]
    have HR := Lib.hid hR
    clear h h' hR
    go_enter Try.func48, Try.ntmps48
    go_wp2_with fail
    refine (sIsMatrix_b _ _ _ R _ false HR.out (by exact HA.out)).mono ?_
    rintro e w' ⟨rfl, qq, rfl⟩
    go_wp2
    go_ret2
    exact MRes.nil HE.out (b_draws _ _)
end Go.Proofs.Ytjljplolonpldaa.V

namespace Go.Proofs.Ytjljplolonpldaa.V
open Go.RowKit

/-- Two drawn matrices. -/
def DrawnMM (w : World) (e : Ending) (w' : World) : Prop :=
  ∃ (a : Option Addr) (n cap : Nat) (R : List (List Int)) (a' : Option Addr) (n' cap' : Nat) (R' : List (List Int)), e = .returned (.tuple #[.slice a n cap, .slice a' n' cap']) ∧ Mat w' a n R ∧ Mat w' a' n' R' ∧ Below w.heap.size w w'
theorem thr_drew_cell {g b off : Nat} {w wx : World} {v : Value} (ht : Thr g w.drew wx) (hc : w.cell? ⟨b, off, none⟩ = some v) (hb : g < b) : wx.cell? ⟨b, off, none⟩ = some v := by
  have hl := cell_lt hc
  have e := ht.cell (p := ⟨b, off, none⟩) (show b < w.drew.heap.size from hl) (show b ≠ g by omega)
  rw [e]; exact hc
theorem wrap_nat (y : Nat) (h : y < 4) : IntKind.i64.wrap (1 + (y : Int)) = ((1 + y : Nat) : Int) := by
  rw [IntWalk.i64_in _ (by omega)]; omega
theorem OwnM.ge' {w : World} {B n cap g o : Nat} {R : List (List Int)} (h : OwnM w B (.slice (some ⟨g, o, none⟩) n cap) R) : B ≤ g := by
  obtain ⟨V, h1, h2, _⟩ := h
  exact (own_lt h2 (k := g) rfl).1

set_option maxRecDepth 100000 in
set_option maxHeartbeats 4000000 in
theorem drawAddMatrices (a : Option Addr) (n cap : Nat) (w : World) (h : Bytes w a n) :
    Calls Try.prog 49 #[.slice a n cap] w (DrawnMM w) := by
  have HB := Lib.hid h
  clear h
  go_enter Try.func49, Try.ntmps49
  go_wp2_with fail
  refine (from_ _ _ _ _ HB.out).mono ?_
  rintro e w1 ⟨rfl, hs1, hb1⟩
  have HS1 := Lib.hid hs1
  have HB1 := Lib.hid hb1
  have hg1 := hs1.lt
  clear hs1 hb1
  go_wp2_with fail
  refine (draw _ _ HS1.out).mono ?_
  rintro e w2 ⟨a2, n2, c2, R, rfl, ho, hs2, ht2⟩
  have HO2 := Lib.hid ho
  have HS2 := Lib.hid hs2
  have HB2 := Lib.hid (HB1.out.trans ht2.below)
  clear ho hs2 ht2
  go_wp2_with fail
  refine (next _ 6 _ (by decide) HS2.out).mono ?_
  rintro e w3 ⟨x, rfl, hx1, -, hs3, ht3⟩
  have HO3 := Lib.hid (HO2.out.thr ht3 hg1)
  have HS3 := Lib.hid hs3
  have HB3 := Lib.hid (HB2.out.trans ht3.below)
  have hg3 := hs3.lt
  clear hs3 ht3 HO2 HS2 HB2
  by_cases hx0 : x = 0
  · subst hx0
    go_wp2_with fail
    refine (draw _ _ HS3.out).mono ?_
    rintro e w4 ⟨a4, n4, c4, R4, rfl, ho4, hs4, ht4⟩
    have HO4 := Lib.hid (HO3.out.thr ht4 hg1).mat
    have HQ4 := Lib.hid ho4.mat
    have HB4 := Lib.hid (HB3.out.trans ht4.below)
    clear ho4 hs4 ht4
    go_wp2
    go_ret2
    exact ⟨_, _, _, R, _, _, _, R4, rfl, HO4.out, HQ4.out, HB4.out⟩
  · have e0 : (x == 0) = false := by simpa using hx0
    cases hR : M.isMat R
    · have HR := Lib.hid hR
      clear hR
      go_wp2_with fail
      refine (sIsMatrixB_b _ _ _ R _ false HR.out HO3.out.mat).mono ?_
      rintro e w5 ⟨rfl, hb5⟩
      have HO5 := Lib.hid (HO3.out.below hb5)
      have HS5 := Lib.hid (HS3.out.below (hb5.mono hg3))
      have HB5 := Lib.hid (bnext HB3.out hb5)
      clear hb5
      go_wp2_with fail
      refine (draw _ _ HS5.out).mono ?_
      rintro e w4 ⟨a4, n4, c4, R4, rfl, ho4, hs4, ht4⟩
      have HO4 := Lib.hid (HO5.out.thr ht4 hg1).mat
      have HQ4 := Lib.hid ho4.mat
      have HB4 := Lib.hid (HB5.out.trans ht4.below)
      clear ho4 hs4 ht4
      go_wp2
      go_ret2
      exact ⟨_, _, _, R, _, _, _, R4, rfl, HO4.out, HQ4.out, HB4.out⟩
    · have HR := Lib.hid hR
      obtain ⟨m1, m2, l1, l2, -, -⟩ := M.isMat_t hR
      rw [← HO3.out.len] at m1 m2
      clear hR
      go_wp2_with fail
      refine (sIsMatrixB_b _ _ _ R _ true HR.out HO3.out.mat).mono ?_
      rintro e w5 ⟨rfl, hb5⟩
      have HO5 := Lib.hid (HO3.out.below hb5)
      have HS5 := Lib.hid (HS3.out.below (hb5.mono hg3))
      have HB5 := Lib.hid (bnext HB3.out hb5)
      have hg5 : w.heap.size < w5.heap.size := HS5.out.lt
      clear hb5
      obtain ⟨b, off, ra, L, rc, rfl, hL, hc⟩ := HO5.out.mat.first (by omega)
      have hbb : w.heap.size < b := by have := HO5.out.ge' ; omega
      rw [← hL] at l1 l2
      clear hL HO3 HS3
      go_wp2_with fail
      refine (drawSize _ n2 L _ HS5.out m1 (by omega) l1 (by omega)).mono ?_
      rintro e w6 ⟨a6, n6, c6, R6, rfl, ho6, hs6, ht6⟩
      have HO6 := Lib.hid (HO5.out.thr ht6 hg1).mat
      have HQ6 := Lib.hid ho6.mat
      have HB6 := Lib.hid (HB5.out.trans ht6.below)
      clear ho6 hs6 ht6
      go_wp2
      go_ret2
      exact ⟨_, _, _, R, _, _, _, R6, rfl, HO6.out, HQ6.out, HB6.out⟩

set_option maxRecDepth 100000 in
set_option maxHeartbeats 4000000 in
theorem drawMultiplyMatrices (a : Option Addr) (n cap : Nat) (w : World) (h : Bytes w a n) :
    Calls Try.prog 46 #[.slice a n cap] w (DrawnMM w) := by
  have HB := Lib.hid h
  clear h
  go_enter Try.func46, Try.ntmps46
  go_wp2_with fail
  refine (from_ _ _ _ _ HB.out).mono ?_
  rintro e w1 ⟨rfl, hs1, hb1⟩
  have HS1 := Lib.hid hs1
  have HB1 := Lib.hid hb1
  have hg1 := hs1.lt
  clear hs1 hb1
  go_wp2_with fail
  refine (draw _ _ HS1.out).mono ?_
  rintro e w2 ⟨a2, n2, c2, R, rfl, ho, hs2, ht2⟩
  have HO2 := Lib.hid ho
  have HS2 := Lib.hid hs2
  have HB2 := Lib.hid (HB1.out.trans ht2.below)
  clear ho hs2 ht2
  go_wp2_with fail
  refine (next _ 6 _ (by decide) HS2.out).mono ?_
  rintro e w3 ⟨x, rfl, hx1, -, hs3, ht3⟩
  have HO3 := Lib.hid (HO2.out.thr ht3 hg1)
  have HS3 := Lib.hid hs3
  have HB3 := Lib.hid (HB2.out.trans ht3.below)
  have hg3 := hs3.lt
  clear hs3 ht3 HO2 HS2 HB2
  by_cases hx0 : x = 0
  · subst hx0
    go_wp2_with fail
    refine (draw _ _ HS3.out).mono ?_
    rintro e w4 ⟨a4, n4, c4, R4, rfl, ho4, hs4, ht4⟩
    have HO4 := Lib.hid (HO3.out.thr ht4 hg1).mat
    have HQ4 := Lib.hid ho4.mat
    have HB4 := Lib.hid (HB3.out.trans ht4.below)
    clear ho4 hs4 ht4
    go_wp2
    go_ret2
    exact ⟨_, _, _, R, _, _, _, R4, rfl, HO4.out, HQ4.out, HB4.out⟩
  · have e0 : (x == 0) = false := by simpa using hx0
    cases hR : M.isMat R
    · have HR := Lib.hid hR
      clear hR
      go_wp2_with fail
      refine (sIsMatrixB_b _ _ _ R _ false HR.out HO3.out.mat).mono ?_
      rintro e w5 ⟨rfl, hb5⟩
      have HO5 := Lib.hid (HO3.out.below hb5)
      have HS5 := Lib.hid (HS3.out.below (hb5.mono hg3))
      have HB5 := Lib.hid (bnext HB3.out hb5)
      clear hb5
      go_wp2_with fail
      refine (draw _ _ HS5.out).mono ?_
      rintro e w4 ⟨a4, n4, c4, R4, rfl, ho4, hs4, ht4⟩
      have HO4 := Lib.hid (HO5.out.thr ht4 hg1).mat
      have HQ4 := Lib.hid ho4.mat
      have HB4 := Lib.hid (HB5.out.trans ht4.below)
      clear ho4 hs4 ht4
      go_wp2
      go_ret2
      exact ⟨_, _, _, R, _, _, _, R4, rfl, HO4.out, HQ4.out, HB4.out⟩
    · have HR := Lib.hid hR
      obtain ⟨m1, m2, l1, l2, -, -⟩ := M.isMat_t hR
      rw [← HO3.out.len] at m1 m2
      clear hR
      go_wp2_with fail
      refine (sIsMatrixB_b _ _ _ R _ true HR.out HO3.out.mat).mono ?_
      rintro e w5 ⟨rfl, hb5⟩
      have HO5 := Lib.hid (HO3.out.below hb5)
      have HS5 := Lib.hid (HS3.out.below (hb5.mono hg3))
      have HB5 := Lib.hid (bnext HB3.out hb5)
      have hg5 : w.heap.size < w5.heap.size := HS5.out.lt
      clear hb5
      obtain ⟨b, off, ra, L, rc, rfl, hL, hc⟩ := HO5.out.mat.first (by omega)
      have hbb : w.heap.size < b := by have := HO5.out.ge' ; omega
      rw [← hL] at l1 l2
      clear hL HO3 HS3
      have HO6 := Lib.hid (HO5.out.keep (w' := w5.drew) (fun _ _ _ => rfl))
      have HS6 : Hid (Src w5.drew w.heap.size) := HS5.out
      have HB6 := Lib.hid HB5.out.drew
      go_wp2
      go_region_with (first | (go_at_call 95; refine (next _ 4 _ (by decide) HS6.out).mono ?_; rintro e wx ⟨y, rfl, hy1, hy2, hs, ht⟩; have hcx := thr_drew_cell ht hc hbb; have HSX := Lib.hid hs; have HTX := Lib.hid ht; obtain ⟨y, rfl⟩ := Int.eq_ofNat_of_zero_le hy1; have hy3 : y < 4 := (by omega); have E1 := wrap_nat y hy3; clear hs ht hy2 hy1) | (go_at_call 117; refine (drawSize _ L (1 + y) _ HSX.out l1 (by omega) (by omega) (by omega)).mono ?_; rintro e wz ⟨a6, n6, c6, R6, rfl, ho6, hs6, ht6⟩; have HTZ := Lib.hid (HTX.out.trans ht6); have HQ6 := Lib.hid ho6.mat; clear ho6 hs6 ht6))
      all_goals
        go_wp2
        go_ret2
        exact ⟨_, _, _, R, _, _, _, R6, rfl, (HO6.out.thr HTZ.out hg1).mat, HQ6.out, HB6.out.trans HTZ.out.below⟩
end Go.Proofs.Ytjljplolonpldaa.V

namespace Go.Proofs.Ytjljplolonpldaa.V
open Go.RowKit

/-- The three cells of a dice: the code, the place, the number. -/
def diceF (a : Option Addr) (n cap i : Nat) (h : Int) : Nat → Value
  | 0 => .slice a n cap
  | 1 => .int .i64 i
  | _ => .int .u64 h

/-- Block g is a dice. -/
def Dice (w : World) (g : Nat) : Prop := ∃ (a : Option Addr) (n cap i : Nat) (h : Int),
  w.rowIs g 130 3 (diceF a n cap i h) ∧ CodeAt w g a n ∧ i ≤ n

theorem dice_num {w : World} {g T : Nat} {a : Option Addr} {n cap i : Nat} {h : Int} (hr : w.rowIs g T 3 (diceF a n cap i h)) (h' : Int) : (w.setCell ⟨g, 2, none⟩ (.int .u64 h')).rowIs g T 3 (diceF a n cap i h') :=
  (hr.set 2 _).congr (fun j hj => by
    match j, hj with
    | 0, _ => rfl
    | 1, _ => rfl
    | 2, _ => rfl)
theorem dice_at {w : World} {g T : Nat} {a : Option Addr} {n cap i : Nat} {h : Int} (hr : w.rowIs g T 3 (diceF a n cap i h)) (i' : Nat) (v : Int) (hv : v = (i' : Int)) : (w.setCell ⟨g, 1, none⟩ (.int .i64 v)).rowIs g T 3 (diceF a n cap i' h) :=
  (hr.set 1 _).congr (fun j hj => by
    subst hv
    match j, hj with
    | 0, _ => rfl
    | 1, _ => rfl
    | 2, _ => rfl)

theorem u64_ge (z : Int) : 0 ≤ IntKind.u64.wrap z ∧ IntKind.u64.wrap z ≤ 18446744073709551615 := by rw [IntKind.wrap_u64]; omega

theorem dice_x (s2 : Int) (h0 : 0 ≤ s2) (h1 : s2 ≤ 18446744073709551615) : 0 ≤ wrap64 (bits BinOp.and IntKind.u64 (s2 / 8589934592) 16777215) ∧ wrap64 (bits BinOp.and IntKind.u64 (s2 / 8589934592) 16777215) ≤ 16777215 := by
  have h := bits_mask .u64 63 (by decide) ConcN.wraps_u64_63 24 (by decide) (s2 / 8589934592) (by omega) (by omega)
  have e : ((2 : Int) ^ 24 - 1) = 16777215 := by decide
  have e2 : ((2 : Int) ^ 24) = 16777216 := by decide
  rw [e, e2] at h
  rw [h, IntWalk.wrap64_in _ (by omega)]
  omega

set_option maxRecDepth 100000 in
set_option maxHeartbeats 1000000 in
theorem roll (a : Option Addr) (n cap : Nat) (s : Int) (w : World) (h : Bytes w a n) :
    Calls Try.prog 54 #[.slice a n cap, .int .u64 s] w fun e w' => e = .returned (.pointer (some ⟨w.heap.size, 0, none⟩)) ∧ Dice w' w.heap.size ∧ Below w.heap.size w w' := by
  have HB := Lib.hid h
  obtain ⟨hm, hcode⟩ := h
  unfold maxLen at hm
  have hst : ∀ h : Int, (w.alloc (.cells #[.slice a n cap, .int .i64 0, .int .u64 h] 130)).rowIs w.heap.size 130 3 (diceF a n cap 0 h) := fun h =>
    World.rowIs_alloc w _ _ _ (fun i hi => by
      match i, hi with
      | 0, _ => rfl
      | 1, _ => rfl
      | 2, _ => rfl)
  have HST := Lib.hid hst
  clear hst
  go_enter Try.func54, Try.ntmps54
  go_wp2
  go_loopw [6] (fun i wr => ∃ (k : Nat) (h : Int), k ≤ n ∧ i = .int .i64 k ∧ wr.rowIs w.heap.size 130 3 (diceF a n cap 0 h) ∧ Below w.heap.size w wr) (fun i _ => n - (intOf i).toNat)
  case atStart => exact ⟨0, _, Nat.zero_le _, rfl, HST.out _, b_alloc _ _⟩
  case round =>
    obtain ⟨k, h, hk, rfl, hrow, hb⟩ := hrel
    clear HST
    have HR := Lib.hid hrow
    have HBW := Lib.hid hb
    by_cases hlt : k < n
    · rcases hcode with h0 | ⟨b, off, rfl, hbl, hc⟩
      · omega
      obtain ⟨x, x1, x2, hx⟩ := hc k hlt
      have hx' : wr.cell? ⟨b, off + k, none⟩ = some (.int .u8 x) := by rw [hb.cell (p := ⟨b, off + k, none⟩) hbl]; exact hx
      have c2 : wr.cell? ⟨w.heap.size, 2, none⟩ = some (.int .u64 h) := hrow.cell (i := 2) (by omega)
      have f2 := hrow.frozen 2
      have hki : (k : Int) < (n : Int) := by omega
      clear hc hx hrow hb
      go_wp2
      go_still_tail 15, (by kernel_rfl)
      change wpList _ _ _ _ _ wr.drew
      go_wp2
      first
        | exact ⟨⟨k + 1, _, by omega, by go_num, dice_num (w := wr.drew) HR.out _, (HBW.out.drew).setCell (Nat.le_refl _) _⟩, by simp [intOf]; omega⟩
        | (go_roundw
           case rel => exact ⟨k + 1, _, by omega, by go_num, dice_num (w := wr.drew) HR.out _, (HBW.out.drew).setCell (Nat.le_refl _) _⟩
           case measure => simp [intOf]; omega)
    · obtain rfl : k = n := by omega
      clear hrow hb hcode
      go_wp2
      go_ret
      exact ⟨rfl, ⟨a, k, cap, 0, h, HR.out, (CodeAt.below HB.out HBW.out), Nat.zero_le _⟩, HBW.out⟩

/-- What the dice hands out. -/
def DicePost (g : Nat) (n : Int) (w : World) (e : Ending) (w' : World) : Prop := ∃ x : Int, e = .returned (.int .i64 x) ∧ 0 ≤ x ∧ x < n ∧ Dice w' g ∧ Thr g w w'

theorem dice_fin {g : Nat} {n : Int} {w w2 : World} {a : Option Addr} {m cap t : Nat} {s x : Int} (hn : 1 ≤ n) (hrow : w2.rowIs g 130 3 (diceF a m cap t s)) (hc : CodeAt w g a m) (ht : t ≤ m) (hthr : Thr g w w2) : DicePost g n w (.returned (.int .i64 (x % n))) w2 :=
  ⟨_, rfl, Int.emod_nonneg _ (by omega), Int.emod_lt_of_pos _ (by omega), ⟨a, m, cap, t, s, hrow, hc.below hthr.below, ht⟩, hthr⟩

set_option maxRecDepth 100000 in
set_option maxHeartbeats 1000000 in
theorem below_ (g : Nat) (n : Int) (w : World) (h : Dice w g) (h1 : 1 ≤ n) (h2 : n ≤ 1000000) :
    Calls Try.prog 55 #[.pointer (some ⟨g, 0, none⟩), .int .i64 n] w (DicePost g n w) := by
  obtain ⟨a, m, cap, t, s, hrow, hcode, ht⟩ := h
  have c0 : w.cell? ⟨g, 0, none⟩ = some (.slice a m cap) := hrow.cell (i := 0) (by omega)
  have c1 : w.cell? ⟨g, 1, none⟩ = some (.int .i64 t) := hrow.cell (i := 1) (by omega)
  have c2 : w.cell? ⟨g, 2, none⟩ = some (.int .u64 s) := hrow.cell (i := 2) (by omega)
  have f0 := hrow.frozen 0
  have f1 := hrow.frozen 1
  have f2 := hrow.frozen 2
  have HR := Lib.hid hrow
  have HC := Lib.hid hcode
  have hm := hcode.1
  unfold maxLen at hm
  obtain ⟨s2, hs2⟩ : ∃ s2, IntKind.u64.wrap (IntKind.u64.wrap (s * 6364136223846793005) + 1442695040888963407) = s2 := ⟨_, rfl⟩
  have hb2 := u64_ge (IntKind.u64.wrap (s * 6364136223846793005) + 1442695040888963407)
  rw [hs2] at hb2
  have hx12 := dice_x s2 hb2.1 hb2.2
  obtain ⟨x, hx⟩ : ∃ x, wrap64 (bits BinOp.and IntKind.u64 (s2 / 8589934592) 16777215) = x := ⟨_, rfl⟩
  rw [hx] at hx12
  obtain ⟨x1, x2⟩ := hx12
  have s20 := hb2.1
  clear hb2 hrow
  by_cases htm : t < m
  · obtain ⟨-, hcode⟩ := hcode
    rcases hcode with h0 | ⟨b, off, rfl, hbg, hc⟩
    · omega
    obtain ⟨y, y1, y2, hcy⟩ := hc t htm
    have hne : ¬ b = g := by omega
    have hti : (t : Int) < (m : Int) := by omega
    have ht0 : 0 ≤ (t : Int) + 1 := by omega
    clear hc
    go_enter Try.func55, Try.ntmps55
    go_wp2
    go_quiet (fail)
    go_wp2
    go_quiet (fail)
    go_wp2
    go_ret
    exact dice_fin h1 (dice_at (w := (w.setCell ⟨g, 2, none⟩ (.int .u64 s2)).drewN _) (dice_num HR.out s2) (t + 1) _ (by omega)) HC.out (by omega) ((((Thr.refl g w).setCell _).drewN _).setCell _)
  · obtain rfl : t = m := by omega
    clear hcode
    go_enter Try.func55, Try.ntmps55
    go_wp2
    go_quiet (fail)
    go_wp2
    go_ret
    exact dice_fin h1 (dice_num HR.out s2) HC.out (by omega) (((Thr.refl g w).setCell _).drewN _)
theorem Dice.then {g : Nat} {w w' : World} {B : Nat} (h : Dice w g) (hb : Below B w w') (hg : g < B) : Dice w' g := by
  obtain ⟨a, n, cap, i, x, h1, h2, h3⟩ := h
  exact ⟨a, n, cap, i, x, h1.of_block (hb.block g hg), h2.below (hb.mono (Nat.le_of_lt hg)), h3⟩
end Go.Proofs.Ytjljplolonpldaa.V

namespace Go.Proofs.Ytjljplolonpldaa.V
open Go.RowKit

set_option maxRecDepth 100000 in
set_option maxHeartbeats 4000000 in
theorem powerMatrix_ok (a : Option Addr) (n cap : Nat) (R : List (List Int)) (m : Nat) (w : World) (h : Mat w a n R) (hR : M.isMat R = true) (hs : M.wid R = n) (hm : m ≤ 100) :
    Calls Try.prog 40 #[.slice a n cap, .int .i64 m] w (MRes (M.pwRes R m) w) := by
  have HA := Lib.hid h
  have HL := Lib.hid h.1
  have HR := Lib.hid hR
  have HS := Lib.hid hs
  obtain ⟨m1, m2, -, -, -, -⟩ := M.isMat_t hR
  have HT : Hid (Rect R n n) := by
    have := rect_mat hR
    rw [h.1, hs] at this
    exact this
  rw [h.1] at m1 m2
  obtain ⟨b, off, ra, rc, rfl, -, hc⟩ := h.rect_first HT.out (by omega)
  clear h hR hs
  go_enter Try.func40, Try.ntmps40
  go_wp2_with fail
  refine (isMatrix_b _ _ _ R _ true HR.out HA.out).mono ?_
  rintro e w' ⟨rfl, rfl⟩
  go_wp2_with fail
  refine (unitOf n _ m1 m2).mono ?_
  rintro e w1 ⟨a1, cap1, rfl, ho, hb⟩
  have HO0 : Hid (OwnM w1 w.heap.size (.slice a1 n cap1) (M.powN R 0).1) := by
    show OwnM _ _ _ (M.unitM R.length)
    rw [HL.out]; exact ho
  have HB0 := Lib.hid hb
  clear ho hb hc
  go_wp2
  go_loopw [6, 27] (fun p i wr => ∃ (k : Nat) (a2 : Option Addr) (c2 : Nat), k ≤ m ∧ i = .int .i64 k ∧ p = .slice a2 n c2 ∧ OwnM wr w.heap.size (.slice a2 n c2) (M.powN R k).1 ∧ Hid ((M.powN R k).2 = true) ∧ Below w.heap.size w wr) (fun _ i _ => m - (intOf i).toNat)
  case atStart => exact ⟨0, _, _, Nat.zero_le _, rfl, rfl, HO0.out, rfl, HB0.out⟩
  case round =>
    obtain ⟨k, a2, c2, hk, rfl, rfl, hO, HP, hb⟩ := hrel
    have HO := Lib.hid hO
    have HB := Lib.hid hb
    clear hO hb HO0 HB0
    by_cases hlt : k < m
    · have hki : (k : Int) < (m : Int) := by omega
      have HPM : Hid (M.isMat (M.powN R k).1 = true) := M.powN_ok (by rw [HL.out]; exact m1) (by rw [HL.out]; exact m2) k HP.out
      have HPT : Hid (Rect (M.powN R k).1 n n) := by
        have := rect_mat HPM.out
        rw [M.powN_len HP.out, HL.out, M.powN_wid (by rw [HL.out]; exact m1) (by rw [HL.out, HS.out]) HP.out, HL.out] at this
        exact this
      have HST := Lib.hid (M.powN_step HP.out)
      have HF : Hid (M.mulM (M.powN R k).1 R = M.mk n n (fun i j => M.dot (M.powN R k).1 R i j n)) := by
        show _ = _; unfold M.mulM; rw [M.powN_len HP.out, HL.out, HS.out]
      go_wp2_with fail
      refine (maxPlus _).mono ?_
      rintro e w2 ⟨rfl, hb2⟩
      have HB2 := Lib.hid hb2
      have hsz := HB.out.size
      clear hb2
      go_wp2_with fail
      refine (multiplied _ _ _ n (M.powN R k).1 _ _ n R _ (HO.out.below HB2.out).mat (HA.out.below (HB.out.trans (HB2.out.mono hsz))) HPT.out HT.out HPM.out HR.out m1 m2 m1 m2 m1 m2).mono ?_
      rintro e w3 ⟨a3, c3, rfl, ho, hb3⟩
      have HB3 := Lib.hid (bnext (bnext HB.out HB2.out) hb3)
      have HO3 : Hid (OwnM w3 w.heap.size (.slice a3 n c3) (M.mulM (M.powN R k).1 R)) := by
        show OwnM _ _ _ _
        rw [HF.out]
        exact ho.mono (by have := HB2.out.size; omega)
      clear ho hb3
      by_cases hM : M.isMat (M.mulM (M.powN R k).1 R) = true
      · have HM := Lib.hid hM
        have HP2 : Hid ((M.powN R (k + 1)).2 = true) := by show _ = _; rw [HST.out]; exact HM.out
        have HO4 : Hid (OwnM w3 w.heap.size (.slice a3 n c3) (M.powN R (k + 1)).1) := by
          show OwnM _ _ _ _; rw [HST.out]; exact HO3.out
        clear hM
        go_wp2_with fail
        refine (isMatrix_b _ _ _ (M.mulM (M.powN R k).1 R) _ true HM.out HO3.out.mat).mono ?_
        rintro e w' ⟨rfl, rfl⟩
        go_wp2
        go_roundw
        case rel => exact ⟨k + 1, _, _, by omega, by go_num, rfl, HO4.out, HP2, HB3.out⟩
        case measure => simp [intOf]; omega
      · simp only [Bool.not_eq_true] at hM
        have HM := Lib.hid hM
        have HE : Hid (M.pwRes R m = ([], 3)) := by
          show _ = _
          unfold M.pwRes
          rw [M.powN_false (show (M.powN R (k + 1)).2 = false by rw [HST.out]; exact HM.out) (by omega)]
          rfl
        clear hM
        go_wp2_with fail
        refine (isMatrix_b _ _ _ (M.mulM (M.powN R k).1 R) _ false HM.out HO3.out.mat).mono ?_
        rintro e w' ⟨rfl, rfl⟩
        go_wp2
        go_ret2
        exact MRes.nil HE.out HB3.out
    · obtain rfl : k = m := by omega
      have HE : Hid (M.pwRes R k = ((M.powN R k).1, 0)) := by
        show _ = _; unfold M.pwRes; rw [HP.out]; rfl
      go_wp2
      go_ret2
      rw [HE.out]
      exact ⟨_, _, _, rfl, HO.out, HB.out⟩

set_option maxRecDepth 100000 in
set_option maxHeartbeats 4000000 in
theorem sPower (a : Option Addr) (n cap : Nat) (R : List (List Int)) (m : Nat) (w : World) (h : Mat w a n R) (hR : M.isMat R = true) (hs : M.wid R = n) (hm : m ≤ 100) :
    Calls Try.prog 123 #[.slice a n cap, .int .i64 m] w (MRes (M.pwRes R m) w) := by
  have HA := Lib.hid h
  have HL := Lib.hid h.1
  have HR := Lib.hid hR
  have HS := Lib.hid hs
  obtain ⟨m1, m2, -, -, -, -⟩ := M.isMat_t hR
  have HT : Hid (Rect R n n) := by
    have := rect_mat hR
    rw [h.1, hs] at this
    exact this
  rw [h.1] at m1 m2
  have m3 : n ≤ 100 := by omega
  clear h hR hs
  go_enter Try.func123, Try.ntmps123
  go_wp2_with fail
  refine (sUnit n _ m3).mono ?_
  rintro e w1 ⟨a1, cap1, rfl, ho, hb⟩
  have HO0 : Hid (OwnM w1 w.heap.size (.slice a1 n cap1) (M.powN R 0).1) := by
    show OwnM _ _ _ (M.unitM R.length)
    rw [HL.out]; exact ho
  have HB0 := Lib.hid hb
  clear ho hb
  go_wp2
  go_loopw [1, 6] (fun i p wr => ∃ (k j : Nat) (a2 : Option Addr) (c2 : Nat), k + j = m ∧ i = .int .i64 j ∧ p = .slice a2 n c2 ∧ OwnM wr w.heap.size (.slice a2 n c2) (M.powN R k).1 ∧ Hid ((M.powN R k).2 = true) ∧ Below w.heap.size w wr) (fun i _ _ => (intOf i).toNat)
  case atStart => exact ⟨0, m, _, _, by omega, rfl, rfl, HO0.out, rfl, HB0.out⟩
  case round =>
    obtain ⟨k, j, a2, c2, hkj, rfl, rfl, hO, HP, hb⟩ := hrel
    have HKJ := Lib.hid hkj
    have hj100 : j ≤ 100 := by omega
    have HO := Lib.hid hO
    have HB := Lib.hid hb
    clear hO hb HO0 HB0 hkj
    by_cases hlt : 0 < j
    · have hki : (0 : Int) < (j : Int) := by omega
      have HPM : Hid (M.isMat (M.powN R k).1 = true) := M.powN_ok (by rw [HL.out]; exact m1) (by rw [HL.out]; exact m2) k HP.out
      have HPT : Hid (Rect (M.powN R k).1 n n) := by
        have := rect_mat HPM.out
        rw [M.powN_len HP.out, HL.out, M.powN_wid (by rw [HL.out]; exact m1) (by rw [HL.out, HS.out]) HP.out, HL.out] at this
        exact this
      have HST := Lib.hid (M.powN_step HP.out)
      have HF : Hid (M.mulM (M.powN R k).1 R = M.mk n n (fun i j => M.dot (M.powN R k).1 R i j n)) := by
        show _ = _; unfold M.mulM; rw [M.powN_len HP.out, HL.out, HS.out]
      have hsz := HB.out.size
      go_wp2_with fail
      refine (sMultiply _ _ _ n (M.powN R k).1 _ _ n R _ HO.out.mat (HA.out.below HB.out) HPT.out HT.out HPM.out HR.out m1 m2 m1 m2 m1 m2).mono ?_
      rintro e w3 ⟨a3, c3, rfl, ho, hb3⟩
      have HB3 := Lib.hid (bnext HB.out hb3)
      have HO3 : Hid (OwnM w3 w.heap.size (.slice a3 n c3) (M.mulM (M.powN R k).1 R)) := by
        show OwnM _ _ _ _
        rw [HF.out]
        exact ho.mono hsz
      clear ho hb3
      by_cases hM : M.isMat (M.mulM (M.powN R k).1 R) = true
      · have HM := Lib.hid hM
        have HP2 : Hid ((M.powN R (k + 1)).2 = true) := by show _ = _; rw [HST.out]; exact HM.out
        have HO4 : Hid (OwnM w3 w.heap.size (.slice a3 n c3) (M.powN R (k + 1)).1) := by
          show OwnM _ _ _ _; rw [HST.out]; exact HO3.out
        clear hM
        go_wp2_with fail
        refine (sIsMatrixB_b _ _ _ (M.mulM (M.powN R k).1 R) _ true HM.out HO3.out.mat).mono ?_
        rintro e w4 ⟨rfl, hb4⟩
        have HB4 := Lib.hid (bnext HB3.out hb4)
        have HO5 := Lib.hid (HO4.out.below hb4)
        clear hb4
        go_wp2
        go_roundw
        case rel => exact ⟨k + 1, j - 1, _, _, by have := HKJ.out; omega, by go_num, rfl, HO5.out, HP2, HB4.out⟩
        case measure => simp [intOf]; omega
      · simp only [Bool.not_eq_true] at hM
        have HM := Lib.hid hM
        have HE : Hid (M.pwRes R m = ([], 3)) := by
          show _ = _
          unfold M.pwRes
          rw [M.powN_false (show (M.powN R (k + 1)).2 = false by rw [HST.out]; exact HM.out) (by have := HKJ.out; omega)]
          rfl
        clear hM
        go_wp2_with fail
        refine (sIsMatrixB_b _ _ _ (M.mulM (M.powN R k).1 R) _ false HM.out HO3.out.mat).mono ?_
        rintro e w4 ⟨rfl, hb4⟩
        have HB4 := Lib.hid (bnext HB3.out hb4)
        clear hb4
        go_wp2
        go_ret2
        exact MRes.nil HE.out HB4.out
    · have hkm := HKJ.out
      obtain rfl : j = 0 := by omega
      obtain rfl : m = k := by omega
      have HE : Hid (M.pwRes R m = ((M.powN R m).1, 0)) := by
        show _ = _; unfold M.pwRes; rw [HP.out]; rfl
      clear hkm
      go_wp2
      go_ret2
      rw [HE.out]
      exact ⟨_, _, _, rfl, HO.out, HB.out⟩

set_option maxRecDepth 100000 in
set_option maxHeartbeats 1000000 in
theorem powerMatrix (a : Option Addr) (n cap : Nat) (R : List (List Int)) (m : Int) (w : World) (h : Mat w a n R) :
    Calls Try.prog 40 #[.slice a n cap, .int .i64 m] w (MRes (M.powRes R m) w) := by
  by_cases hR : M.isMat R = true
  · by_cases hm : 0 ≤ m ∧ m ≤ 100
    · by_cases hs : M.wid R = n
      · obtain ⟨k, rfl⟩ := Int.eq_ofNat_of_zero_le hm.1
        have e : M.powRes R (k : Int) = M.pwRes R k := by
          unfold M.powRes; rw [if_pos hR, if_pos hm, if_pos (by rw [h.1, hs])]; rfl
        rw [e]
        exact powerMatrix_ok _ _ _ _ _ _ h hR hs (by omega)
      · have HE : Hid (M.powRes R m = ([], 5)) := by
          show _ = _; unfold M.powRes; rw [if_pos hR, if_pos hm, if_neg (by rw [h.1]; exact fun e => hs e.symm)]
        have HA := Lib.hid h
        have HR := Lib.hid hR
        obtain ⟨m1, m2, c1, c2, -, -⟩ := M.isMat_t hR
        rw [h.1] at m1 m2
        obtain ⟨b, off, ra, L, rc, rfl, hL, hc⟩ := h.first (by omega)
        rw [← hL] at hs
        obtain ⟨hm1, hm2⟩ := hm
        have hne : (n == L) = false := by simp; omega
        have hne2 : (n != L) = true := by simp; omega
        have hne3 : ((n : Int) != (L : Int)) = true := by simp; omega
        clear h hR hL
        go_enter Try.func40, Try.ntmps40
        go_wp2_with fail
        refine (isMatrix_b _ _ _ R _ true HR.out HA.out).mono ?_
        rintro e w' ⟨rfl, rfl⟩
        go_wp2
        go_ret2
        exact MRes.nil HE.out (Below.refl _ _)
    · have HE : Hid (M.powRes R m = ([], 2)) := by
        show _ = _; unfold M.powRes; rw [if_pos hR, if_neg hm]
      have HA := Lib.hid h
      have HR := Lib.hid hR
      clear h hR
      by_cases h0 : m < 0
      · go_enter Try.func40, Try.ntmps40
        go_wp2_with fail
        refine (isMatrix_b _ _ _ R _ true HR.out HA.out).mono ?_
        rintro e w' ⟨rfl, rfl⟩
        go_wp2
        go_ret2
        exact MRes.nil HE.out (Below.refl _ _)
      · have h1 : 100 < m := by omega
        go_enter Try.func40, Try.ntmps40
        go_wp2_with fail
        refine (isMatrix_b _ _ _ R _ true HR.out HA.out).mono ?_
        rintro e w' ⟨rfl, rfl⟩
        go_wp2
        go_ret2
        exact MRes.nil HE.out (Below.refl _ _)
  · simp only [Bool.not_eq_true] at hR
    have HE : Hid (M.powRes R m = ([], 1)) := by
      show _ = _; unfold M.powRes; rw [hR, if_neg (by simp)]
    have HA := Lib.hid h
    have HR := Lib.hid hR
    clear h hR
    go_enter Try.func40, Try.ntmps40
    go_wp2_with fail
    refine (isMatrix_b _ _ _ R _ false HR.out HA.out).mono ?_
    rintro e w' ⟨rfl, rfl⟩
    go_wp2
    go_ret2
    exact MRes.nil HE.out (Below.refl _ _)

set_option maxRecDepth 100000 in
set_option maxHeartbeats 1000000 in
theorem sPowerMatrix (a : Option Addr) (n cap : Nat) (R : List (List Int)) (m : Int) (w : World) (h : Mat w a n R) :
    Calls Try.prog 57 #[.slice a n cap, .int .i64 m] w (MRes (M.powRes R m) w) := by
  have HA := Lib.hid h
  by_cases hR : M.isMat R = true
  · have HR := Lib.hid hR
    by_cases hm : 0 ≤ m ∧ m ≤ 100
    · have hd : (decide ((0 : Int) ≤ m) && decide ((m : Int) ≤ 100)) = true := by simp; omega
      obtain ⟨m1, m2, c1, c2, -, -⟩ := M.isMat_t hR
      rw [h.1] at m1 m2
      obtain ⟨b, off, ra, L, rc, rfl, hL, hc⟩ := h.first (by omega)
      by_cases hs : M.wid R = n
      · obtain ⟨k, rfl⟩ := Int.eq_ofNat_of_zero_le hm.1
        have HE : Hid (M.powRes R (k : Int) = M.pwRes R k) := by
          show _ = _; unfold M.powRes; rw [if_pos hR, if_pos hm, if_pos (by rw [h.1, hs])]; rfl
        have HS := Lib.hid hs
        have hk : k ≤ 100 := by omega
        have hd2 : decide ((k : Int) ≤ 100) = true := by simp; omega
        obtain rfl : n = L := by rw [hL, hs]
        clear h hR hm hL hs
        go_enter Try.func57, Try.ntmps57
        go_wp2_with fail
        refine (sIsMatrix_b _ _ _ R _ true HR.out HA.out).mono ?_
        rintro e w' ⟨rfl, q, rfl⟩
        go_wp2_with (go_at_call 72; refine (sIn _ _ _ _).mono ?_; rintro e w' ⟨rfl, rfl⟩)
        refine (sPower _ _ _ R k _ (by exact HA.out) HR.out HS.out hk).mono ?_
        rintro e w1 ⟨a1, n1, c1, rfl, ho, hb⟩
        have HO : Hid (OwnM w1 w.heap.size (.slice a1 n1 c1) (M.pwRes R k).1) := ho
        have HB : Hid (Below w.heap.size w w1) := (b_draws w _).trans hb
        clear ho hb
        go_wp2
        go_ret2
        rw [HE.out]
        exact ⟨_, _, _, rfl, HO.out, HB.out⟩
      · have HE : Hid (M.powRes R m = ([], 5)) := by
          show _ = _; unfold M.powRes; rw [if_pos hR, if_pos hm, if_neg (by rw [h.1]; exact fun e => hs e.symm)]
        rw [← hL] at hs
        have hne : (n == L) = false := by simp; omega
        have hne2 : (n != L) = true := by simp; omega
        have hne3 : ((n : Int) != (L : Int)) = true := by simp; omega
        clear h hR hL hm
        go_enter Try.func57, Try.ntmps57
        go_wp2_with fail
        refine (sIsMatrix_b _ _ _ R _ true HR.out HA.out).mono ?_
        rintro e w' ⟨rfl, q, rfl⟩
        go_wp2_with (go_at_call 72; refine (sIn _ _ _ _).mono ?_; rintro e w' ⟨rfl, rfl⟩)
        go_ret2
        exact MRes.nil HE.out (b_draws _ _)
    · have HE : Hid (M.powRes R m = ([], 2)) := by
        show _ = _; unfold M.powRes; rw [if_pos hR, if_neg hm]
      have hd : (decide ((0 : Int) ≤ m) && decide ((m : Int) ≤ 100)) = false := by rw [Bool.and_eq_false_iff]; simp; omega
      clear h hR
      go_enter Try.func57, Try.ntmps57
      go_wp2_with fail
      refine (sIsMatrix_b _ _ _ R _ true HR.out HA.out).mono ?_
      rintro e w' ⟨rfl, q, rfl⟩
      go_wp2_with (go_at_call 72; refine (sIn _ _ _ _).mono ?_; rintro e w' ⟨rfl, rfl⟩)
      go_ret2
      exact MRes.nil HE.out (b_draws _ _)
  · simp only [Bool.not_eq_true] at hR
    have HE : Hid (M.powRes R m = ([], 1)) := by
      show _ = _; unfold M.powRes; rw [hR, if_neg (by simp)]
    have HR := Lib.hid hR
    clear h hR
    go_enter Try.func57, Try.ntmps57
    go_wp2_with fail
    refine (sIsMatrix_b _ _ _ R _ false HR.out HA.out).mono ?_
    rintro e w' ⟨rfl, q, rfl⟩
    go_wp2
    go_ret2
    exact MRes.nil HE.out (b_draws _ _)
end Go.Proofs.Ytjljplolonpldaa.V

namespace Go.Proofs.Ytjljplolonpldaa
namespace M
theorem times_comm (a b : Int) : times a b = times b a := by
  unfold times
  by_cases h : a = -1000000000000000 ∨ b = -1000000000000000
  · rw [if_pos h, if_pos (Or.symm h)]
  · rw [if_neg h, if_neg (fun h2 => h (Or.symm h2)), Int.add_comm]
theorem trans_trans {R : List (List Int)} (h : isMat R = true) : transM (transM R) = R := by
  obtain ⟨m1, m2, c1, c2, h5, -⟩ := isMat_t h
  have hl : (transM R).length = wid R := mk_length _ _ _
  have hw : wid (transM R) = R.length := mk_wid _ _ _ (by omega)
  show mk (wid (transM R)) (transM R).length (fun i j => ent (transM R) j i) = R
  rw [hl, hw]
  refine Eq.trans (mk_congr fun i hi j hj => ?_) (mk_self R (wid R) h5)
  unfold transM
  rw [ent_mk _ _ _ _ _ hj hi]
theorem transRes_back {R : List (List Int)} (h : isMat R = true) : transRes (transM R) = (R, 0) := by
  unfold transRes
  rw [if_pos (transM_ok h), trans_trans h]
theorem dot_turn (R : List (List Int)) (h : isMat R = true) (i j k : Nat) (hi : i < R.length) (hj : j < R.length) (hk : k ≤ wid R) : dot R (transM R) i j k = dot R (transM R) j i k := by
  unfold dot
  refine sumN_congr fun t ht => ?_
  unfold transM
  rw [ent_mk _ _ _ _ _ (by omega) hj, ent_mk _ _ _ _ _ (by omega) hi, times_comm]
theorem mul_turn {R : List (List Int)} (h : isMat R = true) : transM (mulM R (transM R)) = mulM R (transM R) := by
  obtain ⟨m1, m2, c1, c2, h5, -⟩ := isMat_t h
  have hl : (transM R).length = wid R := mk_length _ _ _
  have hw : wid (transM R) = R.length := mk_wid _ _ _ (by omega)
  have hm : mulM R (transM R) = mk R.length R.length (fun i j => dot R (transM R) i j (wid R)) := by unfold mulM; rw [hl, hw]
  rw [hm]
  show mk (wid (mk _ _ _)) (mk _ _ _).length (fun i j => ent (mk _ _ _) j i) = _
  rw [mk_length, mk_wid _ _ _ (by omega)]
  refine mk_congr fun i hi j hj => ?_
  rw [ent_mk _ _ _ _ _ hj hi]
  exact dot_turn R h j i _ hj hi (Nat.le_refl _)
theorem mulRes_turn {R : List (List Int)} (h : isMat R = true) : mulRes R (transM R) = ([], 3) ∨ (isMat (mulM R (transM R)) = true ∧ mulRes R (transM R) = (mulM R (transM R), 0) ∧ transRes (mulM R (transM R)) = (mulM R (transM R), 0)) := by
  have hl : (transM R).length = wid R := mk_length _ _ _
  unfold mulRes
  rw [h, transM_ok h, if_pos (by rfl), if_pos hl.symm]
  by_cases hM : isMat (mulM R (transM R)) = true
  · right
    refine ⟨hM, if_pos hM, ?_⟩
    unfold transRes
    rw [if_pos hM, mul_turn h]
  · left
    rw [if_neg hM]
end M
end Go.Proofs.Ytjljplolonpldaa
