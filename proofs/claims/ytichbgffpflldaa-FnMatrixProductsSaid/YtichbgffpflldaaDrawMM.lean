/- Drawn arguments of sums and products of matrices. -/
import Derived.Test.YtichbgffpflldaaRows
import Derived.Test.YtichbgffpflldaaMath1
import Derived.Test.YtichbgffpflldaaList
import Derived.Test.YtichbgffpflldaaMatM
import Derived.Test.YtichbgffpflldaaHelp
import Derived.Test.YtichbgffpflldaaRows0
import Derived.Test.YtichbgffpflldaaOwn
import Derived.Test.YtichbgffpflldaaMat0
import Derived.WalkKit
import Derived.ProofKit
import Derived.WalkSmall
import Derived.Deep.QuietTactic
import Derived.BigQuiet
import Derived.BigRegion
import Derived.Deep.Draws
import Derived.Lib.Hide
import Derived.OpenShut
import Derived.Deep.OwnRows
import Derived.Test.YtichbgffpflldaaVals0
import Derived.Test.YtichbgffpflldaaApp
import Derived.Test.YtichbgffpflldaaSBot
import Derived.Test.YtichbgffpflldaaDraw1
import Derived.Test.YtichbgffpflldaaDraw2
import Derived.Deep.RegionHeld3
import Derived.Test.YtichbgffpflldaaDrawM
import Derived.Test.YtichbgffpflldaaDrawM2
import Derived.Test.YtichbgffpflldaaIsMat
import Derived.Deep.RegionWith
import Derived.IntWalk
namespace Go.Proofs.Ytichbgffpflldaa.V
open Go.RowKit

/-- Two drawn matrices. -/
def DrawnMM (w : World) (e : Ending) (w' : World) : Prop :=
  ∃ (a : Option Addr) (n cap : Nat) (R : List (List Int)) (a' : Option Addr) (n' cap' : Nat) (R' : List (List Int)), e = .returned (.tuple #[.slice a n cap, .slice a' n' cap']) ∧ Mat w' a n R ∧ Mat w' a' n' R' ∧ Below w.heap.size w w'
theorem thr_drew_cell {g b off : Nat} {w wx : World} {v : Value} (ht : Thr g w.drew wx) (hc : w.cell? ⟨b, off, none⟩ = some v) (hb : g < b) : wx.cell? ⟨b, off, none⟩ = some v := by
  have hl := cell_lt hc
  have e := ht.cell (p := ⟨b, off, none⟩) (show b < w.drew.heap.size from hl) (show b ≠ g by omega)
  rw [e]; exact hc
theorem wrap_nat (y : Nat) (h : y < 4) : IntKind.i64.wrap (1 + (y : Int)) = ((1 + y : Nat) : Int) := by
  rw [IntWalk.i64_in _ (by omega)]; omega
theorem OwnM.ge' {w : World} {B n cap g o : Nat} {R : List (List Int)} (h : OwnM w B (.slice (some ⟨g, o, none⟩) n cap) R) : B ≤ g := by
  obtain ⟨V, h1, h2, _⟩ := h
  exact (own_lt h2 (k := g) rfl).1

set_option maxRecDepth 100000 in
set_option maxHeartbeats 4000000 in
theorem drawAddMatrices (a : Option Addr) (n cap : Nat) (w : World) (h : Bytes w a n) :
    Calls Try.prog 22 #[.slice a n cap] w (DrawnMM w) := by
  have HB := Lib.hid h
  clear h
  go_enter Try.func22, Try.ntmps22
  go_wp2_with fail
  refine (from_ _ _ _ _ HB.out).mono ?_
  rintro e w1 ⟨rfl, hs1, hb1⟩
  have HS1 := Lib.hid hs1
  have HB1 := Lib.hid hb1
  have hg1 := hs1.lt
  clear hs1 hb1
  go_wp2_with fail
  refine (draw _ _ HS1.out).mono ?_
  rintro e w2 ⟨a2, n2, c2, R, rfl, ho, hs2, ht2⟩
  have HO2 := Lib.hid ho
  have HS2 := Lib.hid hs2
  have HB2 := Lib.hid (HB1.out.trans ht2.below)
  clear ho hs2 ht2
  go_wp2_with fail
  refine (next _ 6 _ (by decide) HS2.out).mono ?_
  rintro e w3 ⟨x, rfl, hx1, -, hs3, ht3⟩
  have HO3 := Lib.hid (HO2.out.thr ht3 hg1)
  have HS3 := Lib.hid hs3
  have HB3 := Lib.hid (HB2.out.trans ht3.below)
  have hg3 := hs3.lt
  clear hs3 ht3 HO2 HS2 HB2
  by_cases hx0 : x = 0
  · subst hx0
    go_wp2_with fail
    refine (draw _ _ HS3.out).mono ?_
    rintro e w4 ⟨a4, n4, c4, R4, rfl, ho4, hs4, ht4⟩
    have HO4 := Lib.hid (HO3.out.thr ht4 hg1).mat
    have HQ4 := Lib.hid ho4.mat
    have HB4 := Lib.hid (HB3.out.trans ht4.below)
    clear ho4 hs4 ht4
    go_wp2
    go_ret2
    exact ⟨_, _, _, R, _, _, _, R4, rfl, HO4.out, HQ4.out, HB4.out⟩
  · have e0 : (x == 0) = false := by simpa using hx0
    cases hR : M.isMat R
    · have HR := Lib.hid hR
      clear hR
      go_wp2_with fail
      refine (sIsMatrixB_b _ _ _ R _ false HR.out HO3.out.mat).mono ?_
      rintro e w5 ⟨rfl, hb5⟩
      have HO5 := Lib.hid (HO3.out.below hb5)
      have HS5 := Lib.hid (HS3.out.below (hb5.mono hg3))
      have HB5 := Lib.hid (bnext HB3.out hb5)
      clear hb5
      go_wp2_with fail
      refine (draw _ _ HS5.out).mono ?_
      rintro e w4 ⟨a4, n4, c4, R4, rfl, ho4, hs4, ht4⟩
      have HO4 := Lib.hid (HO5.out.thr ht4 hg1).mat
      have HQ4 := Lib.hid ho4.mat
      have HB4 := Lib.hid (HB5.out.trans ht4.below)
      clear ho4 hs4 ht4
      go_wp2
      go_ret2
      exact ⟨_, _, _, R, _, _, _, R4, rfl, HO4.out, HQ4.out, HB4.out⟩
    · have HR := Lib.hid hR
      obtain ⟨m1, m2, l1, l2, -, -⟩ := M.isMat_t hR
      rw [← HO3.out.len] at m1 m2
      clear hR
      go_wp2_with fail
      refine (sIsMatrixB_b _ _ _ R _ true HR.out HO3.out.mat).mono ?_
      rintro e w5 ⟨rfl, hb5⟩
      have HO5 := Lib.hid (HO3.out.below hb5)
      have HS5 := Lib.hid (HS3.out.below (hb5.mono hg3))
      have HB5 := Lib.hid (bnext HB3.out hb5)
      have hg5 : w.heap.size < w5.heap.size := HS5.out.lt
      clear hb5
      obtain ⟨b, off, ra, L, rc, rfl, hL, hc⟩ := HO5.out.mat.first (by omega)
      have hbb : w.heap.size < b := by have := HO5.out.ge' ; omega
      rw [← hL] at l1 l2
      clear hL HO3 HS3
      go_wp2_with fail
      refine (drawSize _ n2 L _ HS5.out m1 (by omega) l1 (by omega)).mono ?_
      rintro e w6 ⟨a6, n6, c6, R6, rfl, ho6, hs6, ht6⟩
      have HO6 := Lib.hid (HO5.out.thr ht6 hg1).mat
      have HQ6 := Lib.hid ho6.mat
      have HB6 := Lib.hid (HB5.out.trans ht6.below)
      clear ho6 hs6 ht6
      go_wp2
      go_ret2
      exact ⟨_, _, _, R, _, _, _, R6, rfl, HO6.out, HQ6.out, HB6.out⟩

set_option maxRecDepth 100000 in
set_option maxHeartbeats 4000000 in
theorem drawMultiplyMatrices (a : Option Addr) (n cap : Nat) (w : World) (h : Bytes w a n) :
    Calls Try.prog 19 #[.slice a n cap] w (DrawnMM w) := by
  have HB := Lib.hid h
  clear h
  go_enter Try.func19, Try.ntmps19
  go_wp2_with fail
  refine (from_ _ _ _ _ HB.out).mono ?_
  rintro e w1 ⟨rfl, hs1, hb1⟩
  have HS1 := Lib.hid hs1
  have HB1 := Lib.hid hb1
  have hg1 := hs1.lt
  clear hs1 hb1
  go_wp2_with fail
  refine (draw _ _ HS1.out).mono ?_
  rintro e w2 ⟨a2, n2, c2, R, rfl, ho, hs2, ht2⟩
  have HO2 := Lib.hid ho
  have HS2 := Lib.hid hs2
  have HB2 := Lib.hid (HB1.out.trans ht2.below)
  clear ho hs2 ht2
  go_wp2_with fail
  refine (next _ 6 _ (by decide) HS2.out).mono ?_
  rintro e w3 ⟨x, rfl, hx1, -, hs3, ht3⟩
  have HO3 := Lib.hid (HO2.out.thr ht3 hg1)
  have HS3 := Lib.hid hs3
  have HB3 := Lib.hid (HB2.out.trans ht3.below)
  have hg3 := hs3.lt
  clear hs3 ht3 HO2 HS2 HB2
  by_cases hx0 : x = 0
  · subst hx0
    go_wp2_with fail
    refine (draw _ _ HS3.out).mono ?_
    rintro e w4 ⟨a4, n4, c4, R4, rfl, ho4, hs4, ht4⟩
    have HO4 := Lib.hid (HO3.out.thr ht4 hg1).mat
    have HQ4 := Lib.hid ho4.mat
    have HB4 := Lib.hid (HB3.out.trans ht4.below)
    clear ho4 hs4 ht4
    go_wp2
    go_ret2
    exact ⟨_, _, _, R, _, _, _, R4, rfl, HO4.out, HQ4.out, HB4.out⟩
  · have e0 : (x == 0) = false := by simpa using hx0
    cases hR : M.isMat R
    · have HR := Lib.hid hR
      clear hR
      go_wp2_with fail
      refine (sIsMatrixB_b _ _ _ R _ false HR.out HO3.out.mat).mono ?_
      rintro e w5 ⟨rfl, hb5⟩
      have HO5 := Lib.hid (HO3.out.below hb5)
      have HS5 := Lib.hid (HS3.out.below (hb5.mono hg3))
      have HB5 := Lib.hid (bnext HB3.out hb5)
      clear hb5
      go_wp2_with fail
      refine (draw _ _ HS5.out).mono ?_
      rintro e w4 ⟨a4, n4, c4, R4, rfl, ho4, hs4, ht4⟩
      have HO4 := Lib.hid (HO5.out.thr ht4 hg1).mat
      have HQ4 := Lib.hid ho4.mat
      have HB4 := Lib.hid (HB5.out.trans ht4.below)
      clear ho4 hs4 ht4
      go_wp2
      go_ret2
      exact ⟨_, _, _, R, _, _, _, R4, rfl, HO4.out, HQ4.out, HB4.out⟩
    · have HR := Lib.hid hR
      obtain ⟨m1, m2, l1, l2, -, -⟩ := M.isMat_t hR
      rw [← HO3.out.len] at m1 m2
      clear hR
      go_wp2_with fail
      refine (sIsMatrixB_b _ _ _ R _ true HR.out HO3.out.mat).mono ?_
      rintro e w5 ⟨rfl, hb5⟩
      have HO5 := Lib.hid (HO3.out.below hb5)
      have HS5 := Lib.hid (HS3.out.below (hb5.mono hg3))
      have HB5 := Lib.hid (bnext HB3.out hb5)
      have hg5 : w.heap.size < w5.heap.size := HS5.out.lt
      clear hb5
      obtain ⟨b, off, ra, L, rc, rfl, hL, hc⟩ := HO5.out.mat.first (by omega)
      have hbb : w.heap.size < b := by have := HO5.out.ge' ; omega
      rw [← hL] at l1 l2
      clear hL HO3 HS3
      have HO6 := Lib.hid (HO5.out.keep (w' := w5.drew) (fun _ _ _ => rfl))
      have HS6 : Hid (Src w5.drew w.heap.size) := HS5.out
      have HB6 := Lib.hid HB5.out.drew
      go_wp2
      go_region_with (first | (go_at_call 69; refine (next _ 4 _ (by decide) HS6.out).mono ?_; rintro e wx ⟨y, rfl, hy1, hy2, hs, ht⟩; have hcx := thr_drew_cell ht hc hbb; have HSX := Lib.hid hs; have HTX := Lib.hid ht; obtain ⟨y, rfl⟩ := Int.eq_ofNat_of_zero_le hy1; have hy3 : y < 4 := (by omega); have E1 := wrap_nat y hy3; clear hs ht hy2 hy1) | (go_at_call 70; refine (drawSize _ L (1 + y) _ HSX.out l1 (by omega) (by omega) (by omega)).mono ?_; rintro e wz ⟨a6, n6, c6, R6, rfl, ho6, hs6, ht6⟩; have HTZ := Lib.hid (HTX.out.trans ht6); have HQ6 := Lib.hid ho6.mat; clear ho6 hs6 ht6))
      all_goals
        go_wp2
        go_ret2
        exact ⟨_, _, _, R, _, _, _, R6, rfl, (HO6.out.thr HTZ.out hg1).mat, HQ6.out, HB6.out.trans HTZ.out.below⟩
end Go.Proofs.Ytichbgffpflldaa.V
