/- Texts laid together: Drp, Drq, Drs, Thn, Ptl. -/
import Derived.Test.YtihpbgjiohnekabGreatQz20
import Derived.Test.YtihpbgjiohnekabGreatQz9
import Derived.Test.YtihpbgjiohnekabGreatQz8
import Derived.Deep.WholeRow
import Derived.Test.YtihpbgjiohnekabGreatQz19
import Derived.Test.YtihpbgjiohnekabGreatQz10
import Derived.Test.YtihpbgjiohnekabGreatQz3
import Derived.Test.YtihpbgjiohnekabGreatQz2
set_option linter.unusedSimpArgs false
set_option linter.unusedVariables false
set_option linter.unusedSectionVars false
namespace Go.Proofs.YtihpbgjiohnekabGreat.V
set_option maxRecDepth 100000
open Go.RowKit
/-- A drawn matrix and a drawn ratio. -/
def DrawRB (g : Nat) (w : World) (e : Ending) (w' : World) : Prop :=
  ∃ (a : Option Addr) (n cap : Nat) (R : List (List Int)) (x y : Int), e = .returned (.tuple #[.slice a n cap, .agg #[.int .i64 x, .int .i64 y]]) ∧ n ≤ 200 ∧ OwnM w' w.heap.size (.slice a n cap) R ∧ Src w' g ∧ Thr g w w'
theorem mean_bd {R : List (List Int)} (h : (M.cycMeanRes R).2 = 0) : -1000000 ≤ (M.cycMeanRes R).1.1 ∧ (M.cycMeanRes R).1.1 ≤ 1000000 ∧ 1 ≤ (M.cycMeanRes R).1.2 ∧ (M.cycMeanRes R).1.2 ≤ 10 := by
  obtain ⟨h1, h2, h3, h4⟩ := M.cyc_t h
  obtain ⟨n1, n2, hA⟩ := M.sq_sm h1
  obtain ⟨⟨b1, -⟩, -, -, -, b2⟩ := M.bestR_best n2 hA h2
  rw [h4]
  have := M.isRat_t h3
  show -1000000 ≤ (M.bestR (M.ent R) R.length).1 ∧ (M.bestR (M.ent R) R.length).1 ≤ 1000000 ∧ 1 ≤ (M.bestR (M.ent R) R.length).2 ∧ (M.bestR (M.ent R) R.length).2 ≤ 10
  exact ⟨by omega, by omega, b1, b2⟩
theorem frz_box (w : World) (x y : Int) (i : Nat) : (w.alloc (rbox x y)).frozen? ⟨w.heap.size, i, none⟩ = false := by
  have hg : (w.alloc (rbox x y)).heap[w.heap.size]? = some (.cells #[.int .i64 x, .int .i64 y] 26 (0, 0)) := heap_alloc_last _ _
  unfold World.frozen?
  simp only [hg]
  simp
theorem box_thr {g : Nat} {w0 w w' : World} {x y : Int} (h : w = w0.alloc (rbox x y)) (hg : g < w0.heap.size) (ht : Thr g w w') :
    (w'.cell? ⟨w0.heap.size, 0, none⟩ = some (.int .i64 x) ∧ w'.cell? ⟨w0.heap.size, 1, none⟩ = some (.int .i64 y)) ∧ w'.frozen? ⟨w0.heap.size, 0, none⟩ = false ∧ w'.frozen? ⟨w0.heap.size, 1, none⟩ = false ∧ w0.heap.size < w'.heap.size := by
  subst h
  have hz := ht.below.size
  simp at hz
  refine ⟨⟨?_, ?_⟩, ?_, ?_, by omega⟩
  · rw [ht.cell (p := ⟨w0.heap.size, 0, none⟩) (by simp) (by show w0.heap.size ≠ g; omega)]; simp
  · rw [ht.cell (p := ⟨w0.heap.size, 1, none⟩) (by simp) (by show w0.heap.size ≠ g; omega)]; simp
  · rw [ht.frozen (p := ⟨w0.heap.size, 0, none⟩) (by simp) (by show g < w0.heap.size; omega)]; exact frz_box _ _ _ _
  · rw [ht.frozen (p := ⟨w0.heap.size, 1, none⟩) (by simp) (by show g < w0.heap.size; omega)]; exact frz_box _ _ _ _
set_option maxRecDepth 100000 in
set_option maxHeartbeats 4000000 in
theorem drawRat4 (g : Nat) (w0 : World) (h : Src w0 g) : Calls Tryz.prog 68 #[.pointer (some ⟨g, 0, none⟩)] w0 (DrawRB g w0) := by
  obtain ⟨w, hwd⟩ : ∃ w, w = w0.alloc (rbox 0 0) := ⟨_, rfl⟩
  have HX : Hid (Boxed w0 w 0 0) := by show Boxed _ _ _ _; rw [hwd]; exact boxed _ _ _
  have hgl := h.lt
  have hsz : w.heap.size = w0.heap.size + 1 := by rw [hwd]; simp
  have HS := Lib.hid (show Src w g by rw [hwd]; exact h.alloc _)
  have HT := Lib.hid (show Thr g w0 w by rw [hwd]; exact (Thr.refl g w0).alloc (by omega) _)
  have HSz := Lib.hid hsz
  have hgw : g < w.heap.size := by omega
  clear h hsz
  go_enter Tryz.func68, Tryz.ntmps68
  go_wp2_with fail
  change Calls _ _ _ (w0.alloc (rbox 0 0)) _
  rw [← hwd]
  refine (draw4 g _ HS.out).mono ?_
  rintro e w2 ⟨a2, n2, c2, R, rfl, hn2, ho, hs2, ht2⟩
  have HO2 := Lib.hid ho
  have HS2 := Lib.hid hs2
  have HT2 := Lib.hid ht2
  clear ho hs2 ht2
  obtain ⟨cv, hcv⟩ : ∃ cv, cv = M.cycMeanRes R := ⟨_, rfl⟩
  have hbd := mean_bd (R := R)
  rw [← hcv] at hbd
  have HCV := Lib.hid hcv
  clear hcv
  obtain ⟨⟨c1, c2'⟩, c3⟩ := cv
  go_wp2_with fail
  refine (sCycleMean _ _ _ R _ HO2.out.mat).mono ?_
  rintro e w3 ⟨rfl, hb⟩
  rw [← HCV.out]
  have hz2 := HT2.out.below.size
  have hg2 := HS2.out.lt
  have ht3 : Thr g w2 w3 := Thr.of_below hb (by omega)
  have HO3 := Lib.hid (HO2.out.below hb)
  have HS3 := Lib.hid (HS2.out.below (hb.mono hg2))
  have HT3 := Lib.hid (HT2.out.trans ht3)
  have hz3 := hb.size
  clear hb ht3 HO2 HS2 HT2
  obtain ⟨w4, hw4⟩ : ∃ x, x = w3.alloc (rbox c1 c2') := ⟨_, rfl⟩
  have HW4 := Lib.hid hw4
  have HO4 : Hid (OwnM w4 w.heap.size (.slice a2 n2 c2) R) := by show OwnM _ _ _ _; rw [hw4]; exact HO3.out.below (b_alloc _ _)
  have HS4 : Hid (Src w4 g) := by show Src _ _; rw [hw4]; exact HS3.out.alloc _
  have HT4 : Hid (Thr g w w4) := by show Thr _ _ _; rw [hw4]; exact HT3.out.alloc (by omega) _
  have HWD := Lib.hid hwd
  clear hwd HO3 HS3 HT3
  by_cases hc : c3 = 0
  · subst hc
    obtain ⟨k1, k2, k3, k4⟩ := hbd rfl
    have k1 : -1000000 ≤ c1 := k1
    have k2 : c1 ≤ 1000000 := k2
    have k3 : 1 ≤ c2' := k3
    have k4 : c2' ≤ 10 := k4
    clear hbd
    go_wp2_with fail
    change Calls _ _ _ (w3.alloc (rbox c1 c2')) _
    rw [← hw4]
    clear hw4
    refine (next g 4 _ (by decide) HS4.out).mono ?_
    rintro e w5 ⟨x, rfl, -, -, hs5, ht5⟩
    have HO5 := Lib.hid (HO4.out.thr ht5 hgw)
    have HS5 := Lib.hid hs5
    have HT5 := Lib.hid (HT4.out.trans ht5)
    have HU5 := Lib.hid ht5
    clear hs5 ht5
    by_cases hx : x = 0
    · subst hx
      go_wp2_with fail
      refine (drawRatio g _ HS5.out).mono ?_
      rintro e w6 ⟨x1, y1, rfl, hx, hy, hs6, ht6⟩
      have HO6 := Lib.hid (HO5.out.thr ht6 hgw)
      have HS6 := Lib.hid hs6
      have HT6 := Lib.hid (HT.out.trans (HT5.out.trans ht6))
      obtain ⟨⟨r0, r1⟩, z0, z1, hlt⟩ := box_thr HWD.out hgl (HT5.out.trans ht6)
      clear hs6 ht6
      go_wp2
      exact bodyPost_ret (v := .tuple #[.slice a2 n2 c2, .agg #[.int .i64 x1, .int .i64 y1]]) (by simp [results, Tryz.results68, go_sem, r0, r1]) rfl
        ⟨_, _, _, R, _, _, rfl, hn2, (HO6.out.keep (fun k h1 _ => (Below.heap_setCell _ _ _ _ (by have := HSz.out; show k ≠ w0.heap.size; omega)).trans (Below.heap_setCell _ _ _ _ (by have := HSz.out; show k ≠ w0.heap.size; omega)))).mono (by have := HSz.out; omega), (HS6.out.setNew hgl _).setNew hgl _, (HT6.out.setNew (Nat.le_refl _) (Nat.le_of_lt hgl) _).setNew (Nat.le_refl _) (Nat.le_of_lt hgl) _⟩
    · have ex : (x == 0) = false := by simpa using hx
      go_wp2_with fail
      refine (next g 2 _ (by decide) HS5.out).mono ?_
      rintro e w6 ⟨y, rfl, -, -, hs6, ht6⟩
      have HO6 := Lib.hid (HO5.out.thr ht6 hgw)
      have HS6 := Lib.hid hs6
      have HT6 := Lib.hid (HT.out.trans (HT5.out.trans ht6))
      obtain ⟨⟨r0, r1⟩, z0, z1, hlt⟩ := box_thr HWD.out hgl (HT5.out.trans ht6)
      obtain ⟨⟨u0, u1⟩, v0, v1, hlt2⟩ := box_thr HW4.out (by omega) (HU5.out.trans ht6)
      have HV6 := Lib.hid (HT5.out.trans ht6)
      have HU6 := Lib.hid (HU5.out.trans ht6)
      clear hs6 ht6
      by_cases hy : y = 0
      · subst hy
        go_wp2
        go_region
        all_goals
          go_wp2
          exact bodyPost_ret (v := .tuple #[.slice a2 n2 c2, .agg #[.int .i64 c1, .int .i64 c2']]) (by simp [results, Tryz.results68, go_sem, r0, r1]) rfl
            ⟨_, _, _, R, _, _, rfl, hn2, (HO6.out.keep (fun k h1 _ => (Below.heap_setCell _ _ _ _ (by have := HSz.out; show k ≠ w0.heap.size; omega)).trans (Below.heap_setCell _ _ _ _ (by have := HSz.out; show k ≠ w0.heap.size; omega)))).mono (by have := HSz.out; omega), (HS6.out.setNew hgl _).setNew hgl _, ((HT6.out.setNew (Nat.le_refl _) (Nat.le_of_lt hgl) _).setNew (Nat.le_refl _) (Nat.le_of_lt hgl) _).drew⟩
      · have ey : (y == 0) = false := by simpa using hy
        go_wp2
        go_region_with (first
          | (go_at_call 138; rw [IntWalk.i64_in (c1 + p) (by omega), IntWalk.i64_in (c1 + p - 2) (by omega), IntWalk.i64_in (c2' + q) (by omega)]; refine (sRatio _ _ _ (by omega) (by omega) (by omega) (by omega) (by omega)).mono ?_; rintro e w9 ⟨rfl, hb9⟩; have HT9 := Lib.hid (HV8.out.trans (Thr.of_below hb9 (by omega))); have HS9 := Lib.hid (HS8.out.below (hb9.mono (by omega))); have HO9 := Lib.hid (HO8.out.below hb9); obtain ⟨⟨r0, r1⟩, z0, z1, hlt⟩ := box_thr HWD.out hgl HT9.out)
          | (have _g := HS7.out; clear _g; go_at_call 94; refine (next g 2 _ (by decide) (by exact HS7.out)).mono ?_; rintro e w8 ⟨q, rfl, hq1, hq2, hs8, ht8⟩; have HS8 := Lib.hid hs8; have HV8 : Hid (Thr g w w8) := Lib.hid (by first | exact HV7.out.trans ht8 | exact HV7.out.drew.trans ht8); have HU8 : Hid (Thr g w4 w8) := Lib.hid (by first | exact HU7.out.trans ht8 | exact HU7.out.drew.trans ht8); have HO8 : Hid (OwnM w8 w.heap.size (.slice a2 n2 c2) R) := Lib.hid (by first | exact HO7.out.thr ht8 hgw | exact OwnM.thr (HO7.out.keep (w' := w7.drew) (fun _ _ _ => rfl)) ht8 hgw); obtain ⟨⟨r0, r1⟩, z0, z1, hlt⟩ := box_thr HWD.out hgl HV8.out; obtain ⟨⟨u0, u1⟩, v0, v1, hlt8⟩ := box_thr HW4.out (by omega) HU8.out; clear hs8 ht8)
          | (go_at_call 94; refine (next g 7 _ (by decide) (by exact HS6.out)).mono ?_; rintro e w7 ⟨p, rfl, hp1, hp2, hs7, ht7⟩; have HS7 := Lib.hid hs7; have HV7 : Hid (Thr g w w7) := Lib.hid (by first | exact HV6.out.trans ht7 | exact HV6.out.drew.trans ht7); have HU7 : Hid (Thr g w4 w7) := Lib.hid (by first | exact HU6.out.trans ht7 | exact HU6.out.drew.trans ht7); have HO7 : Hid (OwnM w7 w.heap.size (.slice a2 n2 c2) R) := Lib.hid (by first | exact HO6.out.thr ht7 hgw | exact OwnM.thr (HO6.out.keep (w' := w6.drew) (fun _ _ _ => rfl)) ht7 hgw); obtain ⟨⟨r0, r1⟩, z0, z1, hlt⟩ := box_thr HWD.out hgl HV7.out; obtain ⟨⟨u0, u1⟩, v0, v1, hlt7⟩ := box_thr HW4.out (by omega) HU7.out; clear hs7 ht7))
        all_goals
          have hTf : Thr g w0 w9 := HT.out.trans HT9.out
          have hOf := HO9.out
          have hSf := HS9.out
          go_wp2
          exact bodyPost_ret (v := .tuple #[.slice a2 n2 c2, .agg #[.int .i64 (M.ratN (c1 + p - 2) (c2' + q)), .int .i64 (M.ratD (c1 + p - 2) (c2' + q))]]) (by simp [results, Tryz.results68, go_sem, r0, r1]) rfl
            ⟨_, _, _, R, _, _, rfl, hn2, (hOf.keep (fun k h1 _ => (Below.heap_setCell _ _ _ _ (by have := HSz.out; show k ≠ w0.heap.size; omega)).trans (Below.heap_setCell _ _ _ _ (by have := HSz.out; show k ≠ w0.heap.size; omega)))).mono (by have := HSz.out; omega), (hSf.setNew hgl _).setNew hgl _, (hTf.setNew (Nat.le_refl _) (Nat.le_of_lt hgl) _).setNew (Nat.le_refl _) (Nat.le_of_lt hgl) _⟩
  · have hcn : (c3 == 0) = false := by simpa using hc
    go_wp2_with fail
    change Calls _ _ _ (w3.alloc (rbox c1 c2')) _
    rw [← hw4]
    clear hw4
    refine (drawRatio g _ HS4.out).mono ?_
    rintro e w6 ⟨x1, y1, rfl, hx, hy, hs6, ht6⟩
    have HO6 := Lib.hid (HO4.out.thr ht6 hgw)
    have HS6 := Lib.hid hs6
    have HT6 := Lib.hid (HT.out.trans (HT4.out.trans ht6))
    obtain ⟨⟨r0, r1⟩, z0, z1, hlt⟩ := box_thr HWD.out hgl (HT4.out.trans ht6)
    clear hs6 ht6
    go_wp2
    exact bodyPost_ret (v := .tuple #[.slice a2 n2 c2, .agg #[.int .i64 x1, .int .i64 y1]]) (by simp [results, Tryz.results68, go_sem, r0, r1]) rfl
      ⟨_, _, _, R, _, _, rfl, hn2, (HO6.out.keep (fun k h1 _ => (Below.heap_setCell _ _ _ _ (by have := HSz.out; show k ≠ w0.heap.size; omega)).trans (Below.heap_setCell _ _ _ _ (by have := HSz.out; show k ≠ w0.heap.size; omega)))).mono (by have := HSz.out; omega), (HS6.out.setNew hgl _).setNew hgl _, (HT6.out.setNew (Nat.le_refl _) (Nat.le_of_lt hgl) _).setNew (Nat.le_refl _) (Nat.le_of_lt hgl) _⟩
end Go.Proofs.YtihpbgjiohnekabGreat.V

namespace Go.Proofs.YtihpbgjiohnekabGreat.V
set_option maxRecDepth 100000
open Go.RowKit
/-- A drawn matrix, a drawn ratio and a drawn list. -/
def DrawPR (g : Nat) (w : World) (e : Ending) (w' : World) : Prop :=
  ∃ (a : Option Addr) (n cap : Nat) (R : List (List Int)) (x y : Int) (b : Option Addr) (N c : Nat) (l : List Int), e = .returned (.tuple #[.slice a n cap, .agg #[.int .i64 x, .int .i64 y], .slice b N c]) ∧ n ≤ 200 ∧ OwnM w' w.heap.size (.slice a n cap) R ∧ Own w' w.heap.size (.slice b N c) l ∧ Src w' g ∧ Thr g w w'
theorem potRes_pos7 {R : List (List Int)} {a b : Int} (h : (M.potRes R a b).2 = 0) : 1 ≤ (M.potRes R a b).1.length ∧ (M.potRes R a b).1.length ≤ 10 := by
  unfold M.potRes at h ⊢
  by_cases h1 : (M.sqB R && M.isRat a b) = true
  · rw [if_pos h1] at h ⊢
    by_cases h2 : M.noPos (M.shf (M.ent R) a b) R.length = true
    · rw [if_pos h2] at h ⊢
      by_cases h3 : M.isVec (M.potL R a b) = true
      · rw [if_pos h3]
        exact ⟨(M.isVec_t h3).1, (M.isVec_t h3).2.1⟩
      · rw [if_neg h3] at h; simp at h
    · rw [if_neg h2] at h; simp at h
  · rw [if_neg h1] at h; simp at h
set_option maxRecDepth 100000 in
set_option maxHeartbeats 4000000 in
theorem drawProof4 (g : Nat) (w0 : World) (h : Src w0 g) : Calls Tryz.prog 80 #[.pointer (some ⟨g, 0, none⟩)] w0 (DrawPR g w0) := by
  obtain ⟨w, hwd⟩ : ∃ w, w = w0.alloc (rbox 0 0) := ⟨_, rfl⟩
  have hgl := h.lt
  have hsz : w.heap.size = w0.heap.size + 1 := by rw [hwd]; simp
  have HS := Lib.hid (show Src w g by rw [hwd]; exact h.alloc _)
  have HT := Lib.hid (show Thr g w0 w by rw [hwd]; exact (Thr.refl g w0).alloc (by omega) _)
  have HSz := Lib.hid hsz
  have hgw : g < w.heap.size := by omega
  clear h hsz
  go_enter Tryz.func80, Tryz.ntmps80
  go_wp2_with fail
  change Calls _ _ _ (w0.alloc (rbox 0 0)) _
  rw [← hwd]
  refine (drawRat4 g _ HS.out).mono ?_
  rintro e w2 ⟨a2, n2, c2, R, r1, r2, rfl, hn2, ho, hs2, ht2⟩
  have HO2 := Lib.hid ho
  have HS2 := Lib.hid hs2
  have HT2 := Lib.hid ht2
  have HWD := Lib.hid hwd
  have hz2 := ht2.below.size
  clear ho hs2 ht2 hwd
  obtain ⟨w3, hw3⟩ : ∃ x, x = w2.alloc (rbox r1 r2) := ⟨_, rfl⟩
  have HW3 := Lib.hid hw3
  have HO3 : Hid (OwnM w3 w.heap.size (.slice a2 n2 c2) R) := by show OwnM _ _ _ _; rw [hw3]; exact HO2.out.below (b_alloc _ _)
  have HS3 : Hid (Src w3 g) := by show Src _ _; rw [hw3]; exact HS2.out.alloc _
  have HT3 : Hid (Thr g w w3) := by show Thr _ _ _; rw [hw3]; exact HT2.out.alloc (by omega) _
  have hz3 : w3.heap.size = w2.heap.size + 1 := by rw [hw3]; simp
  obtain ⟨pv, hpv⟩ : ∃ pv, pv = M.potRes R r1 r2 := ⟨_, rfl⟩
  have hpp := potRes_pos7 (R := R) (a := r1) (b := r2)
  rw [← hpv] at hpp
  have HPV := Lib.hid hpv
  clear hpv HO2 HS2 HT2
  obtain ⟨l, d⟩ := pv
  go_wp2_with fail
  change Calls _ _ _ (w2.alloc (rbox r1 r2)) _
  rw [← hw3]
  clear hw3
  refine (sPotentialOf _ _ _ R r1 r2 _ HO3.out.mat).mono ?_
  rintro e w4 ⟨xa, xn, xc, rfl, ho, hb⟩
  rw [← HPV.out] at ho ⊢
  have ho : Own w4 w3.heap.size (.slice xa xn xc) l := ho
  have hxl : xn = l.length := ho.len
  have ht4 : Thr g w3 w4 := Thr.of_below hb (by omega)
  have HO4 := Lib.hid (HO3.out.below hb)
  have HX4 := Lib.hid ho
  have HS4 := Lib.hid (HS3.out.below (hb.mono (by omega)))
  have HT4 := Lib.hid (HT3.out.trans ht4)
  have HU4 := Lib.hid ht4
  clear ho hb ht4 HS3 HT3
  have hn2w : (Lit.int .i64 (n2 : Int)).wf = true := wf_small _ (by omega) (by omega)
  by_cases hd : d = 0
  · subst hd
    obtain ⟨q1, q2⟩ := hpp rfl
    have q1 : 1 ≤ l.length := q1
    have q2 : l.length ≤ 10 := q2
    have q3 : 1 ≤ xn := by omega
    have q4 : xn ≤ 10 := by omega
    have hxw : (Lit.int .i64 (xn : Int)).wf = true := wf_small _ (by omega) (by omega)
    have HXl := Lib.hid hxl
    have hfx : ∃ xg, xa = some ⟨xg, 0, none⟩ ∧ w3.heap.size ≤ xg ∧ xg < w4.heap.size := by
      obtain ⟨a', c', hv, -, -, hg⟩ := own_form HX4.out
      injection hv with e1 e2 e3
      obtain ⟨xg, hx1, hx2, hx3⟩ := hg (by first | (simp; omega) | omega)
      exact ⟨xg, e1.trans hx1, hx2, hx3⟩
    obtain ⟨xg, rfl, hxg1, hxg2⟩ := hfx
    clear hpp hxl q1 q2
    go_wp2_with fail
    refine (next g 3 _ (by decide) HS4.out).mono ?_
    rintro e w5 ⟨x, rfl, -, -, hs5, ht5⟩
    have HO5 := Lib.hid (HO4.out.thr ht5 hgw)
    have HX5 := Lib.hid (HX4.out.thr ht5 (by omega))
    have HS5 := Lib.hid hs5
    have HV5 := Lib.hid (HT4.out.trans ht5)
    have HU5 := Lib.hid (HU4.out.trans ht5)
    obtain ⟨⟨r0, s1⟩, z0, z1, hlt⟩ := box_thr HWD.out hgl HV5.out
    obtain ⟨⟨u0, u1⟩, v0, v1, hlt2⟩ := box_thr HW3.out (by omega) HU5.out
    clear hs5 ht5
    by_cases hx : x = 0
    · subst hx
      have HOC : Hid (OwnMC w3 w.heap.size w3.heap.size (.slice a2 n2 c2) R) := Lib.hid HO3.out.upto
      go_wp2
      go_region_with (first
        | (have _g := HS6.out; clear _g; go_at_call 94; refine (next g 5 _ (by decide) (by exact HS6.out)).mono ?_; rintro e w7 ⟨y, rfl, hy1, hy2, hs7, ht7⟩; have HS7 := Lib.hid hs7; have HV7 : Hid (Thr g w w7) := Lib.hid (by first | exact HV6.out.trans ht7 | exact HV6.out.drew.trans ht7); have HU7 : Hid (Thr g w3 w7) := Lib.hid (by first | exact HU6.out.trans ht7 | exact HU6.out.drew.trans ht7); have HX7 : Hid (Own w7 w3.heap.size (.slice (some ⟨xg, 0, none⟩) xn xc) l) := Lib.hid (by first | exact HX6.out.thr ht7 (by omega) | exact Own.thr (HX6.out.keep (w' := w6.drew) (fun _ _ _ => rfl)) ht7 (by omega)); have cx := HX7.out.cellAt p hp3; have fx := HX7.out.frozenAt p; clear hs7 ht7)
        | (go_at_call 94; refine (next g (xn : Int) _ hxw (by exact HS5.out)).mono ?_; rintro e w6 ⟨p, rfl, hp1, hp2, hs6, ht6⟩; obtain ⟨p, rfl⟩ := Int.eq_ofNat_of_zero_le hp1; have hp3 : p < xn := (by omega); have hpi : (p : Int) < (xn : Int) := (by omega); have HS6 := Lib.hid hs6; have HV6 : Hid (Thr g w w6) := Lib.hid (by first | exact HV5.out.trans ht6 | exact HV5.out.drew.trans ht6); have HU6 : Hid (Thr g w3 w6) := Lib.hid (by first | exact HU5.out.trans ht6 | exact HU5.out.drew.trans ht6); have HX6 : Hid (Own w6 w3.heap.size (.slice (some ⟨xg, 0, none⟩) xn xc) l) := Lib.hid (by first | exact HX5.out.thr ht6 (by omega) | exact Own.thr (HX5.out.keep (w' := w5.drew) (fun _ _ _ => rfl)) ht6 (by omega)); have cx := HX6.out.cellAt p hp3; have fx := HX6.out.frozenAt p; clear hs6 ht6))
      all_goals
        go_wp2
        generalize IntKind.i64.wrap (l[p]?.getD 0 + IntKind.i64.wrap (y - 2)) = v
        obtain ⟨w8, hw8⟩ : ∃ x, x = w7.setCell ⟨xg, p, none⟩ (.int .i64 v) := ⟨_, rfl⟩
        have HX8 : Hid (Own w8 w3.heap.size (.slice (some ⟨xg, 0, none⟩) xn xc) (l.set p v)) := by show Own _ _ _ _; rw [hw8]; exact Own.set HX7.out p v
        have HU8 : Hid (Thr g w3 w8) := by show Thr _ _ _; rw [hw8]; exact HU7.out.setNew (by show w3.heap.size ≤ xg; omega) (by show g ≤ xg; omega) _
        have HV8 : Hid (Thr g w w8) := by show Thr _ _ _; rw [hw8]; exact HV7.out.setNew (by show w.heap.size ≤ xg; omega) (by show g ≤ xg; omega) _
        have HS8 : Hid (Src w8 g) := by show Src _ _; rw [hw8]; exact HS7.out.setNew (by show g < xg; omega) _
        have HO8 : Hid (OwnM w8 w.heap.size (.slice a2 n2 c2) R) := Lib.hid (HOC.out.keep (fun k h1 h2 => HU8.out.other k (by omega) h2)).own
        obtain ⟨⟨r0, s1⟩, z0, z1, hlt⟩ := box_thr HWD.out hgl HV8.out
        obtain ⟨⟨u0, u1⟩, v0, v1, hlt2⟩ := box_thr HW3.out (by omega) HU8.out
        have hTf : Thr g w0 w8 := HT.out.trans HV8.out
        rw [← hw8]
        clear hw8 cx fx
        go_region
        all_goals
          go_wp2
          exact bodyPost_ret (v := .tuple #[.slice a2 n2 c2, .agg #[.int .i64 r1, .int .i64 r2], .slice (some ⟨xg, 0, none⟩) xn xc]) (by simp [results, Tryz.results80, go_sem, r0, s1]) rfl
            ⟨_, _, _, R, _, _, _, _, _, l.set p v, rfl, hn2, (HO8.out.keep (fun k h1 _ => (Below.heap_setCell _ _ _ _ (by have := HSz.out; show k ≠ w0.heap.size; omega)).trans (Below.heap_setCell _ _ _ _ (by have := HSz.out; show k ≠ w0.heap.size; omega)))).mono (by have := HSz.out; omega), (HX8.out.keep (fun k h1 _ => (Below.heap_setCell _ _ _ _ (by have := HSz.out; show k ≠ w0.heap.size; omega)).trans (Below.heap_setCell _ _ _ _ (by have := HSz.out; show k ≠ w0.heap.size; omega)))).mono (by have := HSz.out; omega), (HS8.out.setNew hgl _).setNew hgl _, (((hTf).setNew (Nat.le_refl _) (Nat.le_of_lt hgl) _).setNew (Nat.le_refl _) (Nat.le_of_lt hgl) _).drew⟩
    · have ex : (x == 0) = false := by simpa using hx
      go_wp2
      go_region
      all_goals
        have hTf : Thr g w0 w5 := HT.out.trans HV5.out
        go_wp2
        exact bodyPost_ret (v := .tuple #[.slice a2 n2 c2, .agg #[.int .i64 r1, .int .i64 r2], .slice (some ⟨xg, 0, none⟩) xn xc]) (by simp [results, Tryz.results80, go_sem, r0, s1]) rfl
          ⟨_, _, _, R, _, _, _, _, _, l, rfl, hn2, (HO5.out.keep (fun k h1 _ => (Below.heap_setCell _ _ _ _ (by have := HSz.out; show k ≠ w0.heap.size; omega)).trans (Below.heap_setCell _ _ _ _ (by have := HSz.out; show k ≠ w0.heap.size; omega)))).mono (by have := HSz.out; omega), (HX5.out.keep (fun k h1 _ => (Below.heap_setCell _ _ _ _ (by have := HSz.out; show k ≠ w0.heap.size; omega)).trans (Below.heap_setCell _ _ _ _ (by have := HSz.out; show k ≠ w0.heap.size; omega)))).mono (by have := HSz.out; omega), (HS5.out.setNew hgl _).setNew hgl _, ((hTf.setNew (Nat.le_refl _) (Nat.le_of_lt hgl) _).setNew (Nat.le_refl _) (Nat.le_of_lt hgl) _).drew⟩
  · have hd1 : (d != 0) = true := by simpa using hd
    obtain ⟨⟨r0, s1⟩, z0, z1, hlt⟩ := box_thr HWD.out hgl HT4.out
    obtain ⟨⟨u0, u1⟩, v0, v1, hlt2⟩ := box_thr HW3.out (by omega) HU4.out
    clear hpp hxl
    go_wp2
    go_region_with (go_at_call 153; refine (drawVector g n2 _ (by exact HS4.out) (by omega)).mono ?_; rintro e w5 ⟨b, N, c, l5, rfl, ho5, hs5, ht5⟩; have HV5 : Hid (Thr g w w5) := Lib.hid (by first | exact HT4.out.trans ht5 | exact HT4.out.drew.trans ht5); have HU5 : Hid (Thr g w3 w5) := Lib.hid (by first | exact HU4.out.trans ht5 | exact HU4.out.drew.trans ht5); have HO5 : Hid (OwnM w5 w.heap.size (.slice a2 n2 c2) R) := Lib.hid (by first | exact HO4.out.thr ht5 hgw | exact OwnM.thr (HO4.out.keep (w' := w4.drew) (fun _ _ _ => rfl)) ht5 hgw); have HX5 : Hid (Own w5 w.heap.size (.slice b N c) l5) := Lib.hid (ho5.mono (by have := HT4.out.below.size; have := HSz.out; simp; omega)); have HS5 := Lib.hid hs5; obtain ⟨⟨r0, s1⟩, z0, z1, hlt⟩ := box_thr HWD.out hgl HV5.out; obtain ⟨⟨u0, u1⟩, v0, v1, hlt2⟩ := box_thr HW3.out (by omega) HU5.out; clear hs5 ht5 ho5)
    all_goals
      have hTf : Thr g w0 w5 := HT.out.trans HV5.out
      go_wp2
      exact bodyPost_ret (v := .tuple #[.slice a2 n2 c2, .agg #[.int .i64 r1, .int .i64 r2], .slice b N c]) (by simp [results, Tryz.results80, go_sem, r0, s1]) rfl
            ⟨_, _, _, R, _, _, _, _, _, l5, rfl, hn2, (HO5.out.keep (fun k h1 _ => (Below.heap_setCell _ _ _ _ (by have := HSz.out; show k ≠ w0.heap.size; omega)).trans (Below.heap_setCell _ _ _ _ (by have := HSz.out; show k ≠ w0.heap.size; omega)))).mono (by have := HSz.out; omega), (HX5.out.keep (fun k h1 _ => (Below.heap_setCell _ _ _ _ (by have := HSz.out; show k ≠ w0.heap.size; omega)).trans (Below.heap_setCell _ _ _ _ (by have := HSz.out; show k ≠ w0.heap.size; omega)))).mono (by have := HSz.out; omega), (HS5.out.setNew hgl _).setNew hgl _, ((hTf).setNew (Nat.le_refl _) (Nat.le_of_lt hgl) _).setNew (Nat.le_refl _) (Nat.le_of_lt hgl) _⟩
end Go.Proofs.YtihpbgjiohnekabGreat.V

namespace Go.Proofs.YtihpbgjiohnekabGreat.V
set_option maxRecDepth 100000
open Go.RowKit
/-- A drawn matrix and a drawn ratio. -/
def DrawnMR (w : World) (e : Ending) (w' : World) : Prop :=
  ∃ (a : Option Addr) (n cap : Nat) (R : List (List Int)) (x y : Int), e = .returned (.tuple #[.slice a n cap, .agg #[.int .i64 x, .int .i64 y]]) ∧ Mat w' a n R ∧ Below w.heap.size w w'
/-- A drawn matrix, a drawn ratio and a drawn list. -/
def DrawnMRV (w : World) (e : Ending) (w' : World) : Prop :=
  ∃ (a : Option Addr) (n cap : Nat) (R : List (List Int)) (x y : Int) (b : Option Addr) (N c : Nat) (l : List Int), e = .returned (.tuple #[.slice a n cap, .agg #[.int .i64 x, .int .i64 y], .slice b N c]) ∧ Mat w' a n R ∧ Ints .i64 w' b N l ∧ Below w.heap.size w w'
theorem box_bel {w0 w w' : World} {x y : Int} (h : w = w0.alloc (rbox x y)) (hb : Below w.heap.size w w') :
    (w'.cell? ⟨w0.heap.size, 0, none⟩ = some (.int .i64 x) ∧ w'.cell? ⟨w0.heap.size, 1, none⟩ = some (.int .i64 y)) ∧ w'.frozen? ⟨w0.heap.size, 0, none⟩ = false ∧ w'.frozen? ⟨w0.heap.size, 1, none⟩ = false ∧ w0.heap.size < w'.heap.size := by
  subst h
  have hz := hb.size
  simp at hz
  refine ⟨⟨?_, ?_⟩, ?_, ?_, by omega⟩
  · rw [hb.cell (p := ⟨w0.heap.size, 0, none⟩) (by simp)]; simp
  · rw [hb.cell (p := ⟨w0.heap.size, 1, none⟩) (by simp)]; simp
  · rw [hb.frozen (p := ⟨w0.heap.size, 0, none⟩) (by simp)]; exact frz_box _ _ _ _
  · rw [hb.frozen (p := ⟨w0.heap.size, 1, none⟩) (by simp)]; exact frz_box _ _ _ _
set_option maxRecDepth 100000 in
set_option maxHeartbeats 1000000 in
theorem drawPotentialOf (a : Option Addr) (n cap : Nat) (w0 : World) (h : Bytes w0 a n) :
    Calls Tryz.prog 11 #[.slice a n cap] w0 (DrawnMR w0) := by
  obtain ⟨w, hwd⟩ : ∃ w, w = w0.alloc (rbox 0 0) := ⟨_, rfl⟩
  have HB := Lib.hid (show Bytes w a n by rw [hwd]; exact h.below (b_alloc _ _))
  have hsz : w.heap.size = w0.heap.size + 1 := by rw [hwd]; simp
  have HSz := Lib.hid hsz
  have HWB := Lib.hid (show Below w0.heap.size w0 w by rw [hwd]; exact b_alloc _ _)
  clear h hsz
  go_enter Tryz.func11, Tryz.ntmps11
  go_wp2_with fail
  change Calls _ _ _ (w0.alloc (rbox 0 0)) _
  rw [← hwd]
  have HWD := Lib.hid hwd
  clear hwd
  refine (from_ _ _ _ _ HB.out).mono ?_
  rintro e w1 ⟨rfl, hs1, hb1⟩
  have HS1 := Lib.hid hs1
  have HB1 := Lib.hid hb1
  clear hs1 hb1
  go_wp2_with fail
  refine (drawRat4 _ _ HS1.out).mono ?_
  rintro e w2 ⟨a2, n2, c2, R, x, y, rfl, -, ho, hs2, ht2⟩
  have HO := Lib.hid ho
  have HB2 := Lib.hid (HB1.out.trans ht2.below)
  obtain ⟨⟨r0, r1⟩, z0, z1, hlt⟩ := box_bel HWD.out HB2.out
  have hz1 := HB1.out.size
  clear ho hs2 ht2
  go_wp2
  exact bodyPost_ret (v := .tuple #[.slice a2 n2 c2, .agg #[.int .i64 x, .int .i64 y]]) (by simp [results, Tryz.results11, go_sem, r0, r1]) rfl
    ⟨_, _, _, R, _, _, rfl, (HO.out.keep (fun k h1 _ => (Below.heap_setCell _ _ _ _ (by have := HSz.out; show k ≠ w0.heap.size; omega)).trans (Below.heap_setCell _ _ _ _ (by have := HSz.out; show k ≠ w0.heap.size; omega)))).mat, ((HWB.out.trans (HB2.out.mono HWB.out.size)).setCell (Nat.le_refl _) _).setCell (Nat.le_refl _) _⟩
set_option maxRecDepth 100000 in
set_option maxHeartbeats 1000000 in
theorem drawShiftMatrix (a : Option Addr) (n cap : Nat) (w0 : World) (h : Bytes w0 a n) :
    Calls Tryz.prog 15 #[.slice a n cap] w0 (DrawnMR w0) := by
  obtain ⟨w, hwd⟩ : ∃ w, w = w0.alloc (rbox 0 0) := ⟨_, rfl⟩
  have HB := Lib.hid (show Bytes w a n by rw [hwd]; exact h.below (b_alloc _ _))
  have hsz : w.heap.size = w0.heap.size + 1 := by rw [hwd]; simp
  have HSz := Lib.hid hsz
  have HWB := Lib.hid (show Below w0.heap.size w0 w by rw [hwd]; exact b_alloc _ _)
  clear h hsz
  go_enter Tryz.func15, Tryz.ntmps15
  go_wp2_with fail
  change Calls _ _ _ (w0.alloc (rbox 0 0)) _
  rw [← hwd]
  have HWD := Lib.hid hwd
  clear hwd
  refine (from_ _ _ _ _ HB.out).mono ?_
  rintro e w1 ⟨rfl, hs1, hb1⟩
  have HS1 := Lib.hid hs1
  have HB1 := Lib.hid hb1
  clear hs1 hb1
  go_wp2_with fail
  refine (drawRat4 _ _ HS1.out).mono ?_
  rintro e w2 ⟨a2, n2, c2, R, x, y, rfl, -, ho, hs2, ht2⟩
  have HO := Lib.hid ho
  have HB2 := Lib.hid (HB1.out.trans ht2.below)
  obtain ⟨⟨r0, r1⟩, z0, z1, hlt⟩ := box_bel HWD.out HB2.out
  have hz1 := HB1.out.size
  clear ho hs2 ht2
  go_wp2
  exact bodyPost_ret (v := .tuple #[.slice a2 n2 c2, .agg #[.int .i64 x, .int .i64 y]]) (by simp [results, Tryz.results15, go_sem, r0, r1]) rfl
    ⟨_, _, _, R, _, _, rfl, (HO.out.keep (fun k h1 _ => (Below.heap_setCell _ _ _ _ (by have := HSz.out; show k ≠ w0.heap.size; omega)).trans (Below.heap_setCell _ _ _ _ (by have := HSz.out; show k ≠ w0.heap.size; omega)))).mat, ((HWB.out.trans (HB2.out.mono HWB.out.size)).setCell (Nat.le_refl _) _).setCell (Nat.le_refl _) _⟩
set_option maxRecDepth 100000 in
set_option maxHeartbeats 1000000 in
theorem drawIsPotential (a : Option Addr) (n cap : Nat) (w0 : World) (h : Bytes w0 a n) :
    Calls Tryz.prog 14 #[.slice a n cap] w0 (DrawnMRV w0) := by
  obtain ⟨w, hwd⟩ : ∃ w, w = w0.alloc (rbox 0 0) := ⟨_, rfl⟩
  have HB := Lib.hid (show Bytes w a n by rw [hwd]; exact h.below (b_alloc _ _))
  have hsz : w.heap.size = w0.heap.size + 1 := by rw [hwd]; simp
  have HSz := Lib.hid hsz
  have HWB := Lib.hid (show Below w0.heap.size w0 w by rw [hwd]; exact b_alloc _ _)
  clear h hsz
  go_enter Tryz.func14, Tryz.ntmps14
  go_wp2_with fail
  change Calls _ _ _ (w0.alloc (rbox 0 0)) _
  rw [← hwd]
  have HWD := Lib.hid hwd
  clear hwd
  refine (from_ _ _ _ _ HB.out).mono ?_
  rintro e w1 ⟨rfl, hs1, hb1⟩
  have HS1 := Lib.hid hs1
  have HB1 := Lib.hid hb1
  clear hs1 hb1
  go_wp2_with fail
  refine (drawProof4 _ _ HS1.out).mono ?_
  rintro e w2 ⟨a2, n2, c2, R, x, y, b, N, c, l, rfl, -, ho, hv, hs2, ht2⟩
  have HO := Lib.hid ho
  have HV := Lib.hid hv
  have HB2 := Lib.hid (HB1.out.trans ht2.below)
  obtain ⟨⟨r0, r1⟩, z0, z1, hlt⟩ := box_bel HWD.out HB2.out
  have hz1 := HB1.out.size
  clear ho hv hs2 ht2
  go_wp2
  exact bodyPost_ret (v := .tuple #[.slice a2 n2 c2, .agg #[.int .i64 x, .int .i64 y], .slice b N c]) (by simp [results, Tryz.results14, go_sem, r0, r1]) rfl
    ⟨_, _, _, R, _, _, _, _, _, l, rfl, (HO.out.keep (fun k h1 _ => (Below.heap_setCell _ _ _ _ (by have := HSz.out; show k ≠ w0.heap.size; omega)).trans (Below.heap_setCell _ _ _ _ (by have := HSz.out; show k ≠ w0.heap.size; omega)))).mat, (HV.out.keep (fun k h1 _ => (Below.heap_setCell _ _ _ _ (by have := HSz.out; show k ≠ w0.heap.size; omega)).trans (Below.heap_setCell _ _ _ _ (by have := HSz.out; show k ≠ w0.heap.size; omega)))).ints', ((HWB.out.trans (HB2.out.mono HWB.out.size)).setCell (Nat.le_refl _) _).setCell (Nat.le_refl _) _⟩
end Go.Proofs.YtihpbgjiohnekabGreat.V

namespace Go.Proofs.YtihpbgjiohnekabGreat.V
open Go.RowKit
theorem thn {a b c : World} (h1 : Below a.heap.size a b) (h2 : Below b.heap.size b c) : Below a.heap.size a c := h1.trans (h2.mono h1.size)
end Go.Proofs.YtihpbgjiohnekabGreat.V

namespace Go.Proofs.YtihpbgjiohnekabGreat
namespace M
theorem pot_law {R : List (List Int)} {a b : Int} (hm : (cycMeanRes R).2 = 0) (hb : (potRes R a b).2 ≠ 1) :
    (cmpOf (cycMeanRes R).1.1 (cycMeanRes R).1.2 a b).2 = 0 ∧ ((potRes R a b).2 = 5 → 0 < (cmpOf (cycMeanRes R).1.1 (cycMeanRes R).1.2 a b).1) ∧ ((potRes R a b).2 ≠ 5 → (cmpOf (cycMeanRes R).1.1 (cycMeanRes R).1.2 a b).1 ≤ 0) := by
  obtain ⟨h1, h2, h3, h4⟩ := cyc_t hm
  rw [h4]
  show (cmpOf (bestR (ent R) R.length).1 (bestR (ent R) R.length).2 a b).2 = 0 ∧ _ ∧ _
  unfold potRes at hb ⊢
  by_cases hr : isRat a b = true
  · rw [h1, hr] at hb ⊢
    have hc := pot_cmp h1 h2 hr
    have e : cmpOf (bestR (ent R) R.length).1 (bestR (ent R) R.length).2 a b = (cmpZ ((bestR (ent R) R.length).1 * b) (a * (bestR (ent R) R.length).2), 0) := by
      unfold cmpOf; rw [h3, hr]; rfl
    rw [e]
    refine ⟨rfl, ?_, ?_⟩
    · intro h
      rw [if_pos (by rfl)] at h
      by_cases hp : noPos (shf (ent R) a b) R.length = true
      · rw [if_pos hp] at h
        split at h <;> simp at h
      · have : ¬ ((bestR (ent R) R.length).1 * b ≤ a * (bestR (ent R) R.length).2) := fun q => hp (by rw [hc]; exact decide_eq_true q)
        show 0 < cmpZ _ _
        unfold cmpZ
        split <;> (try split) <;> omega
    · intro h
      rw [if_pos (by rfl)] at h
      by_cases hp : noPos (shf (ent R) a b) R.length = true
      · rw [hc] at hp
        have := of_decide_eq_true hp
        show cmpZ _ _ ≤ 0
        unfold cmpZ
        split <;> (try split) <;> omega
      · rw [if_neg hp] at h; exact absurd rfl h
  · have : (sqB R && isRat a b) = false := by rw [h1]; simpa using hr
    rw [this] at hb
    exact absurd rfl hb
end M
end Go.Proofs.YtihpbgjiohnekabGreat
