/- Texts laid together: Drt. -/
import Derived.Test.YtihpbgjiohnekabGreatQz24
import Derived.Test.YtihpbgjiohnekabGreatQz19
import Derived.Test.YtihpbgjiohnekabGreatQz9
set_option linter.unusedSimpArgs false
set_option linter.unusedVariables false
set_option linter.unusedSectionVars false
namespace Go.Proofs.YtihpbgjiohnekabGreat.V
set_option maxRecDepth 100000
open Go.RowKit
/-- A drawn matrix, a drawn ratio and two drawn lists. -/
def DrawnMRVV (w : World) (e : Ending) (w' : World) : Prop :=
  ∃ (a : Option Addr) (n cap : Nat) (R : List (List Int)) (x y : Int) (b : Option Addr) (N c : Nat) (l : List Int) (b' : Option Addr) (N' c' : Nat) (l' : List Int), e = .returned (.tuple #[.slice a n cap, .agg #[.int .i64 x, .int .i64 y], .slice b N c, .slice b' N' c']) ∧ Mat w' a n R ∧ Ints .i64 w' b N l ∧ Ints .i64 w' b' N' l' ∧ N ≤ c ∧ c ≤ maxLen ∧ Below w.heap.size w w'
set_option maxRecDepth 100000 in
set_option maxHeartbeats 4000000 in
theorem drawIsMeanCertificate (a : Option Addr) (n cap : Nat) (w0 : World) (h : Bytes w0 a n) :
    Calls Tryz.prog 27 #[.slice a n cap] w0 (DrawnMRVV w0) := by
  obtain ⟨w, hwd⟩ : ∃ w, w = w0.alloc (rbox 0 0) := ⟨_, rfl⟩
  have HB := Lib.hid (show Bytes w a n by rw [hwd]; exact h.below (b_alloc _ _))
  have hsz : w.heap.size = w0.heap.size + 1 := by rw [hwd]; simp
  have HSz := Lib.hid hsz
  have HWB := Lib.hid (show Below w0.heap.size w0 w by rw [hwd]; exact b_alloc _ _)
  clear h hsz
  go_enter Tryz.func27, Tryz.ntmps27
  go_wp2_with fail
  change Calls _ _ _ (w0.alloc (rbox 0 0)) _
  rw [← hwd]
  have HWD := Lib.hid hwd
  clear hwd
  refine (from_ _ _ _ _ HB.out).mono ?_
  rintro e w1 ⟨rfl, hs1, hb1⟩
  have HS1 := Lib.hid hs1
  have HB1 := Lib.hid hb1
  have hg1 := hs1.lt
  clear hs1 hb1
  go_wp2_with fail
  refine (drawProof4 _ _ HS1.out).mono ?_
  rintro e w2 ⟨a2, n2, c2, R, r1, r2, xa, xn, xc, x, rfl, hn2, ho, hx, hs2, ht2⟩
  have HO2 := Lib.hid ho
  have HX2 := Lib.hid hx
  have HS2 := Lib.hid hs2
  have HB2 := Lib.hid (HB1.out.trans ht2.below)
  have hz2 := ht2.below.size
  clear ho hx hs2 ht2
  obtain ⟨w3, hw3⟩ : ∃ x, x = w2.alloc (rbox r1 r2) := ⟨_, rfl⟩
  have HW3 := Lib.hid hw3
  have HO3 : Hid (OwnM w3 w1.heap.size (.slice a2 n2 c2) R) := by show OwnM _ _ _ _; rw [hw3]; exact HO2.out.below (b_alloc _ _)
  have HX3 : Hid (Own w3 w1.heap.size (.slice xa xn xc) x) := by show Own _ _ _ _; rw [hw3]; exact HX2.out.below (b_alloc _ _)
  have HS3 : Hid (Src w3 w.heap.size) := by show Src _ _; rw [hw3]; exact HS2.out.alloc _
  have HB3 : Hid (Below w.heap.size w w3) := by show Below _ _ _; rw [hw3]; exact HB2.out.alloc HB2.out.size _
  have hz3 : w3.heap.size = w2.heap.size + 1 := by rw [hw3]; simp
  have hgl : w.heap.size < w2.heap.size := by omega
  clear HO2 HX2 HS2
  obtain ⟨bv, hbv⟩ : ∃ bv, bv = M.bestRes R := ⟨_, rfl⟩
  have HBV := Lib.hid hbv
  clear hbv
  obtain ⟨l, d⟩ := bv
  go_wp2_with fail
  change Calls _ _ _ (w2.alloc (rbox r1 r2)) _
  rw [← hw3]
  clear hw3
  refine (sBestCycle _ _ _ R _ HO3.out.mat).mono ?_
  rintro e w4 ⟨la, ln, lc, rfl, ho, hb⟩
  rw [← HBV.out] at ho ⊢
  have HL4 : Hid (Own w4 w3.heap.size (.slice la ln lc) l) := Lib.hid ho
  have HO4 := Lib.hid (HO3.out.below hb)
  have HX4 := Lib.hid (HX3.out.below hb)
  have HS4 := Lib.hid (HS3.out.below (hb.mono (by omega)))
  have HB4 := Lib.hid (HB3.out.trans (hb.mono HB3.out.size))
  have HU4 : Hid (Thr w.heap.size w3 w4) := Lib.hid (Thr.of_below hb (by omega))
  have hz4 := hb.size
  clear ho hb HO3 HX3 HS3
  by_cases hd : d = 0
  · subst hd
    go_wp2_with fail
    refine (next _ 4 _ (by decide) HS4.out).mono ?_
    rintro e w5 ⟨y, rfl, -, -, hs5, ht5⟩
    have HL5 := Lib.hid (HL4.out.thr ht5 (by omega))
    have HO5 := Lib.hid (HO4.out.thr ht5 hg1)
    have HX5 := Lib.hid (HX4.out.thr ht5 hg1)
    have HS5 := Lib.hid hs5
    have HB5 := Lib.hid (HB4.out.trans ht5.below)
    have HU5 := Lib.hid (HU4.out.trans ht5)
    have hz5 := ht5.below.size
    clear hs5 ht5
    by_cases hy : y = 0
    · subst hy
      go_wp2_with fail
      refine (drawNodes _ n2 c2 _ a2 R _ HS5.out HO5.out hg1 hn2).mono ?_
      rintro e w6 ⟨na, nn, nc, nl, rfl, hn6, hs6, ht6⟩
      have HN6 := Lib.hid hn6
      have HO6 := Lib.hid (HO5.out.thr ht6 hg1)
      have HX6 := Lib.hid (HX5.out.thr ht6 hg1)
      have HB6 := Lib.hid (HB5.out.trans ht6.below)
      have HU6 := Lib.hid (HU5.out.trans ht6)
      have hz6 := ht6.below.size
      clear hn6 hs6 ht6
      obtain ⟨⟨r0, s1⟩, z0, z1, hlt⟩ := box_bel HWD.out HB6.out
      obtain ⟨⟨u0, u1⟩, v0, v1, hlt2⟩ := box_thr HW3.out hgl HU6.out
      obtain ⟨q1, q2⟩ := own_caps HN6.out
      go_wp2
      go_region
      all_goals
        go_wp2
        exact bodyPost_ret (v := .tuple #[.slice a2 n2 c2, .agg #[.int .i64 r1, .int .i64 r2], .slice na nn nc, .slice xa xn xc]) (by simp [results, Tryz.results27, go_sem, r0, s1]) rfl
          ⟨_, _, _, R, _, _, _, _, _, nl, _, _, _, x, rfl, (HO6.out.keep (fun k h1 _ => (Below.heap_setCell _ _ _ _ (by have := HSz.out; show k ≠ w0.heap.size; omega)).trans (Below.heap_setCell _ _ _ _ (by have := HSz.out; show k ≠ w0.heap.size; omega)))).mat, (HN6.out.keep (fun k h1 _ => (Below.heap_setCell _ _ _ _ (by have := HSz.out; show k ≠ w0.heap.size; omega)).trans (Below.heap_setCell _ _ _ _ (by have := HSz.out; show k ≠ w0.heap.size; omega)))).ints', (HX6.out.keep (fun k h1 _ => (Below.heap_setCell _ _ _ _ (by have := HSz.out; show k ≠ w0.heap.size; omega)).trans (Below.heap_setCell _ _ _ _ (by have := HSz.out; show k ≠ w0.heap.size; omega)))).ints', q1, q2, (((HWB.out.trans (HB6.out.mono HWB.out.size)).setCell (Nat.le_refl _) _).setCell (Nat.le_refl _) _).drew⟩
    · have ey : (y == 0) = false := by simpa using hy
      obtain ⟨⟨r0, s1⟩, z0, z1, hlt⟩ := box_bel HWD.out HB5.out
      obtain ⟨⟨u0, u1⟩, v0, v1, hlt2⟩ := box_thr HW3.out hgl HU5.out
      obtain ⟨q1, q2⟩ := own_caps HL5.out
      go_wp2
      go_region
      all_goals
        go_wp2
        exact bodyPost_ret (v := .tuple #[.slice a2 n2 c2, .agg #[.int .i64 r1, .int .i64 r2], .slice la ln lc, .slice xa xn xc]) (by simp [results, Tryz.results27, go_sem, r0, s1]) rfl
          ⟨_, _, _, R, _, _, _, _, _, l, _, _, _, x, rfl, (HO5.out.keep (fun k h1 _ => (Below.heap_setCell _ _ _ _ (by have := HSz.out; show k ≠ w0.heap.size; omega)).trans (Below.heap_setCell _ _ _ _ (by have := HSz.out; show k ≠ w0.heap.size; omega)))).mat, (HL5.out.keep (fun k h1 _ => (Below.heap_setCell _ _ _ _ (by have := HSz.out; show k ≠ w0.heap.size; omega)).trans (Below.heap_setCell _ _ _ _ (by have := HSz.out; show k ≠ w0.heap.size; omega)))).ints', (HX5.out.keep (fun k h1 _ => (Below.heap_setCell _ _ _ _ (by have := HSz.out; show k ≠ w0.heap.size; omega)).trans (Below.heap_setCell _ _ _ _ (by have := HSz.out; show k ≠ w0.heap.size; omega)))).ints', q1, q2, (((HWB.out.trans (HB5.out.mono HWB.out.size)).setCell (Nat.le_refl _) _).setCell (Nat.le_refl _) _).drew⟩
  · have hd1 : (d != 0) = true := by simpa using hd
    go_wp2_with fail
    refine (drawNodes _ n2 c2 _ a2 R _ HS4.out HO4.out hg1 hn2).mono ?_
    rintro e w6 ⟨na, nn, nc, nl, rfl, hn6, hs6, ht6⟩
    have HN6 := Lib.hid hn6
    have HO6 := Lib.hid (HO4.out.thr ht6 hg1)
    have HX6 := Lib.hid (HX4.out.thr ht6 hg1)
    have HB6 := Lib.hid (HB4.out.trans ht6.below)
    have HU6 := Lib.hid (HU4.out.trans ht6)
    have hz6 := ht6.below.size
    clear hn6 hs6 ht6
    obtain ⟨⟨r0, s1⟩, z0, z1, hlt⟩ := box_bel HWD.out HB6.out
    obtain ⟨⟨u0, u1⟩, v0, v1, hlt2⟩ := box_thr HW3.out hgl HU6.out
    obtain ⟨q1, q2⟩ := own_caps HN6.out
    go_wp2
    go_region
    all_goals
      go_wp2
      exact bodyPost_ret (v := .tuple #[.slice a2 n2 c2, .agg #[.int .i64 r1, .int .i64 r2], .slice na nn nc, .slice xa xn xc]) (by simp [results, Tryz.results27, go_sem, r0, s1]) rfl
        ⟨_, _, _, R, _, _, _, _, _, nl, _, _, _, x, rfl, (HO6.out.keep (fun k h1 _ => (Below.heap_setCell _ _ _ _ (by have := HSz.out; show k ≠ w0.heap.size; omega)).trans (Below.heap_setCell _ _ _ _ (by have := HSz.out; show k ≠ w0.heap.size; omega)))).mat, (HN6.out.keep (fun k h1 _ => (Below.heap_setCell _ _ _ _ (by have := HSz.out; show k ≠ w0.heap.size; omega)).trans (Below.heap_setCell _ _ _ _ (by have := HSz.out; show k ≠ w0.heap.size; omega)))).ints', (HX6.out.keep (fun k h1 _ => (Below.heap_setCell _ _ _ _ (by have := HSz.out; show k ≠ w0.heap.size; omega)).trans (Below.heap_setCell _ _ _ _ (by have := HSz.out; show k ≠ w0.heap.size; omega)))).ints', q1, q2, (((HWB.out.trans (HB6.out.mono HWB.out.size)).setCell (Nat.le_refl _) _).setCell (Nat.le_refl _) _).drew⟩
end Go.Proofs.YtihpbgjiohnekabGreat.V
