/- Texts laid together: Dr4, Dr7, Shp, Sqp, Sqq, Osp, Pwp. -/
import Derived.Test.YtcofjjipjcekjabQb4
import Derived.Test.YtcofjjipjcekjabQb7
import Derived.Test.YtcofjjipjcekjabQb5
import Derived.Test.YtcofjjipjcekjabQb1
set_option linter.unusedSimpArgs false
set_option linter.unusedVariables false
set_option linter.unusedSectionVars false
namespace Go.Proofs.Ytcofjjipjcekjab.V
set_option maxRecDepth 100000
open Go.RowKit
theorem ownM_two (w : World) (B : Nat) (hB : B ≤ w.heap.size) {v1 v2 : Value} {l1 l2 : List Int} (h1 : Own w B v1 l1) (h2 : Own w B v2 l2) (hne : ∀ k, v1.ownBlock = some k → v2.ownBlock ≠ some k) :
    OwnM (w.alloc (.cells #[v1, v2] 25)) B (.slice (some ⟨w.heap.size, 0, none⟩) 2 2) [l1, l2] := by
  have lt1 : ∀ k, v1.ownBlock = some k → k < w.heap.size := fun k hk => (own_lt h1 hk).2
  have lt2 : ∀ k, v2.ownBlock = some k → k < w.heap.size := fun k hk => (own_lt h2 hk).2
  refine ⟨[v1, v2], rfl, World.ownsRow_lit w #[v1, v2] 2 hB (by decide) rfl, fun i hi => ?_, fun i hi k hk => ?_, fun i j hi hj hij k hk => ?_⟩
  · have : i = 0 ∨ i = 1 := by simp at hi; omega
    rcases this with rfl | rfl
    · exact h1.below (b_alloc w _)
    · exact h2.below (b_alloc w _)
  · have hk2 : k < w.heap.size := by
      have : i = 0 ∨ i = 1 := by simp at hi; omega
      rcases this with rfl | rfl
      · exact lt1 k hk
      · exact lt2 k hk
    intro e
    simp only [Value.ownBlock, Option.some.injEq] at e
    omega
  · have hi' : i = 0 ∨ i = 1 := by simp at hi; omega
    have hj' : j = 0 ∨ j = 1 := by simp at hj; omega
    rcases hi' with rfl | rfl <;> rcases hj' with rfl | rfl
    · omega
    · exact hne k hk
    · intro e; exact hne k e hk
    · omega
theorem ownLit2D (w : World) (B : Nat) (hB : B ≤ w.heap.size) (x y : Int) : Own (w.alloc (.cells #[.int .i64 x, .int .i64 y] 2)) B (.slice (some ⟨w.heap.size, 0, none⟩) 2 2) [x, y] := World.ownsRow_lit w #[.int .i64 x, .int .i64 y] 2 hB (by decide) rfl
/-- A drawn matrix, of few rows, and a drawn number. -/
def DrawNB (g : Nat) (w : World) (e : Ending) (w' : World) : Prop :=
  ∃ (a : Option Addr) (n cap : Nat) (R : List (List Int)) (x : Int), e = .returned (.tuple #[.slice a n cap, .int .i64 x]) ∧ n ≤ 200 ∧ OwnM w' w.heap.size (.slice a n cap) R ∧ Src w' g ∧ Thr g w w'
end Go.Proofs.Ytcofjjipjcekjab.V

namespace Go.Proofs.Ytcofjjipjcekjab.V
set_option maxRecDepth 100000
open Go.RowKit
theorem ownM_one7 (w : World) (B : Nat) (h : B ≤ w.heap.size) (x : Int) : OwnM ((w.alloc (.cells #[.int .i64 x] 2)).alloc (.cells #[.slice (some ⟨w.heap.size, 0, none⟩) 1 1] 25)) B (.slice (some ⟨w.heap.size + 1, 0, none⟩) 1 1) [[x]] := by
  have h1 : Own (w.alloc (.cells #[.int .i64 x] 2)) B (.slice (some ⟨w.heap.size, 0, none⟩) 1 1) [x] := World.ownsRow_lit w #[.int .i64 x] 1 h (by decide) rfl
  have := ownM_lit1 (w.alloc (.cells #[.int .i64 x] 2)) B (by simp; omega) h1
  simpa using this
set_option maxRecDepth 100000 in
set_option maxHeartbeats 2000000 in
theorem draw7 (g : Nat) (w : World) (h : Src w g) : Calls Try.prog 77 #[.pointer (some ⟨g, 0, none⟩)] w (DrawMB g w) := by
  have HS := Lib.hid h
  have hgl := h.lt
  clear h
  go_enter Try.func77, Try.ntmps77
  go_wp2_with fail
  refine (next g 4 _ (by decide) HS.out).mono ?_
  rintro e w1 ⟨x, rfl, hx1, hx2, hs1, ht1⟩
  obtain ⟨x, rfl⟩ := Int.eq_ofNat_of_zero_le hx1
  have hx3 : x < 4 := by omega
  have HS1 := Lib.hid hs1
  have HT1 := Lib.hid ht1
  have e1 : (1 : Int) + (x : Int) = ((1 + x : Nat) : Int) := by omega
  have E1 := Lib.hid e1
  clear e1 hs1 ht1 hx2 hx1
  go_wp2_with fail
  refine (next g 40 _ (by decide) HS1.out).mono ?_
  rintro e w3 ⟨z, rfl, -, -, hs3, ht3⟩
  have HS3 := Lib.hid hs3
  have HT3 := Lib.hid (HT1.out.trans ht3)
  clear hs3 ht3 HS1 HT1
  by_cases hx0 : z = 0
  · subst hx0
    have hg3 := HS3.out.lt
    go_wp2_with fail
    refine (pick g _ 0 3 3 _ (HS3.out.alloc _) (by omega) (by omega) hg3 (litCells _ [100000, 9999, -10001] _ _ rfl (by decide))).mono ?_
    rintro e w4 ⟨p1, rfl, -, hs4, ht4⟩
    have HS4 := Lib.hid hs4
    have HT4 := Lib.hid ((HT3.out.alloc (by omega) _).trans ht4)
    have hg4 := hs4.lt
    clear hs4 ht4
    have hz4 : w.heap.size ≤ w4.heap.size := HT4.out.below.size
    have HO := Lib.hid (ownM_one7 w4 w.heap.size hz4 p1)
    have HSf := Lib.hid ((HS4.out.alloc (.cells #[.int .i64 p1] 2)).alloc (.cells #[.slice (some ⟨w4.heap.size, 0, none⟩) 1 1] 25))
    have HTf := Lib.hid ((HT4.out.alloc (by omega) (.cells #[.int .i64 p1] 2)).alloc (by simp; omega) (.cells #[.slice (some ⟨w4.heap.size, 0, none⟩) 1 1] 25))
    go_wp2
    go_ret
    exact ⟨_, _, _, _, rfl, by omega, by simpa using HO.out, HSf.out, HTf.out⟩
  · have ex : (z == 0) = false := by simpa using hx0
    go_wp2_with fail
    rw [E1.out]
    refine (drawSizeB g (1 + x) (1 + x) _ HS3.out (by omega) (by omega) (by omega) (by omega)).mono ?_
    rintro e w5 ⟨a, n, cap, R, rfl, hn, ho, hs5, ht5⟩
    have HO := Lib.hid (ho.mono HT3.out.below.size)
    have HS5 := Lib.hid hs5
    have HT5 := Lib.hid (HT3.out.trans ht5)
    clear ho hs5 ht5
    go_wp2
    go_ret
    exact ⟨a, n, cap, R, rfl, hn, HO.out, HS5.out, HT5.out⟩
/-- A drawn matrix and a drawn vector. -/
def DrawPB (g : Nat) (w : World) (e : Ending) (w' : World) : Prop :=
  ∃ (a : Option Addr) (n cap : Nat) (R : List (List Int)) (b : Option Addr) (N c : Nat) (l : List Int), e = .returned (.tuple #[.slice a n cap, .slice b N c]) ∧ OwnM w' w.heap.size (.slice a n cap) R ∧ Own w' w.heap.size (.slice b N c) l ∧ Src w' g ∧ Thr g w w'
set_option maxRecDepth 100000 in
set_option maxHeartbeats 2000000 in
theorem drawPair7 (g : Nat) (w : World) (h : Src w g) : Calls Try.prog 52 #[.pointer (some ⟨g, 0, none⟩)] w (DrawPB g w) := by
  have HS := Lib.hid h
  have hgl := h.lt
  clear h
  go_enter Try.func52, Try.ntmps52
  go_wp2_with fail
  refine (draw7 g _ HS.out).mono ?_
  rintro e w2 ⟨a2, n2, c2, R, rfl, hn2, ho, hs2, ht2⟩
  have HO2 := Lib.hid ho
  have HS2 := Lib.hid hs2
  have HT2 := Lib.hid ht2
  clear ho hs2 ht2
  go_wp2_with fail
  refine (next g 24 _ (by decide) HS2.out).mono ?_
  rintro e w3 ⟨x, rfl, -, -, hs3, ht3⟩
  have HO3 := Lib.hid (HO2.out.thr ht3 hgl)
  have HS3 := Lib.hid hs3
  have HT3 := Lib.hid (HT2.out.trans ht3)
  clear hs3 ht3 HO2 HS2 HT2
  by_cases hx0 : x = 0
  · subst hx0
    have e1 : (n2 : Int) + 1 = ((n2 + 1 : Nat) : Int) := by omega
    have E1 := Lib.hid e1
    clear e1
    go_wp2_with fail
    rw [E1.out]
    refine (drawVector g (n2 + 1) _ HS3.out (by omega)).mono ?_
    rintro e w4 ⟨b, N, c, l, rfl, ho, hs4, ht4⟩
    have HO4 := Lib.hid (HO3.out.thr ht4 hgl)
    have HV4 := Lib.hid (ho.mono HT3.out.below.size)
    have HS4 := Lib.hid hs4
    have HT4 := Lib.hid (HT3.out.trans ht4)
    clear hs4 ht4 ho
    go_wp2
    go_ret2
    exact ⟨_, _, _, R, _, _, _, l, rfl, HO4.out, HV4.out, HS4.out, HT4.out⟩
  · have ex : (x == 0) = false := by simpa using hx0
    go_wp2_with fail
    refine (drawVector g n2 _ HS3.out (by omega)).mono ?_
    rintro e w4 ⟨b, N, c, l, rfl, ho, hs4, ht4⟩
    have HO4 := Lib.hid (HO3.out.thr ht4 hgl)
    have HV4 := Lib.hid (ho.mono HT3.out.below.size)
    have HS4 := Lib.hid hs4
    have HT4 := Lib.hid (HT3.out.trans ht4)
    clear hs4 ht4 ho
    go_wp2
    go_ret2
    exact ⟨_, _, _, R, _, _, _, l, rfl, HO4.out, HV4.out, HS4.out, HT4.out⟩
/-- A drawn matrix, a drawn vector and a drawn integer. -/
def DrawnMVI (w : World) (e : Ending) (w' : World) : Prop :=
  ∃ (a : Option Addr) (n cap : Nat) (R : List (List Int)) (b : Option Addr) (N c : Nat) (l : List Int) (x : Int), e = .returned (.tuple #[.slice a n cap, .slice b N c, .int .i64 x]) ∧ Mat w' a n R ∧ Ints .i64 w' b N l ∧ Below w.heap.size w w'
set_option maxRecDepth 100000 in
set_option maxHeartbeats 2000000 in
theorem drawOrbitOf (a : Option Addr) (n cap : Nat) (w : World) (h : Bytes w a n) :
    Calls Try.prog 15 #[.slice a n cap] w (DrawnMVI w) := by
  have HB := Lib.hid h
  clear h
  go_enter Try.func15, Try.ntmps15
  go_wp2_with fail
  refine (from_ _ _ _ _ HB.out).mono ?_
  rintro e w1 ⟨rfl, hs1, hb1⟩
  have HS1 := Lib.hid hs1
  have HB1 := Lib.hid hb1
  have hg1 := hs1.lt
  clear hs1 hb1
  go_wp2_with fail
  refine (drawPair7 _ _ HS1.out).mono ?_
  rintro e w2 ⟨a2, n2, c2, R, b2, N2, d2, l, rfl, ho, hv, hs2, ht2⟩
  have HO2 := Lib.hid ho
  have HV2 := Lib.hid hv
  have HS2 := Lib.hid hs2
  have HB2 := Lib.hid (HB1.out.trans ht2.below)
  clear ho hv hs2 ht2
  go_wp2_with fail
  refine (next _ 20 _ (by decide) HS2.out).mono ?_
  rintro e w3 ⟨x, rfl, hx1, hx2, hs3, ht3⟩
  have HO3 := Lib.hid (HO2.out.thr ht3 hg1)
  have HV3 := Lib.hid (HV2.out.thr ht3 hg1)
  have HS3 := Lib.hid hs3
  have HB3 := Lib.hid (HB2.out.trans ht3.below)
  have hg3 := hs3.lt
  clear hs3 ht3 hx2 HO2 HS2 HB2 HV2
  by_cases hx0 : x = 0
  · subst hx0
    go_wp2_with fail
    refine (pick _ _ 0 3 3 _ (HS3.out.alloc _) (by omega) (by omega) hg3 (litCells _ [-1, 100, 101] _ _ rfl (by decide))).mono ?_
    rintro e w4 ⟨y, rfl, hy, hs4, ht4⟩
    have HO4 := Lib.hid ((HO3.out.keep (w' := w3.alloc _) (fun k _ h2 => Below.heap_alloc _ _ _ h2)).thr ht4 hg1).mat
    have HV4 := Lib.hid ((HV3.out.below (b_alloc w3 _)).thr ht4 hg1).ints'
    have HB4 := Lib.hid ((HB3.out.alloc HB3.out.size _).trans ht4.below)
    clear hs4 ht4 hy
    go_wp2
    exact bodyPost_ret (v := .tuple #[.slice a2 n2 c2, .slice b2 N2 d2, .int .i64 y]) (by simp [results, Try.results15, go_sem]) rfl ⟨_, _, _, R, _, _, _, l, _, rfl, HO4.out, HV4.out, HB4.out⟩
  · have e0 : (x == 0) = false := by simpa using hx0
    go_wp2_with fail
    refine (next _ 10 _ (by decide) HS3.out).mono ?_
    rintro e w4 ⟨y, rfl, -, -, hs4, ht4⟩
    have HO4 := Lib.hid (HO3.out.thr ht4 hg1).mat
    have HV4 := Lib.hid (HV3.out.thr ht4 hg1).ints'
    have HB4 := Lib.hid (HB3.out.trans ht4.below)
    clear hs4 ht4
    go_wp2
    exact bodyPost_ret (v := .tuple #[.slice a2 n2 c2, .slice b2 N2 d2, .int .i64 y]) (by simp [results, Try.results15, go_sem]) rfl ⟨_, _, _, R, _, _, _, l, _, rfl, HO4.out, HV4.out, HB4.out⟩
set_option maxRecDepth 100000 in
set_option maxHeartbeats 1000000 in
theorem drawSteadyState (a : Option Addr) (n cap : Nat) (w : World) (h : Bytes w a n) :
    Calls Try.prog 18 #[.slice a n cap] w (DrawnMV w) := by
  have HB := Lib.hid h
  clear h
  go_enter Try.func18, Try.ntmps18
  go_wp2_with fail
  refine (from_ _ _ _ _ HB.out).mono ?_
  rintro e w1 ⟨rfl, hs1, hb1⟩
  have HS1 := Lib.hid hs1
  have HB1 := Lib.hid hb1
  clear hs1 hb1
  go_wp2_with fail
  refine (drawPair7 _ _ HS1.out).mono ?_
  rintro e w2 ⟨a2, n2, c2, R, b2, N2, d2, l, rfl, ho, hv, hs2, ht2⟩
  have HO := Lib.hid ho.mat
  have HV := Lib.hid hv.ints'
  have HB2 := Lib.hid (HB1.out.trans ht2.below)
  clear ho hv hs2 ht2
  go_wp2
  go_ret2
  exact ⟨_, _, _, R, _, _, _, l, rfl, HO.out, HV.out, HB2.out⟩
/-- A drawn vector and a drawn integer. -/
def DrawnVI (w : World) (e : Ending) (w' : World) : Prop :=
  ∃ (b : Option Addr) (N c : Nat) (l : List Int) (x : Int), e = .returned (.tuple #[.slice b N c, .int .i64 x]) ∧ Ints .i64 w' b N l ∧ Below w.heap.size w w'
set_option maxRecDepth 100000 in
set_option maxHeartbeats 2000000 in
theorem drawShiftVector (a : Option Addr) (n cap : Nat) (w : World) (h : Bytes w a n) :
    Calls Try.prog 21 #[.slice a n cap] w (DrawnVI w) := by
  have HB := Lib.hid h
  clear h
  go_enter Try.func21, Try.ntmps21
  go_wp2_with fail
  refine (from_ _ _ _ _ HB.out).mono ?_
  rintro e w1 ⟨rfl, hs1, hb1⟩
  have HS1 := Lib.hid hs1
  have HB1 := Lib.hid hb1
  have hg1 := hs1.lt
  clear hs1 hb1
  go_wp2_with fail
  refine (next _ 5 _ (by decide) HS1.out).mono ?_
  rintro e w2 ⟨z, rfl, hz1, hz2, hs2, ht2⟩
  obtain ⟨z, rfl⟩ := Int.eq_ofNat_of_zero_le hz1
  have hz3 : z < 5 := by omega
  have e1 : (1 : Int) + (z : Int) = ((1 + z : Nat) : Int) := by omega
  have E1 := Lib.hid e1
  have HS2 := Lib.hid hs2
  have HB2 := Lib.hid (HB1.out.trans ht2.below)
  clear e1 hs2 ht2 hz1 hz2
  go_wp2_with fail
  rw [E1.out]
  refine (drawVector _ (1 + z) _ HS2.out (by omega)).mono ?_
  rintro e w3 ⟨b, N, c, l, rfl, hv, hs3, ht3⟩
  have HV3 := Lib.hid hv
  have HS3 := Lib.hid hs3
  have HB3 := Lib.hid (HB2.out.trans ht3.below)
  have hlt2 := HS2.out.lt
  clear hv hs3 ht3
  go_wp2_with fail
  refine (next _ 12 _ (by decide) HS3.out).mono ?_
  rintro e w4 ⟨x, rfl, hx1, hx2, hs4, ht4⟩
  have HV4 := Lib.hid (HV3.out.thr ht4 hlt2)
  have HS4 := Lib.hid hs4
  have HB4 := Lib.hid (HB3.out.trans ht4.below)
  have hg4 := hs4.lt
  clear hs4 ht4 HV3 HS3 HB3
  by_cases hx0 : x = 0
  · subst hx0
    go_wp2_with fail
    refine (pick _ _ 0 4 4 _ (HS4.out.alloc _) (by omega) (by omega) hg4 (litCells _ [1000000, 1000001, -1000000, -1000000000000000] _ _ rfl (by decide))).mono ?_
    rintro e w5 ⟨y, rfl, hy, hs5, ht5⟩
    have HV5 := Lib.hid ((HV4.out.below (b_alloc w4 _)).thr ht5 hlt2).ints'
    have HB5 := Lib.hid ((HB4.out.alloc HB4.out.size _).trans ht5.below)
    clear hs5 ht5 hy
    go_wp2
    go_ret2
    exact ⟨_, _, _, l, _, rfl, HV5.out, HB5.out⟩
  · have e0 : (x == 0) = false := by simpa using hx0
    go_wp2_with fail
    refine (next _ 40 _ (by decide) HS4.out).mono ?_
    rintro e w5 ⟨y, rfl, -, -, hs5, ht5⟩
    have HV5 := Lib.hid (HV4.out.thr ht5 hlt2).ints'
    have HB5 := Lib.hid (HB4.out.trans ht5.below)
    clear hs5 ht5
    go_wp2
    go_ret2
    exact ⟨_, _, _, l, _, rfl, HV5.out, HB5.out⟩
theorem wf_lit4 {a b c d : Int} (h1 : (Lit.int .i64 a).wf = true) (h2 : (Lit.int .i64 b).wf = true) (h3 : (Lit.int .i64 c).wf = true) (h4 : (Lit.int .i64 d).wf = true) : ([a, b, c, d].all fun x => (Lit.int .i64 x).wf) = true := by
  show ((Lit.int .i64 a).wf && ((Lit.int .i64 b).wf && ((Lit.int .i64 c).wf && ((Lit.int .i64 d).wf && true)))) = true
  rw [h1, h2, h3, h4]; rfl
/-- A drawn matrix and three drawn integers. -/
def DrawnMIII (w : World) (e : Ending) (w' : World) : Prop :=
  ∃ (a : Option Addr) (n cap : Nat) (R : List (List Int)) (x y z : Int), e = .returned (.tuple #[.slice a n cap, .int .i64 x, .int .i64 y, .int .i64 z]) ∧ Mat w' a n R ∧ Below w.heap.size w w'
set_option maxRecDepth 100000 in
set_option maxHeartbeats 4000000 in
theorem drawPowerEntry (a : Option Addr) (n cap : Nat) (w : World) (h : Bytes w a n) :
    Calls Try.prog 28 #[.slice a n cap] w (DrawnMIII w) := by
  have HB := Lib.hid h
  clear h
  go_enter Try.func28, Try.ntmps28
  go_wp2_with fail
  refine (from_ _ _ _ _ HB.out).mono ?_
  rintro e w1 ⟨rfl, hs1, hb1⟩
  have HS1 := Lib.hid hs1
  have HB1 := Lib.hid hb1
  have hg1 := hs1.lt
  clear hs1 hb1
  go_wp2_with fail
  refine (draw7 _ _ HS1.out).mono ?_
  rintro e w2 ⟨a2, n2, c2, R, rfl, hn2, ho, hs2, ht2⟩
  have HO2 := Lib.hid ho
  have HS2 := Lib.hid hs2
  have HB2 := Lib.hid (HB1.out.trans ht2.below)
  have hwn : (Lit.int .i64 (n2 : Int)).wf = true := wf_small _ (by omega) (by omega)
  clear ho hs2 ht2
  go_wp2_with fail
  refine (next _ 12 _ (by decide) HS2.out).mono ?_
  rintro e w3 ⟨x1, rfl, p1, q1, hs3, ht3⟩
  have hw1 : (Lit.int .i64 x1).wf = true := wf_small _ (by omega) (by omega)
  have HO3 := Lib.hid (HO2.out.thr ht3 hg1)
  have HS3 := Lib.hid hs3
  have HB3 := Lib.hid (HB2.out.trans ht3.below)
  clear hs3 ht3 HO2 HS2 HB2 p1 q1
  go_wp2_with fail
  refine (next _ 12 _ (by decide) HS3.out).mono ?_
  rintro e w4 ⟨x2, rfl, p1, q1, hs4, ht4⟩
  have hw2 : (Lit.int .i64 x2).wf = true := wf_small _ (by omega) (by omega)
  have HO4 := Lib.hid (HO3.out.thr ht4 hg1)
  have HS4 := Lib.hid hs4
  have HB4 := Lib.hid (HB3.out.trans ht4.below)
  clear hs4 ht4 HO3 HS3 HB3 p1 q1
  go_wp2_with fail
  refine (next _ 20000 _ (by decide) HS4.out).mono ?_
  rintro e w5 ⟨x3, rfl, p1, q1, hs5, ht5⟩
  have hw3 : (Lit.int .i64 x3).wf = true := wf_small _ (by omega) (by omega)
  have HO5 := Lib.hid (HO4.out.thr ht5 hg1)
  have HS5 := Lib.hid hs5
  have HB5 := Lib.hid (HB4.out.trans ht5.below)
  have hg5 := hs5.lt
  clear hs5 ht5 HO4 HS4 HB4 p1 q1
  go_wp2_with fail
  refine (pick _ _ 0 3 3 _ (HS5.out.alloc _) (by omega) (by omega) hg5 (litCells _ [-1, 100000, 100001] _ _ rfl (by decide))).mono ?_
  rintro e w6 ⟨x4, rfl, hw4, hs6, ht6⟩
  have HO6 := Lib.hid ((HO5.out.keep (w' := w5.alloc _) (fun k _ h2 => Below.heap_alloc _ _ _ h2)).thr ht6 hg1)
  have HS6 := Lib.hid hs6
  have HB6 := Lib.hid ((HB5.out.alloc HB5.out.size _).trans ht6.below)
  have hg6 := hs6.lt
  clear hs6 ht6 HO5 HS5 HB5
  go_wp2_with fail
  refine (pick _ _ 0 4 4 _ (HS6.out.alloc _) (by omega) (by omega) hg6 (litCells _ [x1, x2, x3, x4] _ _ rfl (wf_lit4 hw1 hw2 hw3 hw4))).mono ?_
  rintro e w7 ⟨nn, rfl, hw7, hs7, ht7⟩
  have HO7 := Lib.hid ((HO6.out.keep (w' := w6.alloc _) (fun k _ h2 => Below.heap_alloc _ _ _ h2)).thr ht7 hg1)
  have HS7 := Lib.hid hs7
  have HB7 := Lib.hid ((HB6.out.alloc HB6.out.size _).trans ht7.below)
  clear hs7 ht7 HO6 HS6 HB6
  go_wp2_with fail
  refine (next _ 24 _ (by decide) HS7.out).mono ?_
  rintro e w8 ⟨z, rfl, -, -, hs8, ht8⟩
  have HO8 := Lib.hid (HO7.out.thr ht8 hg1)
  have HS8 := Lib.hid hs8
  have HB8 := Lib.hid (HB7.out.trans ht8.below)
  have hg8 := hs8.lt
  clear hs8 ht8 HO7 HS7 HB7
  by_cases hx0 : z = 0
  · subst hx0
    go_wp2_with fail
    refine (pick _ _ 0 2 2 _ (HS8.out.alloc _) (by omega) (by omega) hg8 (litCells _ [-1, (n2 : Int)] _ _ rfl (by show ((Lit.int .i64 (-1)).wf && ((Lit.int .i64 (n2 : Int)).wf && true)) = true; rw [hwn]; rfl))).mono ?_
    rintro e w9 ⟨y, rfl, hy, hs9, ht9⟩
    have HO9 := Lib.hid ((HO8.out.keep (w' := w8.alloc _) (fun k _ h2 => Below.heap_alloc _ _ _ h2)).thr ht9 hg1).mat
    have HB9 := Lib.hid ((HB8.out.alloc HB8.out.size _).trans ht9.below)
    clear hs9 ht9 hy
    go_wp2
    exact bodyPost_ret (v := .tuple #[.slice a2 n2 c2, .int .i64 nn, .int .i64 y, .int .i64 0]) (by simp [results, Try.results28, go_sem]) rfl ⟨_, _, _, R, _, _, _, rfl, HO9.out, HB9.out⟩
  · have e0 : (z == 0) = false := by simpa using hx0
    go_wp2_with fail
    refine (next _ (n2 : Int) _ hwn HS8.out).mono ?_
    rintro e w9 ⟨y1, rfl, -, -, hs9, ht9⟩
    have HO9 := Lib.hid (HO8.out.thr ht9 hg1)
    have HS9 := Lib.hid hs9
    have HB9 := Lib.hid (HB8.out.trans ht9.below)
    clear hs9 ht9 HO8 HS8 HB8
    go_wp2_with fail
    refine (next _ (n2 : Int) _ hwn HS9.out).mono ?_
    rintro e wf ⟨y2, rfl, -, -, hsf, htf⟩
    have HOf := Lib.hid (HO9.out.thr htf hg1).mat
    have HBf := Lib.hid (HB9.out.trans htf.below)
    clear hsf htf
    go_wp2
    exact bodyPost_ret (v := .tuple #[.slice a2 n2 c2, .int .i64 nn, .int .i64 y1, .int .i64 y2]) (by simp [results, Try.results28, go_sem]) rfl ⟨_, _, _, R, _, _, _, rfl, HOf.out, HBf.out⟩
end Go.Proofs.Ytcofjjipjcekjab.V

namespace Go.Proofs.Ytcofjjipjcekjab
namespace M
def shvL (l : List Int) (g : Int) : List Int := l.map fun x => times x g
def shvRes (l : List Int) (g : Int) : List Int × Int := if isVec l then (if isFin g then (if isVec (shvL l g) then (shvL l g, 0) else ([], 3)) else ([], 2)) else ([], 1)
theorem shv_len (l : List Int) (g : Int) : (shvL l g).length = l.length := by simp [shvL]
theorem shv_get {l : List Int} {g : Int} {i : Nat} (hi : i < l.length) : (shvL l g).getD i 0 = times (l.getD i 0) g := by
  simp [shvL, hi]
theorem shv_take {l : List Int} {g : Int} {k : Nat} (hk : k < l.length) : (shvL l g).take (k + 1) = (shvL l g).take k ++ [times (l.getD k 0) g] := by
  have h := List.take_succ_eq_append_getElem (l := shvL l g) (i := k) (by rw [shv_len]; exact hk)
  rw [h]
  congr 2
  simp [shvL, hk]
theorem shvRes_len (l : List Int) (g : Int) : (shvRes l g).1.length ≤ 10 := by
  unfold shvRes
  split
  · split
    · split
      · rename_i h
        have := (isVec_t h).2.1
        exact this
      · exact Nat.zero_le _
    · exact Nat.zero_le _
  · exact Nat.zero_le _
/-- The element with the index k of the orbit of x. -/
def orb (R : List (List Int)) (x : List Int) : Nat → List Int
  | 0 => x
  | k + 1 => applyM R (orb R x k)
def orbL (R : List (List Int)) (x : List Int) (k : Nat) : List (List Int) := (List.range k).map (orb R x)
def orbCode (R : List (List Int)) (x : List Int) : Int := if sqB R && isVec x then (if x.length = R.length then 0 else 5) else 1
def orbRes (R : List (List Int)) (x : List Int) (n : Int) : List (List Int) × Int :=
  if orbCode R x = 0 then (if 0 ≤ n ∧ n ≤ 100 then (if (orbL R x (n.toNat + 1)).all isVec then (orbL R x (n.toNat + 1), 0) else ([], 3)) else ([], 2)) else ([], orbCode R x)
theorem orbCode_t {R : List (List Int)} {x : List Int} (h : orbCode R x = 0) : sqB R = true ∧ isVec x = true ∧ x.length = R.length := by
  unfold orbCode at h
  by_cases h1 : (sqB R && isVec x) = true
  · rw [if_pos h1] at h
    by_cases h2 : x.length = R.length
    · rw [Bool.and_eq_true] at h1
      exact ⟨h1.1, h1.2, h2⟩
    · rw [if_neg h2] at h; exact absurd h (by decide)
  · rw [if_neg h1] at h; exact absurd h (by decide)
theorem orbL_len (R : List (List Int)) (x : List Int) (k : Nat) : (orbL R x k).length = k := by simp [orbL]
theorem orbL_next (R : List (List Int)) (x : List Int) (k : Nat) : orbL R x (k + 1) = orbL R x k ++ [orb R x k] := by
  simp [orbL, List.range_succ]
theorem orbL_get {R : List (List Int)} {x : List Int} {k i : Nat} (h : i < k) : (orbL R x k).getD i [] = orb R x i := by
  simp [orbL, h]
theorem orb_len {R : List (List Int)} {x : List Int} (h : x.length = R.length) : ∀ k, (orb R x k).length = R.length
  | 0 => h
  | _ + 1 => apply_len' _ _
theorem orb_all {R : List (List Int)} {x : List Int} {k : Nat} (h : (orbL R x k).all isVec = true) {i : Nat} (hi : i < k) : isVec (orb R x i) = true := by
  rw [List.all_eq_true] at h
  exact h _ (List.mem_map.2 ⟨i, List.mem_range.2 hi, rfl⟩)
theorem orb_all_next {R : List (List Int)} {x : List Int} {k : Nat} (h : (orbL R x k).all isVec = true) (h2 : isVec (orb R x k) = true) : (orbL R x (k + 1)).all isVec = true := by
  rw [orbL_next, List.all_append, h]
  simp [h2]
theorem orb_all_not {R : List (List Int)} {x : List Int} {k m : Nat} (hk : k < m) (h2 : isVec (orb R x k) = false) : (orbL R x m).all isVec = false := by
  cases e : (orbL R x m).all isVec with
  | false => rfl
  | true => rw [orb_all e hk] at h2; exact absurd h2 (by decide)
end M
end Go.Proofs.Ytcofjjipjcekjab

namespace Go.Proofs.Ytcofjjipjcekjab
namespace M
/-- The list shifted such that its greatest element is 0 if it is finite. -/
def nrm (x : List Int) : List Int := shvL x (-(maxL x))
/-- The difference at the first index at which both have a finite element. -/
def gapI : List Int → List Int → Int
  | a :: x, b :: y => if a ≠ -1000000000000000 ∧ b ≠ -1000000000000000 then b - a else gapI x y
  | _, _ => 0
def gapB (x y : List Int) : Bool := decide (shvL x (gapI x y) = y)
theorem gapI_spec : ∀ (x y : List Int), x.length = y.length → (∃ i, i < x.length ∧ x.getD i 0 ≠ -1000000000000000 ∧ y.getD i 0 ≠ -1000000000000000 ∧ gapI x y = y.getD i 0 - x.getD i 0) ∨ ((∀ i, i < x.length → x.getD i 0 = -1000000000000000 ∨ y.getD i 0 = -1000000000000000) ∧ gapI x y = 0)
  | [], [], _ => .inr ⟨fun i hi => absurd hi (Nat.not_lt_zero i), rfl⟩
  | [], b :: y, h => absurd h (by simp)
  | a :: x, [], h => absurd h (by simp)
  | a :: x, b :: y, h => by
    by_cases e : a ≠ -1000000000000000 ∧ b ≠ -1000000000000000
    · exact .inl ⟨0, by simp, e.1, e.2, by simp [gapI, e]⟩
    · have hg : gapI (a :: x) (b :: y) = gapI x y := by rw [gapI, if_neg e]
      rcases gapI_spec x y (by simpa using h) with ⟨i, hi, h1, h2, h3⟩ | ⟨h1, h2⟩
      · exact .inl ⟨i + 1, by simpa using hi, by simpa using h1, by simpa using h2, by rw [hg, h3]; simp⟩
      · refine .inr ⟨fun i hi => ?_, by rw [hg, h2]⟩
        cases i with
        | zero => simp only [List.getD_cons_zero]; omega
        | succ i => simpa using h1 i (by simpa using hi)
theorem maxL_foldl : ∀ (l : List Int) (m : Int), m ≤ l.foldl max m ∧ (∀ i, i < l.length → l.getD i 0 ≤ l.foldl max m) ∧ (l.foldl max m = m ∨ ∃ i, i < l.length ∧ l.getD i 0 = l.foldl max m)
  | [], m => ⟨Int.le_refl _, fun i hi => absurd hi (Nat.not_lt_zero i), .inl rfl⟩
  | a :: l, m => by
    obtain ⟨h1, h2, h3⟩ := maxL_foldl l (max m a)
    refine ⟨by rw [List.foldl_cons]; omega, fun i hi => ?_, ?_⟩
    · rw [List.foldl_cons]
      cases i with
      | zero => simp only [List.getD_cons_zero]; omega
      | succ i => simpa using h2 i (by simpa using hi)
    · rw [List.foldl_cons]
      rcases h3 with h3 | ⟨i, hi, h3⟩
      · rw [h3]
        rcases Int.le_total m a with e | e
        · exact .inr ⟨0, by simp, by rw [List.getD_cons_zero]; omega⟩
        · exact .inl (by omega)
      · exact .inr ⟨i + 1, by simpa using hi, by simpa using h3⟩
theorem maxL_ge {x : List Int} {i : Nat} (hi : i < x.length) : x.getD i 0 ≤ maxL x := (maxL_foldl x _).2.1 i hi
theorem maxL_low (x : List Int) : -1000000000000000 ≤ maxL x := (maxL_foldl x _).1
theorem maxL_mem (x : List Int) : maxL x = -1000000000000000 ∨ ∃ i, i < x.length ∧ x.getD i 0 = maxL x := (maxL_foldl x _).2.2
theorem list_ext0 {x y : List Int} (h : x.length = y.length) (h2 : ∀ i, i < x.length → x.getD i 0 = y.getD i 0) : x = y := by
  refine List.ext_getElem h fun i h1 h3 => ?_
  have := h2 i h1
  simpa [h1, h3] using this
theorem shv_eq {x y : List Int} {g d : Int} (h : x.length = y.length) : shvL x g = shvL y d ↔ ∀ i, i < x.length → times (x.getD i 0) g = times (y.getD i 0) d := by
  constructor
  · intro e i hi
    rw [← shv_get hi, e, shv_get (by omega)]
  · intro e
    exact list_ext0 (by rw [shv_len, shv_len, h]) fun i hi => by
      rw [shv_len] at hi
      rw [shv_get hi, shv_get (by omega)]; exact e i hi
theorem shv_is {x y : List Int} {g : Int} (h : x.length = y.length) : shvL x g = y ↔ ∀ i, i < x.length → times (x.getD i 0) g = y.getD i 0 := by
  constructor
  · intro e i hi
    rw [← shv_get hi, e]
  · intro e
    exact list_ext0 (by rw [shv_len, h]) fun i hi => by
      rw [shv_len] at hi
      rw [shv_get hi]; exact e i hi
def Vals (x : List Int) : Prop := ∀ i, i < x.length → isVal (x.getD i 0) = true
theorem maxL_vals {x : List Int} (h : Vals x) : isVal (maxL x) = true := by
  rcases maxL_mem x with e | ⟨i, hi, e⟩
  · rw [e]; rfl
  · rw [← e]; exact h i hi
/-- A list that is y shifted by g has the same pattern, and a greatest element shifted by g. -/
theorem nrm_of {x y : List Int} {g : Int} (hl : x.length = y.length) (hx : Vals x) (hy : Vals y) (hg : -10000000 ≤ g) (hg2 : g ≤ 10000000) (h : shvL x g = y) : nrm x = nrm y ∧ times (maxL x) g = maxL y := by
  rw [shv_is hl] at h
  have hm : times (maxL x) g = maxL y := by
    have v := isVal_t (maxL_vals hx)
    have v2 := isVal_t (maxL_vals hy)
    rcases maxL_mem x with e | ⟨i, hi, e⟩
    · rcases maxL_mem y with e2 | ⟨j, hj, e2⟩
      · rw [e, e2]; rfl
      · have h3 := h j (by omega)
        have h4 := maxL_ge (x := x) (i := j) (by omega)
        have h5 := isVal_t (hx j (by omega))
        have h6 : x.getD j 0 = -1000000000000000 := by omega
        rw [h6] at h3
        rw [e, ← e2, ← h3]
    · have h3 := h i hi
      rw [e] at h3
      have h4 := maxL_ge (x := y) (i := i) (by omega)
      rw [← h3] at h4
      rcases maxL_mem y with e2 | ⟨j, hj, e2⟩
      · have h5 := maxL_low y
        unfold times at h4 ⊢
        split
        · exact e2.symm
        · rename_i hn
          rw [if_neg hn, e2] at h4
          omega
      · have h5 := h j (by omega)
        have h6 := maxL_ge (x := x) (i := j) (by omega)
        have h7 := isVal_t (hx j (by omega))
        rw [e2] at h5
        unfold times at h5 h4 ⊢
        split at h5 <;> split at h4 <;> split <;> omega
  refine ⟨?_, hm⟩
  unfold nrm
  rw [shv_eq hl]
  intro i hi
  have h3 := h i hi
  have v := isVal_t (maxL_vals hx)
  have v2 := isVal_t (maxL_vals hy)
  have v3 := isVal_t (hx i hi)
  have v4 := isVal_t (hy i (by omega))
  have v5 := maxL_ge hi
  rw [← hm] at v2 ⊢
  rw [← h3] at v4 ⊢
  unfold times at *
  split <;> split <;> split at * <;> omega
theorem gapI_bd {x y : List Int} (hl : x.length = y.length) (hx : Vals x) (hy : Vals y) : -2000000 ≤ gapI x y ∧ gapI x y ≤ 2000000 := by
  rcases gapI_spec x y hl with ⟨i, hi, h1, h2, h3⟩ | ⟨h1, h2⟩
  · have v3 := isVal_t (hx i hi)
    have v4 := isVal_t (hy i (by omega))
    omega
  · omega
theorem nrm_gap {x y : List Int} (hl : x.length = y.length) (hx : Vals x) (hy : Vals y) (h : nrm x = nrm y) : gapI x y = maxL y - maxL x ∧ shvL x (gapI x y) = y := by
  unfold nrm at h
  rw [shv_eq hl] at h
  have v := isVal_t (maxL_vals hx)
  have v2 := isVal_t (maxL_vals hy)
  have hb : ∀ i, i < x.length → (x.getD i 0 = -1000000000000000 ↔ y.getD i 0 = -1000000000000000) := fun i hi => by
    have h3 := h i hi
    have v3 := isVal_t (hx i hi)
    have v4 := isVal_t (hy i (by omega))
    unfold times at h3
    split at h3 <;> split at h3 <;> omega
  have hd : ∀ i, i < x.length → x.getD i 0 ≠ -1000000000000000 → y.getD i 0 - x.getD i 0 = maxL y - maxL x := fun i hi hne => by
    have h3 := h i hi
    have v3 := isVal_t (hx i hi)
    have v4 := isVal_t (hy i (by omega))
    have v5 := maxL_ge hi
    have v6 := maxL_ge (x := y) (i := i) (by omega)
    have := hb i hi
    unfold times at h3
    split at h3 <;> split at h3 <;> omega
  have hG : gapI x y = maxL y - maxL x := by
    rcases gapI_spec x y hl with ⟨i, hi, h1, h2, h3⟩ | ⟨h1, h2⟩
    · rw [h3]; exact hd i hi h1
    · rw [h2]
      rcases maxL_mem x with e | ⟨i, hi, e⟩
      · rcases maxL_mem y with e2 | ⟨j, hj, e2⟩
        · omega
        · have h4 := h1 j (by omega)
          have h5 := hb j (by omega)
          omega
      · have h4 := h1 i hi
        have h5 := hb i hi
        have h6 : x.getD i 0 = -1000000000000000 := by omega
        rcases maxL_mem y with e2 | ⟨j, hj, e2⟩
        · omega
        · have h7 := h1 j (by omega)
          have h8 := hb j (by omega)
          omega
  refine ⟨hG, ?_⟩
  rw [shv_is hl]
  intro i hi
  have h1 := hb i hi
  have h2 := hd i hi
  rw [← hG] at h2
  obtain ⟨b1, b2⟩ := gapI_bd hl hx hy
  unfold times
  split <;> omega
theorem gapB_iff {x y : List Int} (hl : x.length = y.length) (hx : Vals x) (hy : Vals y) : gapB x y = true ↔ nrm x = nrm y := by
  unfold gapB
  rw [decide_eq_true_iff]
  constructor
  · intro h
    obtain ⟨b1, b2⟩ := gapI_bd hl hx hy
    exact (nrm_of hl hx hy (by omega) (by omega) h).1
  · intro h
    exact (nrm_gap hl hx hy h).2
/-- IsRepeat's test, both ways. -/
theorem shv_iff {x y : List Int} {g : Int} (hl : x.length = y.length) (hx : Vals x) (hy : Vals y) (hg : -10000000 ≤ g) (hg2 : g ≤ 10000000) : shvL x g = y ↔ (nrm x = nrm y ∧ times (maxL x) g = maxL y) := by
  constructor
  · exact nrm_of hl hx hy hg hg2
  · rintro ⟨h1, h2⟩
    obtain ⟨h3, h4⟩ := nrm_gap hl hx hy h1
    rw [shv_is hl] at h4 ⊢
    intro i hi
    have h5 := h4 i hi
    have v3 := isVal_t (hx i hi)
    have v5 := maxL_ge hi
    have v := isVal_t (maxL_vals hx)
    have v2 := isVal_t (maxL_vals hy)
    rw [h3] at h5
    unfold times at h5 h2 ⊢
    split at h5 <;> split at h2 <;> split <;> omega
end M
end Go.Proofs.Ytcofjjipjcekjab

namespace Go.Proofs.Ytcofjjipjcekjab
namespace M
def sq7 (R F : List (List Int)) : Nat → List (List Int)
  | 0 => F
  | k + 1 => mulM R (sq7 R F k)
def sqL (R F : List (List Int)) (k : Nat) : List (List Int) := (List.range k).map fun i => (sq7 R F i).flatten
/-- The cells of a pattern. -/
def patC (X : List (List Int)) (h : Int) : List Int := (List.range 100).map fun t => if t / 10 < X.length ∧ t % 10 < wid X then times (ent X (t / 10) (t % 10)) (-h) else 0
theorem patC_len (X : List (List Int)) (h : Int) : (patC X h).length = 100 := by simp [patC]
theorem patC_get {X : List (List Int)} {h : Int} {i j : Nat} (hi : i < X.length) (hj : j < wid X) (h10 : i < 10) (j10 : j < 10) : (patC X h).getD (i * 10 + j) 0 = times (ent X i j) (-h) := by
  have e1 : (i * 10 + j) / 10 = i := by omega
  have e2 : (i * 10 + j) % 10 = j := by omega
  have e3 : i * 10 + j < 100 := by omega
  simp [patC, e3, e1, e2, hi, hj]
theorem patC_iff {X Y : List (List Int)} {h d : Int} (h1 : X.length = Y.length) (h2 : wid X = wid Y) (hx : X.length ≤ 10) (hw : wid X ≤ 10) : patC X h = patC Y d ↔ ∀ i, i < X.length → ∀ j, j < wid X → times (ent X i j) (-h) = times (ent Y i j) (-d) := by
  constructor
  · intro e i hi j hj
    rw [← patC_get (h := h) hi hj (by omega) (by omega), e, patC_get (by omega) (by omega) (by omega) (by omega)]
  · intro e
    refine List.map_congr_left fun t _ => ?_
    by_cases hc : t / 10 < X.length ∧ t % 10 < wid X
    · rw [if_pos hc, if_pos (by rw [← h1, ← h2]; exact hc)]
      exact e _ hc.1 _ hc.2
    · rw [if_neg hc, if_neg (by rw [← h1, ← h2]; exact hc)]
theorem shv_flat (X : List (List Int)) (g : Int) : shvL X.flatten g = (X.map fun l => shvL l g).flatten := by
  unfold shvL
  rw [List.map_flatten]
theorem flat_vals {X : List (List Int)} (h : isMat X = true) : Vals X.flatten := by
  intro i hi
  have hm : X.flatten.getD i 0 ∈ X.flatten := by rw [List.getD_eq_getElem?_getD, List.getElem?_eq_getElem hi]; exact List.getElem_mem hi
  obtain ⟨r, hr, hx⟩ := List.mem_flatten.1 hm
  obtain ⟨a, ha, rfl⟩ := List.mem_iff_getElem.1 hr
  obtain ⟨b, hb, e⟩ := List.mem_iff_getElem.1 hx
  have hl := isMat_len h ha
  have hv := isMat_val h ha (j := b) (by rw [← hl]; simpa [ha] using hb)
  rw [← e]
  simpa [ha, hb] using hv
theorem rows_len {X : List (List Int)} (h : isMat X = true) : X.map List.length = List.replicate X.length (wid X) := by
  refine List.ext_getElem (by simp) fun i h1 h2 => ?_
  have hi : i < X.length := by simpa using h1
  have := isMat_len h hi
  simp only [List.getElem_map, List.getElem_replicate]
  simpa [hi] using this
theorem flat_len {X Y : List (List Int)} (hx : isMat X = true) (hy : isMat Y = true) (h1 : X.length = Y.length) (h2 : wid X = wid Y) : X.flatten.length = Y.flatten.length := by
  rw [List.length_flatten, List.length_flatten, rows_len hx, rows_len hy, h1, h2]
theorem nrm_pat {X Y : List (List Int)} (hx : isMat X = true) (hy : isMat Y = true) (h1 : X.length = Y.length) (h2 : wid X = wid Y) : patC X (maxL X.flatten) = patC Y (maxL Y.flatten) ↔ nrm X.flatten = nrm Y.flatten := by
  obtain ⟨x1, x2, x3, x4, x5, -⟩ := isMat_t hx
  have y5 := (isMat_t hy).2.2.2.2.1
  rw [patC_iff h1 h2 x2 x4]
  unfold nrm
  rw [shv_flat, shv_flat]
  constructor
  · intro e
    congr 1
    refine List.ext_getElem (by simp [h1]) fun i q1 q2 => ?_
    have hi : i < X.length := by simpa using q1
    have hi2 : i < Y.length := by omega
    simp only [List.getElem_map]
    have l1 := x5 i hi
    have l2 := y5 i hi2
    have g1 : X.getD i [] = X[i] := by simp [hi]
    have g2 : Y.getD i [] = Y[i] := by simp [hi2]
    rw [shv_eq (by rw [← g1, ← g2, l1, l2, h2])]
    intro j hj
    have := e i hi j (by rw [← l1, g1]; exact hj)
    unfold ent at this
    rw [g1, g2] at this
    exact this
  · intro e i hi j hj
    have e2 : (X.map fun l => shvL l (-maxL X.flatten)) = (Y.map fun l => shvL l (-maxL Y.flatten)) := by
      rw [List.eq_iff_flatten_eq]
      refine ⟨e, ?_⟩
      rw [List.map_map, List.map_map]
      have f1 : ∀ g, (List.length ∘ fun l => shvL l g) = List.length := fun g => by funext l; simp [shv_len]
      rw [f1, f1, rows_len hx, rows_len hy, h1, h2]
    have hi2 : i < Y.length := by omega
    have l1 := x5 i hi
    have l2 := y5 i hi2
    have g1 : X.getD i [] = X[i] := by simp [hi]
    have g2 : Y.getD i [] = Y[i] := by simp [hi2]
    have e3 : shvL X[i] (-maxL X.flatten) = shvL Y[i] (-maxL Y.flatten) := by
      have := congrArg (fun L => L.getD i []) e2
      simpa [hi, hi2] using this
    rw [shv_eq (by rw [← g1, ← g2, l1, l2, h2])] at e3
    have := e3 j (by rw [← g1, l1]; exact hj)
    unfold ent
    rw [g1, g2]
    exact this
theorem maxL_app (l r : List Int) : maxL (l ++ r) = max (maxL l) (maxL r) := by
  unfold maxL
  rw [List.foldl_append]
  have : ∀ (r : List Int) (a b : Int), r.foldl max (max a b) = max a (r.foldl max b) := by
    intro r
    induction r with
    | nil => intro a b; rfl
    | cons x r ih => intro a b; rw [List.foldl_cons, List.foldl_cons, Int.max_assoc, ih]
  have h2 := this r (l.foldl max (-1000000000000000)) (-1000000000000000)
  rw [← h2]
  congr 1
  have := (maxL_foldl l (-1000000000000000)).1
  omega
/-! The search. -/
def inn (ok : Nat → Bool) (rep : Nat → Nat → Bool) (gr : Nat → Nat → Int) (k : Nat) : Nat → Nat → Option (Int × Int × Int × Int)
  | 0, _ => none
  | m + 1, e => if ok e then (if rep k e then some ((k : Int), (e : Int) - k, gr k e, 0) else inn ok rep gr k m (e + 1)) else some (0, 0, 0, 3)
def out (ok : Nat → Bool) (rep : Nat → Nat → Bool) (gr : Nat → Nat → Int) : Nat → Nat → Int × Int × Int × Int
  | 0, _ => (0, 0, 0, 4)
  | m + 1, k => (inn ok rep gr k (m + 1) (k + 1)).getD (out ok rep gr m (k + 1))
def outI (ok : Nat → Bool) (rep : Nat → Nat → Bool) (gr : Nat → Nat → Int) (k e : Nat) : Int × Int × Int × Int := (inn ok rep gr k (101 - e) e).getD (out ok rep gr (99 - k) (k + 1))
theorem out_start {ok : Nat → Bool} {rep : Nat → Nat → Bool} {gr : Nat → Nat → Int} {k : Nat} (hk : k < 100) : out ok rep gr (100 - k) k = outI ok rep gr k (k + 1) := by
  obtain ⟨m, hm⟩ : ∃ m, 100 - k = m + 1 := ⟨99 - k, by omega⟩
  unfold outI
  rw [hm, out, show 101 - (k + 1) = m + 1 by omega, show 99 - k = m by omega]
theorem outI_limit {ok : Nat → Bool} {rep : Nat → Nat → Bool} {gr : Nat → Nat → Int} {k e : Nat} (he : e ≤ 100) (h : ok e = false) : outI ok rep gr k e = (0, 0, 0, 3) := by
  obtain ⟨m, hm⟩ : ∃ m, 101 - e = m + 1 := ⟨100 - e, by omega⟩
  unfold outI
  rw [hm, inn, h]
  rfl
theorem outI_found {ok : Nat → Bool} {rep : Nat → Nat → Bool} {gr : Nat → Nat → Int} {k e : Nat} (he : e ≤ 100) (h : ok e = true) (h2 : rep k e = true) : outI ok rep gr k e = ((k : Int), (e : Int) - k, gr k e, 0) := by
  obtain ⟨m, hm⟩ : ∃ m, 101 - e = m + 1 := ⟨100 - e, by omega⟩
  unfold outI
  rw [hm, inn, h, h2]
  rfl
theorem outI_next {ok : Nat → Bool} {rep : Nat → Nat → Bool} {gr : Nat → Nat → Int} {k e : Nat} (he : e ≤ 100) (h : ok e = true) (h2 : rep k e = false) : outI ok rep gr k e = outI ok rep gr k (e + 1) := by
  obtain ⟨m, hm⟩ : ∃ m, 101 - e = m + 1 := ⟨100 - e, by omega⟩
  unfold outI
  rw [hm, inn, h, h2, show 101 - (e + 1) = m by omega]
  rfl
theorem outI_end {ok : Nat → Bool} {rep : Nat → Nat → Bool} {gr : Nat → Nat → Int} {k e : Nat} (he : ¬ e ≤ 100) (hk : k < 100) : outI ok rep gr k e = out ok rep gr (100 - (k + 1)) (k + 1) := by
  unfold outI
  rw [show 101 - e = 0 by omega, inn, show 100 - (k + 1) = 99 - k by omega]
  rfl
def okQ (R F : List (List Int)) (k : Nat) : Bool := isMat (sq7 R F k)
def repQ (R F : List (List Int)) (k e : Nat) : Bool := decide (nrm (sq7 R F k).flatten = nrm (sq7 R F e).flatten)
def grQ (R F : List (List Int)) (k e : Nat) : Int := maxL (sq7 R F e).flatten - maxL (sq7 R F k).flatten
def fnd (R F : List (List Int)) : Int × Int × Int × Int := out (okQ R F) (repQ R F) (grQ R F) 100 0
/-- All elements up to k consist of values. -/
def okTo (R F : List (List Int)) (k : Nat) : Prop := ∀ j, j ≤ k → okQ R F j = true
theorem sq7_len {R F : List (List Int)} (h : F.length = R.length) : ∀ k, (sq7 R F k).length = R.length
  | 0 => h
  | k + 1 => by show (mulM R _).length = _; simp [mulM]
theorem sq7_wid {R F : List (List Int)} (h0 : 0 < R.length) : ∀ k, wid (sq7 R F k) = wid F
  | 0 => rfl
  | k + 1 => by show wid (mulM R _) = _; unfold mulM; rw [mk_wid _ _ _ h0]; exact sq7_wid h0 k
theorem sqL_len (R F : List (List Int)) (k : Nat) : (sqL R F k).length = k := by simp [sqL]
theorem sqL_next (R F : List (List Int)) (k : Nat) : sqL R F (k + 1) = sqL R F k ++ [(sq7 R F k).flatten] := by simp [sqL, List.range_succ]
theorem sqL_get {R F : List (List Int)} {k i : Nat} (h : i < k) : (sqL R F k).getD i [] = (sq7 R F i).flatten := by simp [sqL, h]
/-- A column's sequence is its orbit. -/
theorem sq7_col {R : List (List Int)} {x : List Int} (hx : x.length = R.length) : ∀ k, sq7 R (mk R.length 1 fun i _ => x.getD i 0) k = mk R.length 1 fun i _ => (orb R x k).getD i 0
  | 0 => rfl
  | k + 1 => by
    show mulM R _ = _
    rw [sq7_col hx k]
    unfold mulM
    by_cases h0 : 0 < R.length
    · rw [mk_wid _ _ _ h0]
      refine mk_congr fun i hi j hj => ?_
      rw [orb, apply_get hi, orb_len hx k]
      unfold dot
      rw [show (mk R.length 1 fun i _ => (orb R x k).getD i 0).length = R.length by simp]
      refine sumN_congr fun t ht => ?_
      rw [ent_mk _ _ _ _ _ ht hj]
    · have : R.length = 0 := by omega
      simp [mk, this]
theorem mk_one_flat (n : Nat) (f : Nat → Int) : (mk n 1 fun i _ => f i).flatten = (List.range n).map f := by
  unfold mk
  induction List.range n with
  | nil => rfl
  | cons a l ih => simpa using ih
theorem orb_flat {R : List (List Int)} {x : List Int} (hx : x.length = R.length) (k : Nat) : (sq7 R (mk R.length 1 fun i _ => x.getD i 0) k).flatten = orb R x k := by
  rw [sq7_col hx, mk_one_flat]
  refine list_ext0 (by rw [orb_len hx]; simp) fun i hi => ?_
  have hi2 : i < R.length := by simpa using hi
  simp [hi2]
end M
end Go.Proofs.Ytcofjjipjcekjab

namespace Go.Proofs.Ytcofjjipjcekjab.M
theorem inn_spec {ok : Nat → Bool} {rep : Nat → Nat → Bool} {gr : Nat → Nat → Int} {k : Nat} : ∀ n e,
    (∀ r, inn ok rep gr k n e = some r → r = (0, 0, 0, 3) ∨ ∃ e', e ≤ e' ∧ e' < e + n ∧ ok e' = true ∧ rep k e' = true ∧ r = ((k : Int), (e' : Int) - k, gr k e', 0)) ∧
    (inn ok rep gr k n e = none → ∀ e', e ≤ e' → e' < e + n → ok e' = true)
  | 0, e => ⟨fun r h => by simp [inn] at h, fun _ e' h1 h2 => by omega⟩
  | n + 1, e => by
    obtain ⟨i1, i2⟩ := inn_spec (ok := ok) (rep := rep) (gr := gr) (k := k) n (e + 1)
    by_cases h : ok e = true
    · by_cases h2 : rep k e = true
      · constructor
        · intro r hr
          simp [inn, h, h2] at hr
          exact .inr ⟨e, Nat.le_refl _, by omega, h, h2, hr.symm⟩
        · intro hn; simp [inn, h, h2] at hn
      · have e1 : inn ok rep gr k (n + 1) e = inn ok rep gr k n (e + 1) := by simp [inn, h, h2]
        rw [e1]
        constructor
        · intro r hr
          rcases i1 r hr with q | ⟨e', q1, q2, q3⟩
          · exact .inl q
          · exact .inr ⟨e', by omega, by omega, q3⟩
        · intro hn e' h3 h4
          by_cases q : e' = e
          · subst q; exact h
          · exact i2 hn e' (by omega) (by omega)
    · constructor
      · intro r hr
        simp [inn, h] at hr
        exact .inl hr.symm
      · intro hn; simp [inn, h] at hn
theorem out_spec {ok : Nat → Bool} {rep : Nat → Nat → Bool} {gr : Nat → Nat → Int} {s c g : Int} : ∀ m k, m + k = 100 → ok k = true → out ok rep gr m k = (s, c, g, 0) →
    ∃ i e : Nat, s = i ∧ c = (e : Int) - i ∧ i < e ∧ e ≤ 100 ∧ g = gr i e ∧ rep i e = true ∧ ok i = true ∧ ok e = true
  | 0, k, _, _, h => by simp [out] at h
  | m + 1, k, hm, hk, h => by
    have e1 : out ok rep gr (m + 1) k = (inn ok rep gr k (m + 1) (k + 1)).getD (out ok rep gr m (k + 1)) := rfl
    obtain ⟨i1, i2⟩ := inn_spec (ok := ok) (rep := rep) (gr := gr) (k := k) (m + 1) (k + 1)
    cases hi : inn ok rep gr k (m + 1) (k + 1) with
    | none =>
      rw [e1, hi] at h
      exact out_spec m (k + 1) (by omega) (i2 hi (k + 1) (Nat.le_refl _) (by omega)) h
    | some r =>
      rw [e1, hi] at h
      have h : r = (s, c, g, 0) := h
      rcases i1 r hi with q2 | ⟨e', q1, q2, q3, q4, q5⟩
      · rw [h] at q2; simp at q2
      · rw [h] at q5
        simp only [Prod.mk.injEq] at q5
        exact ⟨k, e', q5.1, q5.2.1, by omega, by omega, q5.2.2.1, q4, hk, q3⟩
theorem fnd_bd {R F : List (List Int)} (h0 : 0 < R.length) (hF : F.length = R.length) (hok : okQ R F 0 = true) {s c g : Int} (h : fnd R F = (s, c, g, 0)) : 1 ≤ c ∧ c ≤ 100 ∧ -2000000 ≤ g ∧ g ≤ 2000000 := by
  obtain ⟨i, e, rfl, rfl, h1, h2, rfl, h3, h4, h5⟩ := out_spec 100 0 rfl hok h
  have hl := sq7_len (R := R) (F := F) hF
  have hw := sq7_wid (R := R) (F := F) h0
  have hfl := flat_len (X := sq7 R F i) (Y := sq7 R F e) h4 h5 (by rw [hl, hl]) (by rw [hw, hw])
  have hn : nrm (sq7 R F i).flatten = nrm (sq7 R F e).flatten := of_decide_eq_true h3
  have hg := (nrm_gap hfl (flat_vals h4) (flat_vals h5) hn).1
  have hb := gapI_bd hfl (flat_vals h4) (flat_vals h5)
  rw [hg] at hb
  unfold grQ
  omega
end Go.Proofs.Ytcofjjipjcekjab.M

namespace Go.Proofs.Ytcofjjipjcekjab
namespace M
def peRo (n s c : Int) : Int := max (n - s) 0 / c
def peAt (n s c : Int) : Nat := (n - peRo n s c * c).toNat
def peVal (R : List (List Int)) (n i j s c g : Int) : Int := times (ent (sq7 R (unitM R.length) (peAt n s c)) i.toNat j.toNat) (peRo n s c * g)
def peRes (R : List (List Int)) (n i j : Int) : Int × Int :=
  if sqB R then
    if 0 ≤ n ∧ n ≤ 100000 ∧ nodesB R.length [i, j] = true then
      if (fnd R (unitM R.length)).2.2.2 = 0 then chk (peVal R n i j (fnd R (unitM R.length)).1 (fnd R (unitM R.length)).2.1 (fnd R (unitM R.length)).2.2.1)
      else (0, (fnd R (unitM R.length)).2.2.2)
    else (0, 2)
  else (0, 1)
theorem pe_small {n s c : Nat} (h : n ≤ s) : peRo n s c = 0 ∧ peAt n s c = n := by
  have h1 : max ((n : Int) - s) 0 = 0 := by omega
  have h2 : peRo n s c = 0 := by unfold peRo; rw [h1]; simp
  refine ⟨h2, ?_⟩
  unfold peAt
  rw [h2]
  omega
theorem pe_great {n s c : Nat} (h : s < n) : peRo n s c = ((n - s) / c : Nat) ∧ peAt n s c = s + (n - s) % c := by
  have h1 : max ((n : Int) - s) 0 = ((n - s : Nat) : Int) := by omega
  have h2 : peRo n s c = ((n - s) / c : Nat) := by unfold peRo; rw [h1]; simp
  refine ⟨h2, ?_⟩
  unfold peAt
  rw [h2]
  have h3 := Nat.div_add_mod (n - s) c
  have h4 : (n : Int) - (((n - s) / c : Nat) : Int) * (c : Int) = ((s + (n - s) % c : Nat) : Int) := by
    have h5 : (((n - s) / c : Nat) : Int) * (c : Int) = ((c * ((n - s) / c) : Nat) : Int) := by rw [Nat.mul_comm]; simp
    rw [h5]; omega
  rw [h4]; rfl
theorem pe_bd {n s c k : Nat} (hc : 1 ≤ c) (hk : s + c ≤ k) : peAt n s c ≤ k := by
  by_cases h : n ≤ s
  · rw [(pe_small h).2]; omega
  · rw [(pe_great (by omega)).2]
    have := Nat.mod_lt (n - s) (show 0 < c by omega)
    omega
theorem pe_ro {n s c : Nat} (hn : n ≤ 100000) : 0 ≤ peRo n s c ∧ peRo n s c ≤ 100000 := by
  by_cases h : n ≤ s
  · rw [(pe_small h).1]; omega
  · rw [(pe_great (by omega)).1]
    have := Nat.div_le_self (n - s) c
    generalize (n - s) / c = q at *
    omega
theorem pe_mul {r g : Int} (h1 : 0 ≤ r) (h2 : r ≤ 100000) (h3 : -2000000 ≤ g) (h4 : g ≤ 2000000) : -200000000000 ≤ r * g ∧ r * g ≤ 200000000000 := by
  constructor
  · have : r * (-2000000) ≤ r * g := Int.mul_le_mul_of_nonneg_left h3 h1
    omega
  · have : r * g ≤ r * 2000000 := Int.mul_le_mul_of_nonneg_left h4 h1
    omega
/-- An entry that is taken out of its pattern is put back by the height. -/
theorem pat_back {X : List (List Int)} (hm : isMat X = true) {i j : Nat} (hi : i < X.length) (hj : j < wid X) : times (times (ent X i j) (-(maxL X.flatten))) (maxL X.flatten) = ent X i j := by
  have hx := isVal_t (maxL_vals (flat_vals hm))
  have he := isVal_t ((isMat_t hm).2.2.2.2.2 i hi j hj)
  by_cases hB : maxL X.flatten = -1000000000000000
  · have hz : ent X i j = -1000000000000000 := by
      have hl := isMat_len hm hi
      have hmem : ent X i j ∈ X.flatten := by
        unfold ent
        refine List.mem_flatten.2 ⟨X.getD i [], ?_, ?_⟩
        · rw [List.getD_eq_getElem?_getD, List.getElem?_eq_getElem hi]; exact List.getElem_mem hi
        · have hjl : j < (X.getD i []).length := by rw [hl]; exact hj
          rw [List.getD_eq_getElem?_getD (l := X.getD i []), List.getElem?_eq_getElem hjl]; exact List.getElem_mem hjl
      obtain ⟨t, ht, e⟩ := List.mem_iff_getElem.1 hmem
      have := maxL_ge (x := X.flatten) (i := t) ht
      rw [List.getD_eq_getElem?_getD, List.getElem?_eq_getElem ht, Option.getD_some, e] at this
      omega
    rw [hz]
    simp [times]
  · unfold times
    split
    · rename_i h; rcases h with h | h
      · omega
      · omega
    · rename_i h
      have h' : ent X i j ≠ -1000000000000000 := fun e => h (.inl e)
      split <;> omega
theorem flat_at {L : Nat} : ∀ (X : List (List Int)) (i j : Nat), (∀ k, k < X.length → (X.getD k []).length = L) → i < X.length → j < L → X.flatten.getD (i * L + j) 0 = ent X i j
  | [], i, j, _, hi, _ => absurd hi (Nat.not_lt_zero i)
  | r :: X, 0, j, h, _, hj => by
    have hr : r.length = L := h 0 (by simp)
    have : j < r.length := by omega
    simp [ent, List.getD_eq_getElem?_getD, List.getElem?_append_left this]
  | r :: X, i + 1, j, h, hi, hj => by
    have hr : r.length = L := h 0 (by simp)
    have ih := flat_at X i j (fun k hk => by simpa using h (k + 1) (by simpa using hk)) (by simpa using hi) hj
    have e : (i + 1) * L + j = r.length + (i * L + j) := by rw [Nat.add_mul, hr]; omega
    rw [List.flatten_cons, e, List.getD_eq_getElem?_getD, List.getElem?_append_right (by omega), Nat.add_sub_cancel_left, ← List.getD_eq_getElem?_getD, ih]
    simp [ent]
/-! SteadyState. -/
def stRes (R : List (List Int)) (x : List Int) : List Int × Int :=
  if orbCode R x = 0 then
    if (fnd R (mk R.length 1 fun i _ => x.getD i 0)).2.2.2 = 0 then
      if isVec (nrm (orb R x (fnd R (mk R.length 1 fun i _ => x.getD i 0)).1.toNat)) then (nrm (orb R x (fnd R (mk R.length 1 fun i _ => x.getD i 0)).1.toNat), 0) else ([], 3)
    else ([], (fnd R (mk R.length 1 fun i _ => x.getD i 0)).2.2.2)
  else ([], orbCode R x)
theorem nrm_len (x : List Int) : (nrm x).length = x.length := shv_len _ _
/-- A list that is Bottom as a whole stays as it is. -/
theorem nrm_bot {x : List Int} (h : maxL x = -1000000000000000) (hv : Vals x) : nrm x = x := by
  unfold nrm
  rw [shv_is rfl]
  intro i hi
  have h1 := maxL_ge hi
  have h2 := isVal_t (hv i hi)
  have h3 : x.getD i 0 = -1000000000000000 := by omega
  rw [h3]; simp [times]
theorem stRes_len (R : List (List Int)) (x : List Int) : (stRes R x).1.length ≤ 10 := by
  unfold stRes
  split
  · split
    · split
      · rename_i h; exact (isVec_t h).2.1
      · simp
    · simp
  · simp
/-- A column of a pattern. -/
theorem pat_col {R : List (List Int)} {x : List Int} {k i : Nat} (hx : x.length = R.length) (hi : i < R.length) (h10 : R.length ≤ 10) :
    (patC (sq7 R (mk R.length 1 fun i _ => x.getD i 0) k) (maxL (sq7 R (mk R.length 1 fun i _ => x.getD i 0) k).flatten)).getD (i * 10) 0 = (nrm (orb R x k)).getD i 0 := by
  have h1 := sq7_col hx k
  have hl := orb_len hx k
  have hw : wid (mk R.length 1 fun i _ => (orb R x k).getD i 0) = 1 := mk_wid _ _ _ (by omega)
  have hL : (mk R.length 1 fun i _ => (orb R x k).getD i 0).length = R.length := by simp
  rw [orb_flat hx k, h1]
  have := patC_get (X := mk R.length 1 fun i _ => (orb R x k).getD i 0) (h := maxL (orb R x k)) (i := i) (j := 0) (by rw [hL]; exact hi) (by rw [hw]; omega) (by omega) (by omega)
  rw [Nat.add_zero] at this
  rw [this]
  unfold nrm
  rw [shv_get (by rw [hl]; exact hi)]
  congr 1
  exact ent_mk _ _ _ _ _ hi (by omega)
end M
end Go.Proofs.Ytcofjjipjcekjab
