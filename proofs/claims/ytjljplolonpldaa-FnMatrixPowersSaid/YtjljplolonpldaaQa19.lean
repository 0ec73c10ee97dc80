/- Texts laid together: Dr4, Dr7, Mat2, Like, IAdd2. -/
import Derived.Test.YtjljplolonpldaaQa17
import Derived.Test.YtjljplolonpldaaQa18
import Derived.Test.YtjljplolonpldaaRows
import Derived.Test.YtjljplolonpldaaQa1
import Derived.Test.YtjljplolonpldaaQa2
import Derived.Test.YtjljplolonpldaaQa3
import Derived.WalkKit
import Derived.ProofKit
import Derived.WalkSmall
import Derived.Deep.QuietTactic
import Derived.BigQuiet
import Derived.BigRegion
import Derived.Deep.Draws
import Derived.Lib.Hide
import Derived.OpenShut
import Derived.Deep.OwnRows
import Derived.Test.YtjljplolonpldaaQa14
import Derived.Test.YtjljplolonpldaaQa4
import Derived.StillTailTactics
set_option linter.unusedSimpArgs false
set_option linter.unusedVariables false
set_option linter.unusedSectionVars false
namespace Go.Proofs.Ytjljplolonpldaa.V
set_option maxRecDepth 100000
open Go.RowKit
theorem ownM_two (w : World) (B : Nat) (hB : B ≤ w.heap.size) {v1 v2 : Value} {l1 l2 : List Int} (h1 : Own w B v1 l1) (h2 : Own w B v2 l2) (hne : ∀ k, v1.ownBlock = some k → v2.ownBlock ≠ some k) :
    OwnM (w.alloc (.cells #[v1, v2] 29)) B (.slice (some ⟨w.heap.size, 0, none⟩) 2 2) [l1, l2] := by
  have lt1 : ∀ k, v1.ownBlock = some k → k < w.heap.size := fun k hk => (own_lt h1 hk).2
  have lt2 : ∀ k, v2.ownBlock = some k → k < w.heap.size := fun k hk => (own_lt h2 hk).2
  refine ⟨[v1, v2], rfl, World.ownsRow_lit w #[v1, v2] 2 hB (by decide) rfl, fun i hi => ?_, fun i hi k hk => ?_, fun i j hi hj hij k hk => ?_⟩
  · have : i = 0 ∨ i = 1 := by simp at hi; omega
    rcases this with rfl | rfl
    · exact h1.below (b_alloc w _)
    · exact h2.below (b_alloc w _)
  · have hk2 : k < w.heap.size := by
      have : i = 0 ∨ i = 1 := by simp at hi; omega
      rcases this with rfl | rfl
      · exact lt1 k hk
      · exact lt2 k hk
    intro e
    simp only [Value.ownBlock, Option.some.injEq] at e
    omega
  · have hi' : i = 0 ∨ i = 1 := by simp at hi; omega
    have hj' : j = 0 ∨ j = 1 := by simp at hj; omega
    rcases hi' with rfl | rfl <;> rcases hj' with rfl | rfl
    · omega
    · exact hne k hk
    · intro e; exact hne k e hk
    · omega
theorem ownLit2D (w : World) (B : Nat) (hB : B ≤ w.heap.size) (x y : Int) : Own (w.alloc (.cells #[.int .i64 x, .int .i64 y] 2)) B (.slice (some ⟨w.heap.size, 0, none⟩) 2 2) [x, y] := World.ownsRow_lit w #[.int .i64 x, .int .i64 y] 2 hB (by decide) rfl
/-- A drawn matrix, of few rows, and a drawn number. -/
def DrawNB (g : Nat) (w : World) (e : Ending) (w' : World) : Prop :=
  ∃ (a : Option Addr) (n cap : Nat) (R : List (List Int)) (x : Int), e = .returned (.tuple #[.slice a n cap, .int .i64 x]) ∧ n ≤ 200 ∧ OwnM w' w.heap.size (.slice a n cap) R ∧ Src w' g ∧ Thr g w w'
end Go.Proofs.Ytjljplolonpldaa.V

namespace Go.Proofs.Ytjljplolonpldaa.V
set_option maxRecDepth 100000
open Go.RowKit
theorem ownM_one7 (w : World) (B : Nat) (h : B ≤ w.heap.size) (x : Int) : OwnM ((w.alloc (.cells #[.int .i64 x] 2)).alloc (.cells #[.slice (some ⟨w.heap.size, 0, none⟩) 1 1] 29)) B (.slice (some ⟨w.heap.size + 1, 0, none⟩) 1 1) [[x]] := by
  have h1 : Own (w.alloc (.cells #[.int .i64 x] 2)) B (.slice (some ⟨w.heap.size, 0, none⟩) 1 1) [x] := World.ownsRow_lit w #[.int .i64 x] 1 h (by decide) rfl
  have := ownM_lit1 (w.alloc (.cells #[.int .i64 x] 2)) B (by simp; omega) h1
  simpa using this
set_option maxRecDepth 100000 in
set_option maxHeartbeats 2000000 in
theorem draw7 (g : Nat) (w : World) (h : Src w g) : Calls Try.prog 108 #[.pointer (some ⟨g, 0, none⟩)] w (DrawMB g w) := by
  have HS := Lib.hid h
  have hgl := h.lt
  clear h
  go_enter Try.func108, Try.ntmps108
  go_wp2_with fail
  refine (next g 4 _ (by decide) HS.out).mono ?_
  rintro e w1 ⟨x, rfl, hx1, hx2, hs1, ht1⟩
  obtain ⟨x, rfl⟩ := Int.eq_ofNat_of_zero_le hx1
  have hx3 : x < 4 := by omega
  have HS1 := Lib.hid hs1
  have HT1 := Lib.hid ht1
  have e1 : (1 : Int) + (x : Int) = ((1 + x : Nat) : Int) := by omega
  have E1 := Lib.hid e1
  clear e1 hs1 ht1 hx2 hx1
  go_wp2_with fail
  refine (next g 40 _ (by decide) HS1.out).mono ?_
  rintro e w3 ⟨z, rfl, -, -, hs3, ht3⟩
  have HS3 := Lib.hid hs3
  have HT3 := Lib.hid (HT1.out.trans ht3)
  clear hs3 ht3 HS1 HT1
  by_cases hx0 : z = 0
  · subst hx0
    have hg3 := HS3.out.lt
    go_wp2_with fail
    refine (pick g _ 0 3 3 _ (HS3.out.alloc _) (by omega) (by omega) hg3 (litCells _ [100000, 9999, -10001] _ _ rfl (by decide))).mono ?_
    rintro e w4 ⟨p1, rfl, -, hs4, ht4⟩
    have HS4 := Lib.hid hs4
    have HT4 := Lib.hid ((HT3.out.alloc (by omega) _).trans ht4)
    have hg4 := hs4.lt
    clear hs4 ht4
    have hz4 : w.heap.size ≤ w4.heap.size := HT4.out.below.size
    have HO := Lib.hid (ownM_one7 w4 w.heap.size hz4 p1)
    have HSf := Lib.hid ((HS4.out.alloc (.cells #[.int .i64 p1] 2)).alloc (.cells #[.slice (some ⟨w4.heap.size, 0, none⟩) 1 1] 29))
    have HTf := Lib.hid ((HT4.out.alloc (by omega) (.cells #[.int .i64 p1] 2)).alloc (by simp; omega) (.cells #[.slice (some ⟨w4.heap.size, 0, none⟩) 1 1] 29))
    go_wp2
    go_ret
    exact ⟨_, _, _, _, rfl, by omega, by simpa using HO.out, HSf.out, HTf.out⟩
  · have ex : (z == 0) = false := by simpa using hx0
    go_wp2_with fail
    rw [E1.out]
    refine (drawSizeB g (1 + x) (1 + x) _ HS3.out (by omega) (by omega) (by omega) (by omega)).mono ?_
    rintro e w5 ⟨a, n, cap, R, rfl, hn, ho, hs5, ht5⟩
    have HO := Lib.hid (ho.mono HT3.out.below.size)
    have HS5 := Lib.hid hs5
    have HT5 := Lib.hid (HT3.out.trans ht5)
    clear ho hs5 ht5
    go_wp2
    go_ret
    exact ⟨a, n, cap, R, rfl, hn, HO.out, HS5.out, HT5.out⟩
/-- A drawn matrix and a drawn vector. -/
def DrawPB (g : Nat) (w : World) (e : Ending) (w' : World) : Prop :=
  ∃ (a : Option Addr) (n cap : Nat) (R : List (List Int)) (b : Option Addr) (N c : Nat) (l : List Int), e = .returned (.tuple #[.slice a n cap, .slice b N c]) ∧ OwnM w' w.heap.size (.slice a n cap) R ∧ Own w' w.heap.size (.slice b N c) l ∧ Src w' g ∧ Thr g w w'
set_option maxRecDepth 100000 in
set_option maxHeartbeats 2000000 in
theorem drawPair7 (g : Nat) (w : World) (h : Src w g) : Calls Try.prog 94 #[.pointer (some ⟨g, 0, none⟩)] w (DrawPB g w) := by
  have HS := Lib.hid h
  have hgl := h.lt
  clear h
  go_enter Try.func94, Try.ntmps94
  go_wp2_with fail
  refine (draw7 g _ HS.out).mono ?_
  rintro e w2 ⟨a2, n2, c2, R, rfl, hn2, ho, hs2, ht2⟩
  have HO2 := Lib.hid ho
  have HS2 := Lib.hid hs2
  have HT2 := Lib.hid ht2
  clear ho hs2 ht2
  go_wp2_with fail
  refine (next g 24 _ (by decide) HS2.out).mono ?_
  rintro e w3 ⟨x, rfl, -, -, hs3, ht3⟩
  have HO3 := Lib.hid (HO2.out.thr ht3 hgl)
  have HS3 := Lib.hid hs3
  have HT3 := Lib.hid (HT2.out.trans ht3)
  clear hs3 ht3 HO2 HS2 HT2
  by_cases hx0 : x = 0
  · subst hx0
    have e1 : (n2 : Int) + 1 = ((n2 + 1 : Nat) : Int) := by omega
    have E1 := Lib.hid e1
    clear e1
    go_wp2_with fail
    rw [E1.out]
    refine (drawVector g (n2 + 1) _ HS3.out (by omega)).mono ?_
    rintro e w4 ⟨b, N, c, l, rfl, ho, hs4, ht4⟩
    have HO4 := Lib.hid (HO3.out.thr ht4 hgl)
    have HV4 := Lib.hid (ho.mono HT3.out.below.size)
    have HS4 := Lib.hid hs4
    have HT4 := Lib.hid (HT3.out.trans ht4)
    clear hs4 ht4 ho
    go_wp2
    go_ret2
    exact ⟨_, _, _, R, _, _, _, l, rfl, HO4.out, HV4.out, HS4.out, HT4.out⟩
  · have ex : (x == 0) = false := by simpa using hx0
    go_wp2_with fail
    refine (drawVector g n2 _ HS3.out (by omega)).mono ?_
    rintro e w4 ⟨b, N, c, l, rfl, ho, hs4, ht4⟩
    have HO4 := Lib.hid (HO3.out.thr ht4 hgl)
    have HV4 := Lib.hid (ho.mono HT3.out.below.size)
    have HS4 := Lib.hid hs4
    have HT4 := Lib.hid (HT3.out.trans ht4)
    clear hs4 ht4 ho
    go_wp2
    go_ret2
    exact ⟨_, _, _, R, _, _, _, l, rfl, HO4.out, HV4.out, HS4.out, HT4.out⟩
/-- A drawn matrix, a drawn vector and a drawn integer. -/
def DrawnMVI (w : World) (e : Ending) (w' : World) : Prop :=
  ∃ (a : Option Addr) (n cap : Nat) (R : List (List Int)) (b : Option Addr) (N c : Nat) (l : List Int) (x : Int), e = .returned (.tuple #[.slice a n cap, .slice b N c, .int .i64 x]) ∧ Mat w' a n R ∧ Ints .i64 w' b N l ∧ Below w.heap.size w w'
set_option maxRecDepth 100000 in
set_option maxHeartbeats 2000000 in
theorem drawOrbitOf (a : Option Addr) (n cap : Nat) (w : World) (h : Bytes w a n) :
    Calls Try.prog 28 #[.slice a n cap] w (DrawnMVI w) := by
  have HB := Lib.hid h
  clear h
  go_enter Try.func28, Try.ntmps28
  go_wp2_with fail
  refine (from_ _ _ _ _ HB.out).mono ?_
  rintro e w1 ⟨rfl, hs1, hb1⟩
  have HS1 := Lib.hid hs1
  have HB1 := Lib.hid hb1
  have hg1 := hs1.lt
  clear hs1 hb1
  go_wp2_with fail
  refine (drawPair7 _ _ HS1.out).mono ?_
  rintro e w2 ⟨a2, n2, c2, R, b2, N2, d2, l, rfl, ho, hv, hs2, ht2⟩
  have HO2 := Lib.hid ho
  have HV2 := Lib.hid hv
  have HS2 := Lib.hid hs2
  have HB2 := Lib.hid (HB1.out.trans ht2.below)
  clear ho hv hs2 ht2
  go_wp2_with fail
  refine (next _ 20 _ (by decide) HS2.out).mono ?_
  rintro e w3 ⟨x, rfl, hx1, hx2, hs3, ht3⟩
  have HO3 := Lib.hid (HO2.out.thr ht3 hg1)
  have HV3 := Lib.hid (HV2.out.thr ht3 hg1)
  have HS3 := Lib.hid hs3
  have HB3 := Lib.hid (HB2.out.trans ht3.below)
  have hg3 := hs3.lt
  clear hs3 ht3 hx2 HO2 HS2 HB2 HV2
  by_cases hx0 : x = 0
  · subst hx0
    go_wp2_with fail
    refine (pick _ _ 0 3 3 _ (HS3.out.alloc _) (by omega) (by omega) hg3 (litCells _ [-1, 100, 101] _ _ rfl (by decide))).mono ?_
    rintro e w4 ⟨y, rfl, hy, hs4, ht4⟩
    have HO4 := Lib.hid ((HO3.out.keep (w' := w3.alloc _) (fun k _ h2 => Below.heap_alloc _ _ _ h2)).thr ht4 hg1).mat
    have HV4 := Lib.hid ((HV3.out.below (b_alloc w3 _)).thr ht4 hg1).ints'
    have HB4 := Lib.hid ((HB3.out.alloc HB3.out.size _).trans ht4.below)
    clear hs4 ht4 hy
    go_wp2
    exact bodyPost_ret (v := .tuple #[.slice a2 n2 c2, .slice b2 N2 d2, .int .i64 y]) (by simp [results, Try.results28, go_sem]) rfl ⟨_, _, _, R, _, _, _, l, _, rfl, HO4.out, HV4.out, HB4.out⟩
  · have e0 : (x == 0) = false := by simpa using hx0
    go_wp2_with fail
    refine (next _ 10 _ (by decide) HS3.out).mono ?_
    rintro e w4 ⟨y, rfl, -, -, hs4, ht4⟩
    have HO4 := Lib.hid (HO3.out.thr ht4 hg1).mat
    have HV4 := Lib.hid (HV3.out.thr ht4 hg1).ints'
    have HB4 := Lib.hid (HB3.out.trans ht4.below)
    clear hs4 ht4
    go_wp2
    exact bodyPost_ret (v := .tuple #[.slice a2 n2 c2, .slice b2 N2 d2, .int .i64 y]) (by simp [results, Try.results28, go_sem]) rfl ⟨_, _, _, R, _, _, _, l, _, rfl, HO4.out, HV4.out, HB4.out⟩
set_option maxRecDepth 100000 in
set_option maxHeartbeats 1000000 in
theorem drawSteadyState (a : Option Addr) (n cap : Nat) (w : World) (h : Bytes w a n) :
    Calls Try.prog 31 #[.slice a n cap] w (DrawnMV w) := by
  have HB := Lib.hid h
  clear h
  go_enter Try.func31, Try.ntmps31
  go_wp2_with fail
  refine (from_ _ _ _ _ HB.out).mono ?_
  rintro e w1 ⟨rfl, hs1, hb1⟩
  have HS1 := Lib.hid hs1
  have HB1 := Lib.hid hb1
  clear hs1 hb1
  go_wp2_with fail
  refine (drawPair7 _ _ HS1.out).mono ?_
  rintro e w2 ⟨a2, n2, c2, R, b2, N2, d2, l, rfl, ho, hv, hs2, ht2⟩
  have HO := Lib.hid ho.mat
  have HV := Lib.hid hv.ints'
  have HB2 := Lib.hid (HB1.out.trans ht2.below)
  clear ho hv hs2 ht2
  go_wp2
  go_ret2
  exact ⟨_, _, _, R, _, _, _, l, rfl, HO.out, HV.out, HB2.out⟩
/-- A drawn vector and a drawn integer. -/
def DrawnVI (w : World) (e : Ending) (w' : World) : Prop :=
  ∃ (b : Option Addr) (N c : Nat) (l : List Int) (x : Int), e = .returned (.tuple #[.slice b N c, .int .i64 x]) ∧ Ints .i64 w' b N l ∧ Below w.heap.size w w'
set_option maxRecDepth 100000 in
set_option maxHeartbeats 2000000 in
theorem drawShiftVector (a : Option Addr) (n cap : Nat) (w : World) (h : Bytes w a n) :
    Calls Try.prog 32 #[.slice a n cap] w (DrawnVI w) := by
  have HB := Lib.hid h
  clear h
  go_enter Try.func32, Try.ntmps32
  go_wp2_with fail
  refine (from_ _ _ _ _ HB.out).mono ?_
  rintro e w1 ⟨rfl, hs1, hb1⟩
  have HS1 := Lib.hid hs1
  have HB1 := Lib.hid hb1
  have hg1 := hs1.lt
  clear hs1 hb1
  go_wp2_with fail
  refine (next _ 5 _ (by decide) HS1.out).mono ?_
  rintro e w2 ⟨z, rfl, hz1, hz2, hs2, ht2⟩
  obtain ⟨z, rfl⟩ := Int.eq_ofNat_of_zero_le hz1
  have hz3 : z < 5 := by omega
  have e1 : (1 : Int) + (z : Int) = ((1 + z : Nat) : Int) := by omega
  have E1 := Lib.hid e1
  have HS2 := Lib.hid hs2
  have HB2 := Lib.hid (HB1.out.trans ht2.below)
  clear e1 hs2 ht2 hz1 hz2
  go_wp2_with fail
  rw [E1.out]
  refine (drawVector _ (1 + z) _ HS2.out (by omega)).mono ?_
  rintro e w3 ⟨b, N, c, l, rfl, hv, hs3, ht3⟩
  have HV3 := Lib.hid hv
  have HS3 := Lib.hid hs3
  have HB3 := Lib.hid (HB2.out.trans ht3.below)
  have hlt2 := HS2.out.lt
  clear hv hs3 ht3
  go_wp2_with fail
  refine (next _ 12 _ (by decide) HS3.out).mono ?_
  rintro e w4 ⟨x, rfl, hx1, hx2, hs4, ht4⟩
  have HV4 := Lib.hid (HV3.out.thr ht4 hlt2)
  have HS4 := Lib.hid hs4
  have HB4 := Lib.hid (HB3.out.trans ht4.below)
  have hg4 := hs4.lt
  clear hs4 ht4 HV3 HS3 HB3
  by_cases hx0 : x = 0
  · subst hx0
    go_wp2_with fail
    refine (pick _ _ 0 4 4 _ (HS4.out.alloc _) (by omega) (by omega) hg4 (litCells _ [1000000, 1000001, -1000000, -1000000000000000] _ _ rfl (by decide))).mono ?_
    rintro e w5 ⟨y, rfl, hy, hs5, ht5⟩
    have HV5 := Lib.hid ((HV4.out.below (b_alloc w4 _)).thr ht5 hlt2).ints'
    have HB5 := Lib.hid ((HB4.out.alloc HB4.out.size _).trans ht5.below)
    clear hs5 ht5 hy
    go_wp2
    go_ret2
    exact ⟨_, _, _, l, _, rfl, HV5.out, HB5.out⟩
  · have e0 : (x == 0) = false := by simpa using hx0
    go_wp2_with fail
    refine (next _ 40 _ (by decide) HS4.out).mono ?_
    rintro e w5 ⟨y, rfl, -, -, hs5, ht5⟩
    have HV5 := Lib.hid (HV4.out.thr ht5 hlt2).ints'
    have HB5 := Lib.hid (HB4.out.trans ht5.below)
    clear hs5 ht5
    go_wp2
    go_ret2
    exact ⟨_, _, _, l, _, rfl, HV5.out, HB5.out⟩
theorem wf_lit4 {a b c d : Int} (h1 : (Lit.int .i64 a).wf = true) (h2 : (Lit.int .i64 b).wf = true) (h3 : (Lit.int .i64 c).wf = true) (h4 : (Lit.int .i64 d).wf = true) : ([a, b, c, d].all fun x => (Lit.int .i64 x).wf) = true := by
  show ((Lit.int .i64 a).wf && ((Lit.int .i64 b).wf && ((Lit.int .i64 c).wf && ((Lit.int .i64 d).wf && true)))) = true
  rw [h1, h2, h3, h4]; rfl
/-- A drawn matrix and three drawn integers. -/
def DrawnMIII (w : World) (e : Ending) (w' : World) : Prop :=
  ∃ (a : Option Addr) (n cap : Nat) (R : List (List Int)) (x y z : Int), e = .returned (.tuple #[.slice a n cap, .int .i64 x, .int .i64 y, .int .i64 z]) ∧ Mat w' a n R ∧ Below w.heap.size w w'
set_option maxRecDepth 100000 in
set_option maxHeartbeats 4000000 in
theorem drawPowerEntry (a : Option Addr) (n cap : Nat) (w : World) (h : Bytes w a n) :
    Calls Try.prog 39 #[.slice a n cap] w (DrawnMIII w) := by
  have HB := Lib.hid h
  clear h
  go_enter Try.func39, Try.ntmps39
  go_wp2_with fail
  refine (from_ _ _ _ _ HB.out).mono ?_
  rintro e w1 ⟨rfl, hs1, hb1⟩
  have HS1 := Lib.hid hs1
  have HB1 := Lib.hid hb1
  have hg1 := hs1.lt
  clear hs1 hb1
  go_wp2_with fail
  refine (draw7 _ _ HS1.out).mono ?_
  rintro e w2 ⟨a2, n2, c2, R, rfl, hn2, ho, hs2, ht2⟩
  have HO2 := Lib.hid ho
  have HS2 := Lib.hid hs2
  have HB2 := Lib.hid (HB1.out.trans ht2.below)
  have hwn : (Lit.int .i64 (n2 : Int)).wf = true := wf_small _ (by omega) (by omega)
  clear ho hs2 ht2
  go_wp2_with fail
  refine (next _ 12 _ (by decide) HS2.out).mono ?_
  rintro e w3 ⟨x1, rfl, p1, q1, hs3, ht3⟩
  have hw1 : (Lit.int .i64 x1).wf = true := wf_small _ (by omega) (by omega)
  have HO3 := Lib.hid (HO2.out.thr ht3 hg1)
  have HS3 := Lib.hid hs3
  have HB3 := Lib.hid (HB2.out.trans ht3.below)
  clear hs3 ht3 HO2 HS2 HB2 p1 q1
  go_wp2_with fail
  refine (next _ 12 _ (by decide) HS3.out).mono ?_
  rintro e w4 ⟨x2, rfl, p1, q1, hs4, ht4⟩
  have hw2 : (Lit.int .i64 x2).wf = true := wf_small _ (by omega) (by omega)
  have HO4 := Lib.hid (HO3.out.thr ht4 hg1)
  have HS4 := Lib.hid hs4
  have HB4 := Lib.hid (HB3.out.trans ht4.below)
  clear hs4 ht4 HO3 HS3 HB3 p1 q1
  go_wp2_with fail
  refine (next _ 20000 _ (by decide) HS4.out).mono ?_
  rintro e w5 ⟨x3, rfl, p1, q1, hs5, ht5⟩
  have hw3 : (Lit.int .i64 x3).wf = true := wf_small _ (by omega) (by omega)
  have HO5 := Lib.hid (HO4.out.thr ht5 hg1)
  have HS5 := Lib.hid hs5
  have HB5 := Lib.hid (HB4.out.trans ht5.below)
  have hg5 := hs5.lt
  clear hs5 ht5 HO4 HS4 HB4 p1 q1
  go_wp2_with fail
  refine (pick _ _ 0 3 3 _ (HS5.out.alloc _) (by omega) (by omega) hg5 (litCells _ [-1, 100000, 100001] _ _ rfl (by decide))).mono ?_
  rintro e w6 ⟨x4, rfl, hw4, hs6, ht6⟩
  have HO6 := Lib.hid ((HO5.out.keep (w' := w5.alloc _) (fun k _ h2 => Below.heap_alloc _ _ _ h2)).thr ht6 hg1)
  have HS6 := Lib.hid hs6
  have HB6 := Lib.hid ((HB5.out.alloc HB5.out.size _).trans ht6.below)
  have hg6 := hs6.lt
  clear hs6 ht6 HO5 HS5 HB5
  go_wp2_with fail
  refine (pick _ _ 0 4 4 _ (HS6.out.alloc _) (by omega) (by omega) hg6 (litCells _ [x1, x2, x3, x4] _ _ rfl (wf_lit4 hw1 hw2 hw3 hw4))).mono ?_
  rintro e w7 ⟨nn, rfl, hw7, hs7, ht7⟩
  have HO7 := Lib.hid ((HO6.out.keep (w' := w6.alloc _) (fun k _ h2 => Below.heap_alloc _ _ _ h2)).thr ht7 hg1)
  have HS7 := Lib.hid hs7
  have HB7 := Lib.hid ((HB6.out.alloc HB6.out.size _).trans ht7.below)
  clear hs7 ht7 HO6 HS6 HB6
  go_wp2_with fail
  refine (next _ 24 _ (by decide) HS7.out).mono ?_
  rintro e w8 ⟨z, rfl, -, -, hs8, ht8⟩
  have HO8 := Lib.hid (HO7.out.thr ht8 hg1)
  have HS8 := Lib.hid hs8
  have HB8 := Lib.hid (HB7.out.trans ht8.below)
  have hg8 := hs8.lt
  clear hs8 ht8 HO7 HS7 HB7
  by_cases hx0 : z = 0
  · subst hx0
    go_wp2_with fail
    refine (pick _ _ 0 2 2 _ (HS8.out.alloc _) (by omega) (by omega) hg8 (litCells _ [-1, (n2 : Int)] _ _ rfl (by show ((Lit.int .i64 (-1)).wf && ((Lit.int .i64 (n2 : Int)).wf && true)) = true; rw [hwn]; rfl))).mono ?_
    rintro e w9 ⟨y, rfl, hy, hs9, ht9⟩
    have HO9 := Lib.hid ((HO8.out.keep (w' := w8.alloc _) (fun k _ h2 => Below.heap_alloc _ _ _ h2)).thr ht9 hg1).mat
    have HB9 := Lib.hid ((HB8.out.alloc HB8.out.size _).trans ht9.below)
    clear hs9 ht9 hy
    go_wp2
    exact bodyPost_ret (v := .tuple #[.slice a2 n2 c2, .int .i64 nn, .int .i64 y, .int .i64 0]) (by simp [results, Try.results39, go_sem]) rfl ⟨_, _, _, R, _, _, _, rfl, HO9.out, HB9.out⟩
  · have e0 : (z == 0) = false := by simpa using hx0
    go_wp2_with fail
    refine (next _ (n2 : Int) _ hwn HS8.out).mono ?_
    rintro e w9 ⟨y1, rfl, -, -, hs9, ht9⟩
    have HO9 := Lib.hid (HO8.out.thr ht9 hg1)
    have HS9 := Lib.hid hs9
    have HB9 := Lib.hid (HB8.out.trans ht9.below)
    clear hs9 ht9 HO8 HS8 HB8
    go_wp2_with fail
    refine (next _ (n2 : Int) _ hwn HS9.out).mono ?_
    rintro e wf ⟨y2, rfl, -, -, hsf, htf⟩
    have HOf := Lib.hid (HO9.out.thr htf hg1).mat
    have HBf := Lib.hid (HB9.out.trans htf.below)
    clear hsf htf
    go_wp2
    exact bodyPost_ret (v := .tuple #[.slice a2 n2 c2, .int .i64 nn, .int .i64 y1, .int .i64 y2]) (by simp [results, Try.results39, go_sem]) rfl ⟨_, _, _, R, _, _, _, rfl, HOf.out, HBf.out⟩
end Go.Proofs.Ytjljplolonpldaa.V

namespace Go.Proofs.Ytjljplolonpldaa.V
open Go.RowKit

set_option maxRecDepth 100000 in
set_option maxHeartbeats 400000 in
theorem eqIntss (a : Option Addr) (n cap : Nat) (R : List (List Int)) (a' : Option Addr) (n' cap' : Nat) (R' : List (List Int)) (w : World) (h : Mat w a n R) (h' : Mat w a' n' R') (heq : R = R') :
    Calls Try.prog 19 #[.slice a n cap, .slice a' n' cap'] w fun e w' => e = .returned (.bool true) ∧ ∃ q, w' = w.drewN q := by
  subst heq
  have HM := Lib.hid h
  have HM' := Lib.hid h'
  obtain ⟨hl, hm, -⟩ := h
  obtain ⟨hl', -, -⟩ := h'
  obtain rfl : n = n' := by omega
  unfold maxLen at hm
  have HL := Lib.hid hl
  clear hl hl'
  go_enter Try.func19, Try.ntmps19
  go_wp2
  go_loopw [5] (fun i wr => ∃ k : Nat, k ≤ n ∧ i = .int .i64 k ∧ ∃ q, wr = w.drewN q) (fun i _ => n - (intOf i).toNat)
  case atStart => exact ⟨0, Nat.zero_le _, rfl, 0, rfl⟩
  case round =>
    obtain ⟨k, hk, rfl, q, rfl⟩ := hrel
    by_cases hlt : k < n
    · obtain ⟨b, off, ra, rc, L, l, rfl, hbl, hll, hc, hI⟩ := HM.out.at k hlt
      obtain ⟨b', off', ra', rc', L', l', rfl, hbl', hll', hc', hI'⟩ := HM'.out.at k hlt
      have HI := Lib.hid hI
      have HI' := Lib.hid hI'
      have HE := Lib.hid (hll.trans hll'.symm)
      clear hI hI' hll hll' HM HM'
      have hki : (k : Int) < (n : Int) := by omega
      go_wp2
      go_quiet ((go_at_call 23; exact q_more (eqInts _ _ _ l _ _ _ l' _ HI.out HI'.out HE.out)))
      go_wp2
      go_roundw
      case rel => exact ⟨k + 1, by omega, by go_num, _, rfl⟩
      case measure => simp [intOf]; omega
    · have hkn : k = n := by omega
      subst hkn
      go_wp2
      go_ret
      exact ⟨rfl, q, rfl⟩

set_option maxRecDepth 100000 in
set_option maxHeartbeats 400000 in
theorem copyIntss (a : Option Addr) (n cap : Nat) (R : List (List Int)) (w : World) (h : Mat w a n R) (hs : n ≤ 1048576) (hr : M.pre R R.length ≤ 1048576) :
    Calls Try.prog 17 #[.slice a n cap] w fun e w' => e = .returned (.slice (some ⟨w.heap.size, 0, none⟩) n n) ∧ OwnM w' w.heap.size (.slice (some ⟨w.heap.size, 0, none⟩) n n) R ∧ Below w.heap.size w w' := by
  have HM := Lib.hid h
  obtain ⟨hl, hm, -⟩ := h
  have hm2 := hm
  unfold maxLen at hm
  have HL := Lib.hid hl
  have HR := Lib.hid hr
  clear hl hr
  have hmk := run_make_row' (P := Try.prog) 22 29 (.slice none 0 0) 24 Try.underlying22 infoS64 rfl .i64 .i64 n (by omega) (by omega)
  go_enter Try.func17, Try.ntmps17
  go_wp2
  clear hmk
  go_loopw [4] (fun i wr => ∃ k : Nat, k ≤ n ∧ i = .int .i64 k ∧ OwnM wr w.heap.size (.slice (some ⟨w.heap.size, 0, none⟩) n n) ((List.range n).map fun j => if j < k then R.getD j [] else []) ∧ Below w.heap.size w wr) (fun i _ => n - (intOf i).toNat)
  case atStart =>
    refine ⟨0, Nat.zero_le _, rfl, ?_, b_alloc _ _⟩
    refine (congrArg (OwnM _ _ _) ?_).mp (ownM_made w _ n (Nat.le_refl _) hm2)
    apply List.ext_getElem
    · simp
    · intro i h1 h2; simp
  case round =>
    obtain ⟨k, hk, rfl, hO, hb⟩ := hrel
    have HO := Lib.hid hO
    have HB := Lib.hid hb
    clear hO hb
    by_cases hlt : k < n
    · obtain ⟨b, off, ra, rc, L, l, rfl, hbl, hll, hc, hI⟩ := (HM.out.below HB.out).at k hlt
      have HI := Lib.hid hI
      have HLL := Lib.hid hll
      have hLs : L ≤ 1048576 := by
        have e1 := M.len_le_pre R k (by have := HL.out; omega)
        have e2 := HR.out
        have e3 := HI.out.1
        rw [HLL.out] at e3
        omega
      clear hI hll
      go_wp2_with fail
      refine (copyInts _ _ _ l _ HI.out hLs).mono ?_
      rintro e w1 ⟨rfl, ho1, hb1⟩
      have hg := HO.out.lt rfl
      have hst : ∃ v, w1.cell? ⟨w.heap.size, k, none⟩ = some v := by
        obtain ⟨v, hv⟩ := HO.out.outer k hlt
        exact ⟨v, by rw [hb1.cell (p := ⟨w.heap.size, k, none⟩) hg]; exact hv⟩
      obtain ⟨v, hst⟩ := hst
      have hfz : w1.frozen? ⟨w.heap.size, k, none⟩ = false := by rw [hb1.frozen (p := ⟨w.heap.size, k, none⟩) hg]; exact HO.out.outerFz k
      have HN := Lib.hid (HO.out.setRow hb1 HB.out.size ho1 k hlt)
      have HB1 := Lib.hid (bnext HB.out hb1)
      clear ho1 hb1 hg
      go_wp2
      go_roundw
      case rel =>
        refine ⟨k + 1, by omega, by go_num, ?_, HB1.out.setCell (Nat.le_refl _) _⟩
        refine (congrArg (OwnM _ _ _) ?_).mp HN.out
        apply List.ext_getElem
        · simp
        · intro j h1 h2
          simp only [List.length_map, List.length_range] at h2
          rw [List.getElem_set]
          simp only [List.getElem_map, List.getElem_range]
          by_cases e : k = j
          · subst e; rw [if_pos rfl, if_pos (by omega), HLL.out]
          · rw [if_neg e]
            by_cases e2 : j < k
            · rw [if_pos e2, if_pos (by omega)]
            · rw [if_neg e2, if_neg (by omega)]
      case measure => simp [intOf]; omega
    · have hkn : k = n := by omega
      subst hkn
      go_wp2
      go_ret
      refine ⟨rfl, ?_, HB.out⟩
      refine (congrArg (OwnM _ _ _) ?_).mp HO.out
      have hl := HL.out
      apply List.ext_getElem
      · simp [hl]
      · intro i h1 h2
        simp [show i < k by omega, h2]

/-- The same, said for the exact laws. -/
theorem eqM (a : Option Addr) (n cap : Nat) (R : List (List Int)) (a' : Option Addr) (n' cap' : Nat) (w : World) (h : Mat w a n R) (h' : Mat w a' n' R) :
    Calls Try.prog 19 #[.slice a n cap, .slice a' n' cap'] w fun e w' => e = .returned (.bool true) ∧ Below w.heap.size w w' := by
  refine (eqIntss _ _ _ _ _ _ _ _ _ h h' rfl).mono ?_
  rintro e w' ⟨rfl, q, rfl⟩
  exact ⟨rfl, b_draws _ _⟩
theorem eqV (a : Option Addr) (n cap : Nat) (l : List Int) (a' : Option Addr) (n' cap' : Nat) (w : World) (h : Ints .i64 w a n l) (h' : Ints .i64 w a' n' l) :
    Calls Try.prog 23 #[.slice a n cap, .slice a' n' cap'] w fun e w' => e = .returned (.bool true) ∧ Below w.heap.size w w' := by
  refine (eqInts _ _ _ _ _ _ _ _ _ h h' rfl).mono ?_
  rintro e w' ⟨rfl, q, rfl⟩
  exact ⟨rfl, b_draws _ _⟩
end Go.Proofs.Ytjljplolonpldaa.V

namespace Go.Proofs.Ytjljplolonpldaa.V
open Go.RowKit

set_option maxRecDepth 100000 in
set_option maxHeartbeats 400000 in
theorem likeInts (a : Option Addr) (n cap : Nat) (l : List Int) (a' : Option Addr) (n' cap' : Nat) (l' : List Int) (w : World) (h : Ints .i64 w a n l) (h' : Ints .i64 w a' n' l') (heq : l = l') :
    Calls Try.prog 36 #[.slice a n cap, .slice a' n' cap'] w fun e w' => e = .returned (.bool true) ∧ ∃ q, w' = w.drewN q := by
  subst heq
  obtain ⟨hl, hm, hr⟩ := h
  obtain ⟨hl', hm', hr'⟩ := h'
  obtain rfl : n = n' := by omega
  unfold maxLen at hm
  clear hm'
  have HL := Lib.hid hl
  clear hl hl'
  go_enter Try.func36, Try.ntmps36
  go_wp2
  go_loopw [5] (fun i wr => ∃ k : Nat, k ≤ n ∧ i = .int .i64 k ∧ ∃ q, wr = w.drewN q) (fun i _ => n - (intOf i).toNat)
  case atStart => exact ⟨0, Nat.zero_le _, rfl, 0, rfl⟩
  case round =>
    obtain ⟨k, hk, rfl, q, rfl⟩ := hrel
    by_cases hlt : k < n
    · rcases hr with h0 | ⟨b, off, rfl, hbl, hc⟩
      · omega
      rcases hr' with h0 | ⟨b', off', rfl, hbl', hc'⟩
      · omega
      have hck := hc k hlt
      have hck' := hc' k hlt
      obtain ⟨x, hx⟩ : ∃ x, x = l.getD k 0 := ⟨_, rfl⟩
      rw [← hx] at hck hck'
      clear hc hx hc'
      have hki : (k : Int) < (n : Int) := by omega
      go_wp2
      go_quiet (fail)
      go_wp2
      go_roundw
      case rel => exact ⟨k + 1, by omega, by go_num, _, rfl⟩
      case measure => simp [intOf]; omega
    · have hkn : k = n := by omega
      subst hkn
      clear hr hr'
      go_wp2
      go_ret
      exact ⟨rfl, q, rfl⟩

set_option maxRecDepth 100000 in
set_option maxHeartbeats 400000 in
theorem likeIntss (a : Option Addr) (n cap : Nat) (R : List (List Int)) (a' : Option Addr) (n' cap' : Nat) (R' : List (List Int)) (w : World) (h : Mat w a n R) (h' : Mat w a' n' R') (heq : R = R') :
    Calls Try.prog 35 #[.slice a n cap, .slice a' n' cap'] w fun e w' => e = .returned (.bool true) ∧ ∃ q, w' = w.drewN q := by
  subst heq
  have HM := Lib.hid h
  have HM' := Lib.hid h'
  obtain ⟨hl, hm, -⟩ := h
  obtain ⟨hl', -, -⟩ := h'
  obtain rfl : n = n' := by omega
  unfold maxLen at hm
  have HL := Lib.hid hl
  clear hl hl'
  go_enter Try.func35, Try.ntmps35
  go_wp2
  go_loopw [5] (fun i wr => ∃ k : Nat, k ≤ n ∧ i = .int .i64 k ∧ ∃ q, wr = w.drewN q) (fun i _ => n - (intOf i).toNat)
  case atStart => exact ⟨0, Nat.zero_le _, rfl, 0, rfl⟩
  case round =>
    obtain ⟨k, hk, rfl, q, rfl⟩ := hrel
    by_cases hlt : k < n
    · obtain ⟨b, off, ra, rc, L, l, rfl, hbl, hll, hc, hI⟩ := HM.out.at k hlt
      obtain ⟨b', off', ra', rc', L', l', rfl, hbl', hll', hc', hI'⟩ := HM'.out.at k hlt
      have HI := Lib.hid hI
      have HI' := Lib.hid hI'
      have HE := Lib.hid (hll.trans hll'.symm)
      clear hI hI' hll hll' HM HM'
      have hki : (k : Int) < (n : Int) := by omega
      go_wp2
      go_quiet ((go_at_call 36; exact q_more (likeInts _ _ _ l _ _ _ l' _ HI.out HI'.out HE.out)))
      go_wp2
      go_roundw
      case rel => exact ⟨k + 1, by omega, by go_num, _, rfl⟩
      case measure => simp [intOf]; omega
    · have hkn : k = n := by omega
      subst hkn
      go_wp2
      go_ret
      exact ⟨rfl, q, rfl⟩

/-- The same, said for the laws. -/
theorem likeM (a : Option Addr) (n cap : Nat) (R : List (List Int)) (a' : Option Addr) (n' cap' : Nat) (w : World) (h : Mat w a n R) (h' : Mat w a' n' R) :
    Calls Try.prog 35 #[.slice a n cap, .slice a' n' cap'] w fun e w' => e = .returned (.bool true) ∧ Below w.heap.size w w' := by
  refine (likeIntss _ _ _ _ _ _ _ _ _ h h' rfl).mono ?_
  rintro e w' ⟨rfl, q, rfl⟩
  exact ⟨rfl, b_draws _ _⟩
theorem likeV (a : Option Addr) (n cap : Nat) (l : List Int) (a' : Option Addr) (n' cap' : Nat) (w : World) (h : Ints .i64 w a n l) (h' : Ints .i64 w a' n' l) :
    Calls Try.prog 36 #[.slice a n cap, .slice a' n' cap'] w fun e w' => e = .returned (.bool true) ∧ Below w.heap.size w w' := by
  refine (likeInts _ _ _ _ _ _ _ _ _ h h' rfl).mono ?_
  rintro e w' ⟨rfl, q, rfl⟩
  exact ⟨rfl, b_draws _ _⟩
set_option maxRecDepth 100000 in
set_option maxHeartbeats 400000 in
theorem big (a : Option Addr) (n cap : Nat) (w : World) (h : n ≤ maxLen) :
    Calls Try.prog 27 #[.slice a n cap] w fun e w' => e = .returned (.bool (decide (4096 < n))) ∧ w = w' := by
  unfold maxLen at h
  go_enter Try.func27, Try.ntmps27
  go_wp2
  go_ret
  exact ⟨retB (decide_eq_decide.2 (by omega)), rfl⟩
end Go.Proofs.Ytjljplolonpldaa.V

namespace Go.Proofs.Ytjljplolonpldaa.V
open Go.RowKit

set_option maxRecDepth 100000 in
set_option maxHeartbeats 1000000 in
theorem addMatrices (a : Option Addr) (n cap : Nat) (R : List (List Int)) (a' : Option Addr) (n' cap' : Nat) (R' : List (List Int)) (w : World) (h : Mat w a n R) (h' : Mat w a' n' R') :
    Calls Try.prog 50 #[.slice a n cap, .slice a' n' cap'] w (MRes (M.addRes R R') w) := by
  by_cases hR : M.isMat R = true
  · by_cases hR' : M.isMat R' = true
    · by_cases hl : n = n'
      · by_cases hw : M.wid R = M.wid R'
        · have e : M.addRes R R' = (M.addM R R', 0) := by
            unfold M.addRes; rw [hR, hR', if_pos (by rfl), if_pos ⟨by rw [h.1, h'.1, hl], hw⟩]
          rw [e]
          exact addMatrices_ok _ _ _ _ _ _ _ _ _ h h' hR hR' hl hw
        · have HE : Hid (M.addRes R R' = ([], 5)) := by
            show _ = _; unfold M.addRes; rw [hR, hR', if_pos (by rfl), if_neg (fun hh => hw hh.2)]
          subst hl
          have HA := Lib.hid h
          have HA' := Lib.hid h'
          have m1 := (M.isMat_t hR).1
          rw [h.1] at m1
          obtain ⟨b, off, ra, L, rc, rfl, hL, hc⟩ := h.first (by omega)
          obtain ⟨b', off', ra', L', rc', rfl, hL', hc'⟩ := h'.first (by omega)
          have hne : (L == L') = false := by rw [hL, hL']; simpa using hw
          have hne2 : (L != L') = true := by rw [hL, hL']; simpa using hw
          have HR := Lib.hid hR
          have HR' := Lib.hid hR'
          clear h h' hR hR' hw hL hL'
          go_enter Try.func50, Try.ntmps50
          go_wp2_with fail
          refine (isMatrix_b _ _ _ R _ true HR.out HA.out).mono ?_
          rintro e w' ⟨rfl, rfl⟩
          go_wp2_with fail
          refine (isMatrix_b _ _ _ R' _ true HR'.out HA'.out).mono ?_
          rintro e w' ⟨rfl, rfl⟩
          go_wp2_with fail
          go_quiet (fail)
          go_wp2
          go_ret2
          exact MRes.nil HE.out (b_draws _ _)
      · have HE : Hid (M.addRes R R' = ([], 5)) := by
          show _ = _; unfold M.addRes; rw [hR, hR', if_pos (by rfl), if_neg (fun hh => hl (by rw [← h.1, ← h'.1, hh.1]))]
        have HA := Lib.hid h
        have HA' := Lib.hid h'
        have HR := Lib.hid hR
        have HR' := Lib.hid hR'
        have hne : (n == n') = false := by simpa using hl
        have hne2 : (n != n') = true := by simpa using hl
        have hne3 : ((n : Int) != (n' : Int)) = true := by simp; omega
        clear h h' hR hR'
        go_enter Try.func50, Try.ntmps50
        go_wp2_with fail
        refine (isMatrix_b _ _ _ R _ true HR.out HA.out).mono ?_
        rintro e w' ⟨rfl, rfl⟩
        go_wp2_with fail
        refine (isMatrix_b _ _ _ R' _ true HR'.out HA'.out).mono ?_
        rintro e w' ⟨rfl, rfl⟩
        go_wp2_with fail
        go_quiet (fail)
        go_wp2
        go_ret2
        exact MRes.nil HE.out (b_draws _ _)
    · simp only [Bool.not_eq_true] at hR'
      have HE : Hid (M.addRes R R' = ([], 1)) := by
        show _ = _; unfold M.addRes; rw [hR, hR', if_neg (by simp)]
      have HA := Lib.hid h
      have HA' := Lib.hid h'
      have HR := Lib.hid hR
      have HR' := Lib.hid hR'
      clear h h' hR hR'
      go_enter Try.func50, Try.ntmps50
      go_wp2_with fail
      refine (isMatrix_b _ _ _ R _ true HR.out HA.out).mono ?_
      rintro e w' ⟨rfl, rfl⟩
      go_wp2_with fail
      refine (isMatrix_b _ _ _ R' _ false HR'.out HA'.out).mono ?_
      rintro e w' ⟨rfl, rfl⟩
      go_wp2
      go_ret2
      exact MRes.nil HE.out (Below.refl _ _)
  · simp only [Bool.not_eq_true] at hR
    have HE : Hid (M.addRes R R' = ([], 1)) := by
      show _ = _; unfold M.addRes; rw [hR, if_neg (by simp)]
    have HA := Lib.hid h
    have HR := Lib.hid hR
    clear h h' hR
    go_enter Try.func50, Try.ntmps50
    go_wp2_with fail
    refine (isMatrix_b _ _ _ R _ false HR.out HA.out).mono ?_
    rintro e w' ⟨rfl, rfl⟩
    go_wp2
    go_ret2
    exact MRes.nil HE.out (Below.refl _ _)
end Go.Proofs.Ytjljplolonpldaa.V
