/- Drawn vectors, and a drawn matrix with a vector. -/
import Derived.Test.YtichbgffpflldaaRows
import Derived.Test.YtichbgffpflldaaMath1
import Derived.Test.YtichbgffpflldaaList
import Derived.Test.YtichbgffpflldaaMatM
import Derived.Test.YtichbgffpflldaaHelp
import Derived.Test.YtichbgffpflldaaRows0
import Derived.Test.YtichbgffpflldaaOwn
import Derived.Test.YtichbgffpflldaaMat0
import Derived.WalkKit
import Derived.ProofKit
import Derived.WalkSmall
import Derived.Deep.QuietTactic
import Derived.BigQuiet
import Derived.BigRegion
import Derived.Deep.Draws
import Derived.Lib.Hide
import Derived.OpenShut
import Derived.Deep.OwnRows
import Derived.Test.YtichbgffpflldaaVals0
import Derived.Test.YtichbgffpflldaaApp
import Derived.Test.YtichbgffpflldaaSBot
import Derived.Test.YtichbgffpflldaaDraw1
import Derived.Test.YtichbgffpflldaaDraw2
import Derived.Deep.RegionHeld3
import Derived.Test.YtichbgffpflldaaDrawM
import Derived.Test.YtichbgffpflldaaDrawM2
import Derived.Test.YtichbgffpflldaaIsMat
import Derived.Test.YtichbgffpflldaaApp
namespace Go.Proofs.Ytichbgffpflldaa.V
open Go.RowKit

theorem Thr.then {g : Nat} {w wx w' : World} (h : Thr g w wx) (hb : Below w.heap.size wx w') (hg : g ≤ w.heap.size) : Thr g w w' :=
  ⟨h.below.trans (hb.mono hg), fun k h1 h2 => (hb.block k h2).trans (h.other k h1 h2)⟩
theorem Src.then {g : Nat} {wx w' : World} {B : Nat} (h : Src wx g) (hb : Below B wx w') (hg : g < B) : Src w' g := h.below (hb.mono hg)

/-- A list that is being drawn. -/
def DL (g B : Nat) (v : Value) (l : List Int) (w0 w : World) : Prop := Own w B v l ∧ Src w g ∧ Thr g w0 w
theorem DL.next {g B : Nat} {v : Value} {l : List Int} {w0 w w' : World} (h : DL g B v l w0 w) (hB : g < B) (hs : Src w' g) (ht : Thr g w w') : DL g B v l w0 w' :=
  ⟨h.1.thr ht hB, hs, h.2.2.trans ht⟩
theorem DL.app {g : Nat} {v v' : Value} {l l' : List Int} {w0 w w' : World} (h : DL g w0.heap.size v l w0 w) (hg : g < w0.heap.size) (ho : Own w' w0.heap.size v' l') (hb : Below w0.heap.size w w') : DL g w0.heap.size v' l' w0 w' :=
  ⟨ho, h.2.1.then hb hg, h.2.2.then hb (Nat.le_of_lt hg)⟩

/-- A drawn vector: some list of integers, in new memory. -/
def DrawV (g : Nat) (w : World) (e : Ending) (w' : World) : Prop :=
  ∃ (a : Option Addr) (n cap : Nat) (l : List Int), e = .returned (.slice a n cap) ∧ Own w' w.heap.size (.slice a n cap) l ∧ Src w' g ∧ Thr g w w'

set_option maxRecDepth 100000 in
set_option maxHeartbeats 4000000 in
theorem drawVector (g n : Nat) (w : World) (h : Src w g) (n2 : n ≤ 1000) :
    Calls Try.prog 79 #[.pointer (some ⟨g, 0, none⟩), .int .i64 n] w (DrawV g w) := by
  have hgs := h.lt
  have HJ0 : Hid (DL g w.heap.size (.slice (some ⟨w.heap.size, 0, none⟩) 0 0) [] w (w.alloc (.cells #[] 2))) :=
    ⟨own_lit0 w _ (Nat.le_refl _), h.alloc _, (Thr.refl _ _).alloc (Nat.le_of_lt hgs) _⟩
  clear h
  go_enter Try.func79, Try.ntmps79
  go_wp2
  go_loopw [1, 5] (fun i out wr => ∃ (j t : Nat) (l : List Int) (b : Option Addr) (c : Nat), j + t ≤ n ∧ i = .int .i64 j ∧ out = .slice b t c ∧ Hid (DL g w.heap.size (.slice b t c) l w wr)) (fun i _ _ => (intOf i).toNat)
  case atStart => exact ⟨n, 0, [], _, _, by omega, rfl, rfl, HJ0⟩
  case round =>
    obtain ⟨j, t, l, b, c, hjt, rfl, rfl, HJ⟩ := hrel
    clear HJ0
    have hj1000 : j ≤ 1000 := by omega
    have ht1000 : t ≤ 1000 := by omega
    by_cases hj : 0 < j
    · have hji : (0 : Int) < (j : Int) := by omega
      go_wp2_with fail
      refine (next g 31 _ (by decide) HJ.out.2.1).mono ?_
      rintro e w1 ⟨x, rfl, hx1, hx2, hs1, ht1⟩
      have hx3 : x < 31 := by omega
      have HJ1 := Lib.hid (HJ.out.next hgs hs1 ht1)
      have hz1 : w.heap.size ≤ w1.heap.size := HJ1.out.2.2.below.size
      have hlen := HJ1.out.1.len
      have HLn := Lib.hid hlen
      clear hs1 ht1 hx2 HJ hlen
      go_wp2_with (at_builtin; refine append1 _ rfl (.tmp 11) (.tmp 15) rfl w.heap.size _ _ _ t HJ1.out.1.len.symm rfl HJ1.out.1 rfl (by rw [← HLn.out]; omega) hz1 ?_)
      intro b2 c2 w2 hO2 hb2 _
      have HJ2 := Lib.hid (HJ1.out.app hgs hO2 hb2)
      clear hO2 hb2 HJ1
      go_wp2_with fail
      refine (next g 8 _ (by decide) HJ2.out.2.1).mono ?_
      rintro e w3 ⟨y, rfl, hy1, -, hs3, ht3⟩
      have HJ3 := Lib.hid (HJ2.out.next hgs hs3 ht3)
      clear hs3 ht3 HJ2
      by_cases hy : y = 0
      · subst hy
        obtain ⟨b3, c3, hv3, -, -, hg3⟩ := own_form HJ3.out.1
        injection hv3 with e1 e2 e3
        subst e1 e3
        rw [← e2] at hg3
        obtain ⟨q, rfl, hq, -⟩ := hg3 (by omega)
        have hcl := HJ3.out.1.cellAt t (by omega)
        have hfz := HJ3.out.1.frozenAt t
        have hN := HJ3.out.1.set t (-1000000000000000)
        have HJ4 := Lib.hid (HJ3.out.app hgs hN ((Below.refl _ _).setCell (p := ⟨q, t, none⟩) hq _))
        obtain ⟨x5, hx5⟩ : ∃ x5, x5 = (l ++ [x - 15]).getD t 0 := ⟨_, rfl⟩
        rw [← hx5] at hcl
        clear hN e2 hx5
        go_wp2
        go_roundw
        case rel => exact ⟨j - 1, t + 1, _, _, _, by omega, by go_num, rfl, HJ4⟩
        case measure => simp [intOf]; omega
      · have ey : (y == 0) = false := by simpa using hy
        go_wp2
        go_roundw
        case rel => exact ⟨j - 1, t + 1, _, _, _, by omega, by go_num, rfl, HJ3⟩
        case measure => simp [intOf]; omega
    · obtain rfl : j = 0 := by omega
      go_wp2_with fail
      refine (next g 60 _ (by decide) HJ.out.2.1).mono ?_
      rintro e w1 ⟨x, rfl, hx1, -, hs1, ht1⟩
      have HJ1 := Lib.hid (HJ.out.next hgs hs1 ht1)
      clear hs1 ht1 HJ
      by_cases hx0 : x = 0
      · subst hx0
        go_wp2_with fail
        refine (drawValue g _ HJ1.out.2.1).mono ?_
        rintro e w2 ⟨z, rfl, hz, hs2, ht2⟩
        have HJ2 := Lib.hid (HJ1.out.next hgs hs2 ht2)
        have hz1 : w.heap.size ≤ w2.heap.size := HJ2.out.2.2.below.size
        have hlen := HJ2.out.1.len
        have HLn := Lib.hid hlen
        clear hs2 ht2 HJ1 hlen
        go_wp2_with (at_builtin; refine append1 _ rfl (.tmp 29) (.tmp 32) rfl w.heap.size _ _ _ t HJ2.out.1.len.symm rfl HJ2.out.1 rfl (by rw [← HLn.out]; omega) hz1 ?_)
        intro b2 c2 w3 hO2 hb2 _
        have HJ3 := Lib.hid (HJ2.out.app hgs hO2 hb2)
        clear hO2 hb2 HJ2
        go_wp2
        go_ret
        exact ⟨_, _, _, _, rfl, HJ3.out.1, HJ3.out.2.1, HJ3.out.2.2⟩
      · have e0 : (x == 0) = false := by simpa using hx0
        by_cases hx1' : x = 1
        · subst hx1'
          go_wp2
          go_ret
          exact ⟨_, _, _, [], rfl, own_nil _ _, HJ1.out.2.1, HJ1.out.2.2⟩
        · have e1 : (x == 1) = false := by simpa using hx1'
          go_wp2
          go_ret
          exact ⟨_, _, _, _, rfl, HJ1.out.1, HJ1.out.2.1, HJ1.out.2.2⟩

/-- A drawn matrix and a drawn vector, as a law is handed them. -/
def DrawnMV (w : World) (e : Ending) (w' : World) : Prop :=
  ∃ (a : Option Addr) (n cap : Nat) (R : List (List Int)) (a' : Option Addr) (n' cap' : Nat) (l : List Int), e = .returned (.tuple #[.slice a n cap, .slice a' n' cap']) ∧ Mat w' a n R ∧ Ints .i64 w' a' n' l ∧ Below w.heap.size w w'

set_option maxRecDepth 100000 in
set_option maxHeartbeats 4000000 in
theorem drawTimesVector (a : Option Addr) (n cap : Nat) (w : World) (h : Bytes w a n) :
    Calls Try.prog 32 #[.slice a n cap] w (DrawnMV w) := by
  have HB := Lib.hid h
  clear h
  go_enter Try.func32, Try.ntmps32
  go_wp2_with fail
  refine (from_ _ _ _ _ HB.out).mono ?_
  rintro e w1 ⟨rfl, hs1, hb1⟩
  have HS1 := Lib.hid hs1
  have HB1 := Lib.hid hb1
  have hg1 := hs1.lt
  clear hs1 hb1
  go_wp2_with fail
  refine (draw _ _ HS1.out).mono ?_
  rintro e w2 ⟨a2, n2, c2, R, rfl, ho, hs2, ht2⟩
  have HO2 := Lib.hid ho
  have HS2 := Lib.hid hs2
  have HB2 := Lib.hid (HB1.out.trans ht2.below)
  clear ho hs2 ht2
  go_wp2_with fail
  refine (next _ 5 _ (by decide) HS2.out).mono ?_
  rintro e w3 ⟨x, rfl, hx1, hx2, hs3, ht3⟩
  obtain ⟨x, rfl⟩ := Int.eq_ofNat_of_zero_le hx1
  have hx3 : x < 5 := by omega
  have HO3 := Lib.hid (HO2.out.thr ht3 hg1)
  have HS3 := Lib.hid hs3
  have HB3 := Lib.hid (HB2.out.trans ht3.below)
  have e1 : (1 : Int) + (x : Int) = ((1 + x : Nat) : Int) := by omega
  have E1 := Lib.hid e1
  clear e1 hs3 ht3 hx2 hx1 HO2 HS2 HB2
  by_cases hR : M.isMat R = true
  · have HR := Lib.hid hR
    obtain ⟨m1, m2, c1, c2', -, -⟩ := M.isMat_t hR
    have HL := Lib.hid HO3.out.len
    clear hR
    go_wp2_with fail
    refine (sIsMatrixB_b _ _ _ R _ true HR.out HO3.out.mat).mono ?_
    rintro e w4 ⟨rfl, hb4⟩
    have hg3 := HS3.out.lt
    have HO4 := Lib.hid (HO3.out.below hb4)
    have HS4 := Lib.hid (HS3.out.below (hb4.mono hg3))
    have HB4 := Lib.hid (bnext HB3.out hb4)
    clear hb4 HO3 HS3
    go_wp2_with fail
    refine (next _ 8 _ (by decide) HS4.out).mono ?_
    rintro e w5 ⟨y, rfl, hy1, -, hs5, ht5⟩
    have HO5 := Lib.hid (HO4.out.thr ht5 hg1)
    have HS5 := Lib.hid hs5
    have HB5 := Lib.hid (HB4.out.trans ht5.below)
    clear hs5 ht5 HO4 HS4
    have hgo : ∀ (k : Nat), k ≤ 1000 → Calls Try.prog 79 #[.pointer (some ⟨w.heap.size, 0, none⟩), .int .i64 k] w5 (DrawV w.heap.size w5) := fun k hk => drawVector _ k _ HS5.out hk
    have HG := Lib.hid hgo
    clear hgo
    by_cases hy : 0 < y
    · have hn2 : 1 ≤ n2 := by have := HL.out; omega
      obtain ⟨b, off, ra, L, rc, rfl, hL, hc⟩ := HO5.out.mat.first (by omega)
      have hL2 : L ≤ 1000 := by rw [hL]; omega
      clear hL
      go_wp2_with fail
      refine (HG.out L hL2).mono ?_
      rintro e w6 ⟨a6, n6, c6, l, rfl, ho6, hs6, ht6⟩
      have HI := Lib.hid ho6.ints'
      have HM := Lib.hid (HO5.out.thr ht6 hg1).mat
      have HB6 := Lib.hid (HB5.out.trans ht6.below)
      clear ho6 hs6 ht6
      go_wp2
      go_ret2
      exact ⟨_, _, _, R, _, _, _, l, rfl, HM.out, HI.out, HB6.out⟩
    · go_wp2_with fail
      rw [E1.out]
      refine (HG.out (1 + x) (by omega)).mono ?_
      rintro e w6 ⟨a6, n6, c6, l, rfl, ho6, hs6, ht6⟩
      have HI := Lib.hid ho6.ints'
      have HM := Lib.hid (HO5.out.thr ht6 hg1).mat
      have HB6 := Lib.hid (HB5.out.trans ht6.below)
      clear ho6 hs6 ht6
      go_wp2
      go_ret2
      exact ⟨_, _, _, R, _, _, _, l, rfl, HM.out, HI.out, HB6.out⟩
  · simp only [Bool.not_eq_true] at hR
    have HR := Lib.hid hR
    clear hR
    go_wp2_with fail
    refine (sIsMatrixB_b _ _ _ R _ false HR.out HO3.out.mat).mono ?_
    rintro e w4 ⟨rfl, hb4⟩
    have hg3 := HS3.out.lt
    have HO4 := Lib.hid (HO3.out.below hb4)
    have HS4 := Lib.hid (HS3.out.below (hb4.mono hg3))
    have HB4 := Lib.hid (bnext HB3.out hb4)
    clear hb4 HO3 HS3
    have hgo : Calls Try.prog 79 #[.pointer (some ⟨w.heap.size, 0, none⟩), .int .i64 (1 + x : Nat)] w4 (DrawV w.heap.size w4) := drawVector _ (1 + x) _ HS4.out (by omega)
    have HG := Lib.hid hgo
    clear hgo
    go_wp2_with fail
    rw [E1.out]
    refine (HG.out).mono ?_
    rintro e w6 ⟨a6, n6, c6, l, rfl, ho6, hs6, ht6⟩
    have HI := Lib.hid ho6.ints'
    have HM := Lib.hid (HO4.out.thr ht6 hg1).mat
    have HB6 := Lib.hid (HB4.out.trans ht6.below)
    clear ho6 hs6 ht6
    go_wp2
    go_ret2
    exact ⟨_, _, _, R, _, _, _, l, rfl, HM.out, HI.out, HB6.out⟩
end Go.Proofs.Ytichbgffpflldaa.V
