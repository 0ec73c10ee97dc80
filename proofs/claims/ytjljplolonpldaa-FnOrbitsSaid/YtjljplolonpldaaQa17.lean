/- Texts laid together: DrawM2, DrawPw, DrawV, Pth3. -/
import Derived.Test.YtjljplolonpldaaRows
import Derived.Test.YtjljplolonpldaaQa1
import Derived.Test.YtjljplolonpldaaQa2
import Derived.Test.YtjljplolonpldaaQa3
import Derived.WalkKit
import Derived.ProofKit
import Derived.WalkSmall
import Derived.Deep.QuietTactic
import Derived.BigQuiet
import Derived.BigRegion
import Derived.Deep.Draws
import Derived.Lib.Hide
import Derived.OpenShut
import Derived.Deep.OwnRows
import Derived.Test.YtjljplolonpldaaQa16
import Derived.Deep.RegionHeld3
import Derived.Test.YtjljplolonpldaaQa4
import Derived.Maps.AppendAt
import Derived.Deep.RegionWith
import Derived.IntWalk
import Derived.Test.YtjljplolonpldaaQa15
import Derived.Test.YtjljplolonpldaaQa9
import Derived.Test.YtjljplolonpldaaQa5
import Derived.Test.YtjljplolonpldaaQa8
set_option linter.unusedSimpArgs false
set_option linter.unusedVariables false
set_option linter.unusedSectionVars false
namespace Go.Proofs.Ytjljplolonpldaa.V
open Go.RowKit

set_option maxRecDepth 100000 in
set_option maxHeartbeats 1000000 in
theorem draw (g : Nat) (w : World) (h : Src w g) : Calls Try.prog 116 #[.pointer (some ⟨g, 0, none⟩)] w (DrawM g w) := by
  have HS := Lib.hid h
  have hgl := h.lt
  clear h
  go_enter Try.func116, Try.ntmps116
  go_wp2_with fail
  refine (next g 4 _ (by decide) HS.out).mono ?_
  rintro e w1 ⟨x, rfl, hx1, hx2, hs1, ht1⟩
  obtain ⟨x, rfl⟩ := Int.eq_ofNat_of_zero_le hx1
  have hx3 : x < 4 := by omega
  have HS1 := Lib.hid hs1
  have HT1 := Lib.hid ht1
  clear hs1 ht1 hx2 hx1
  go_wp2_with fail
  refine (next g 4 _ (by decide) HS1.out).mono ?_
  rintro e w2 ⟨y, rfl, hy1, hy2, hs2, ht2⟩
  obtain ⟨y, rfl⟩ := Int.eq_ofNat_of_zero_le hy1
  have hy3 : y < 4 := by omega
  have HS2 := Lib.hid hs2
  have HT2 := Lib.hid (HT1.out.trans ht2)
  clear hs2 ht2 hy2 hy1
  have e1 : (1 : Int) + (x : Int) = ((1 + x : Nat) : Int) := by omega
  have e2 : (1 : Int) + (y : Int) = ((1 + y : Nat) : Int) := by omega
  have E1 := Lib.hid e1
  have E2 := Lib.hid e2
  clear e1 e2
  go_wp2_with fail
  rw [E1.out, E2.out]
  refine (drawSize g (1 + x) (1 + y) _ HS2.out (by omega) (by omega) (by omega) (by omega)).mono ?_
  rintro e w3 ⟨a, n, cap, R, rfl, ho, hs3, ht3⟩
  have HO := Lib.hid (ho.mono HT2.out.below.size)
  have HS3 := Lib.hid hs3
  have HT3 := Lib.hid (HT2.out.trans ht3)
  clear ho hs3 ht3
  go_wp2
  go_ret
  exact ⟨a, n, cap, R, rfl, HO.out, HS3.out, HT3.out⟩

/-- A drawn matrix, as a law is handed it. -/
def DrawnM (w : World) (e : Ending) (w' : World) : Prop :=
  ∃ (a : Option Addr) (n cap : Nat) (R : List (List Int)), e = .returned (.slice a n cap) ∧ Mat w' a n R ∧ Below w.heap.size w w'

set_option maxRecDepth 100000 in
set_option maxHeartbeats 1000000 in
theorem drawTransposeMatrix (a : Option Addr) (n cap : Nat) (w : World) (h : Bytes w a n) :
    Calls Try.prog 64 #[.slice a n cap] w (DrawnM w) := by
  have HB := Lib.hid h
  clear h
  go_enter Try.func64, Try.ntmps64
  go_wp2_with fail
  refine (from_ _ _ _ _ HB.out).mono ?_
  rintro e w1 ⟨rfl, hs1, hb1⟩
  have HS1 := Lib.hid hs1
  have HB1 := Lib.hid hb1
  clear hs1 hb1
  go_wp2_with fail
  refine (draw _ _ HS1.out).mono ?_
  rintro e w2 ⟨a2, n2, c2, R, rfl, ho, hs2, ht2⟩
  have HO := Lib.hid ho.mat
  have HB2 := Lib.hid (HB1.out.trans ht2.below)
  clear ho hs2 ht2
  go_wp2
  go_ret
  exact ⟨a2, n2, c2, R, rfl, HO.out, HB2.out⟩
end Go.Proofs.Ytjljplolonpldaa.V

namespace Go.Proofs.Ytjljplolonpldaa.V
open Go.RowKit

/-- A matrix of one row that is not its own. -/
theorem mat_one' (w : World) (a : Option Addr) (n cap : Nat) (l : List Int) (h : Ints .i64 w a n l) : Mat (w.alloc (.cells #[.slice a n cap] 29)) (some ⟨w.heap.size, 0, none⟩) 1 [l] := by
  refine ⟨rfl, by decide, .inr ⟨_, _, rfl, by simp, fun i hi => ?_⟩⟩
  obtain rfl : i = 0 := by omega
  have hc := cell_one_new w (.slice a n cap) 29 0 _ rfl
  refine ⟨a, cap, ?_, ?_⟩
  · show _ = some (Value.slice a l.length cap)
    rw [h.1]; exact hc
  · show Ints _ _ _ l.length l
    rw [h.1]; exact h.below (b_alloc w _)

set_option maxRecDepth 100000 in
set_option maxHeartbeats 1000000 in
theorem drawSquareB (g : Nat) (w : World) (h : Src w g) : Calls Try.prog 122 #[.pointer (some ⟨g, 0, none⟩)] w (DrawMB g w) := by
  have HS := Lib.hid h
  have hgl := h.lt
  clear h
  go_enter Try.func122, Try.ntmps122
  go_wp2_with fail
  refine (next g 5 _ (by decide) HS.out).mono ?_
  rintro e w1 ⟨x, rfl, hx1, hx2, hs1, ht1⟩
  obtain ⟨x, rfl⟩ := Int.eq_ofNat_of_zero_le hx1
  have hx3 : x < 5 := by omega
  have HS1 := Lib.hid hs1
  have HT1 := Lib.hid ht1
  have e1 : (1 : Int) + (x : Int) = ((1 + x : Nat) : Int) := by omega
  have E1 := Lib.hid e1
  clear e1 hs1 ht1 hx2 hx1
  go_wp2_with fail
  rw [E1.out]
  refine (drawSizeB g (1 + x) (1 + x) _ HS1.out (by omega) (by omega) (by omega) (by omega)).mono ?_
  rintro e w3 ⟨a, n, cap, R, rfl, hn, ho, hs3, ht3⟩
  have HO := Lib.hid (ho.mono HT1.out.below.size)
  have HS3 := Lib.hid hs3
  have HT3 := Lib.hid (HT1.out.trans ht3)
  clear ho hs3 ht3
  go_wp2
  go_ret
  exact ⟨a, n, cap, R, rfl, hn, HO.out, HS3.out, HT3.out⟩
theorem drawSquare (g : Nat) (w : World) (h : Src w g) : Calls Try.prog 122 #[.pointer (some ⟨g, 0, none⟩)] w (DrawM g w) :=
  (drawSquareB g w h).mono fun _ _ h => h.less

/-- A drawn matrix and a drawn integer. -/
def DrawnMI (w : World) (e : Ending) (w' : World) : Prop :=
  ∃ (a : Option Addr) (n cap : Nat) (R : List (List Int)) (x : Int), e = .returned (.tuple #[.slice a n cap, .int .i64 x]) ∧ Mat w' a n R ∧ Below w.heap.size w w'

set_option maxRecDepth 100000 in
set_option maxHeartbeats 4000000 in
theorem drawPowerMatrix (a : Option Addr) (n cap : Nat) (w : World) (h : Bytes w a n) :
    Calls Try.prog 56 #[.slice a n cap] w (DrawnMI w) := by
  have HB := Lib.hid h
  clear h
  go_enter Try.func56, Try.ntmps56
  go_wp2_with fail
  refine (from_ _ _ _ _ HB.out).mono ?_
  rintro e w1 ⟨rfl, hs1, hb1⟩
  have HS1 := Lib.hid hs1
  have HB1 := Lib.hid hb1
  have hg1 := hs1.lt
  clear hs1 hb1
  go_wp2_with fail
  refine (drawSquare _ _ HS1.out).mono ?_
  rintro e w2 ⟨a2, n2, c2, R, rfl, ho, hs2, ht2⟩
  have HO2 := Lib.hid ho
  have HS2 := Lib.hid hs2
  have HB2 := Lib.hid (HB1.out.trans ht2.below)
  clear ho hs2 ht2
  go_wp2_with fail
  refine (next _ 16 _ (by decide) HS2.out).mono ?_
  rintro e w3 ⟨x, rfl, hx1, hx2, hs3, ht3⟩
  have HO3 := Lib.hid (HO2.out.thr ht3 hg1)
  have HS3 := Lib.hid hs3
  have HB3 := Lib.hid (HB2.out.trans ht3.below)
  have hg3 := hs3.lt
  clear hs3 ht3 hx2 HO2 HS2 HB2
  by_cases hx0 : x = 0
  · subst hx0
    go_wp2_with fail
    refine (pick _ _ 0 3 3 _ (HS3.out.alloc _) (by omega) (by omega) hg3 (litCells _ [-1, 100, 101] _ _ rfl (by decide))).mono ?_
    rintro e w4 ⟨y, rfl, hy, hs4, ht4⟩
    have HO4 := Lib.hid ((HO3.out.keep (w' := w3.alloc _) (fun k _ h2 => Below.heap_alloc _ _ _ h2)).thr ht4 hg1).mat
    have HB4 := Lib.hid ((HB3.out.alloc HB3.out.size _).trans ht4.below)
    clear hs4 ht4 hy
    go_wp2
    go_ret2
    exact ⟨_, _, _, R, _, rfl, HO4.out, HB4.out⟩
  · have e0 : (x == 0) = false := by simpa using hx0
    by_cases hx1' : x = 1
    · subst hx1'
      go_wp2_with fail
      refine (draw _ _ HS3.out).mono ?_
      rintro e w4 ⟨a4, n4, c4, R4, rfl, ho4, hs4, ht4⟩
      have HO4 := Lib.hid ho4
      have HS4 := Lib.hid hs4
      have HB4 := Lib.hid (HB3.out.trans ht4.below)
      clear ho4 hs4 ht4
      go_wp2_with fail
      refine (next _ 4 _ (by decide) HS4.out).mono ?_
      rintro e w5 ⟨y, rfl, hy1, hy2, hs5, ht5⟩
      have HO5 := Lib.hid (HO4.out.thr ht5 hg3).mat
      have HB5 := Lib.hid (HB4.out.trans ht5.below)
      clear hs5 ht5 hy2
      go_wp2
      go_ret2
      exact ⟨_, _, _, R4, _, rfl, HO5.out, HB5.out⟩
    · have e1 : (x == 1) = false := by simpa using hx1'
      by_cases hx2' : x = 2
      · subst hx2'
        go_wp2_with fail
        refine (pick _ _ 0 2 2 _ (HS3.out.alloc _) (by omega) (by omega) hg3 (litCells _ [10000, 10001] _ _ rfl (by decide))).mono ?_
        rintro e w4 ⟨y, rfl, hy, hs4, ht4⟩
        have HB4 := Lib.hid ((HB3.out.alloc HB3.out.size _).trans ht4.below)
        have hz4 := HB4.out.size
        clear hs4 ht4 hy
        have hOy : Own (w4.alloc (.cells #[.int .i64 y] 2)) w4.heap.size (.slice (some ⟨w4.heap.size, 0, none⟩) 1 1) [y] := World.ownsRow_lit w4 #[.int .i64 y] 1 (Nat.le_refl _) (by decide) rfl
        have hI := hOy.ints'
        have hM := mat_one' _ _ _ 1 _ hI
        rw [show (w4.alloc (.cells #[.int .i64 y] 2)).heap.size = w4.heap.size + 1 by simp] at hM
        have HM := Lib.hid hM
        have HB5 := Lib.hid ((HB4.out.alloc hz4 (.cells #[.int .i64 y] 2)).alloc (by simp; omega) (.cells #[.slice (some ⟨w4.heap.size, 0, none⟩) 1 1] 29))
        clear hI hM hOy
        go_wp2
        go_ret2
        exact ⟨_, _, _, _, _, rfl, HM.out, HB5.out⟩
      · have e2 : (x == 2) = false := by simpa using hx2'
        go_wp2_with fail
        refine (next _ 9 _ (by decide) HS3.out).mono ?_
        rintro e w5 ⟨y, rfl, hy1, hy2, hs5, ht5⟩
        have HO5 := Lib.hid (HO3.out.thr ht5 hg1).mat
        have HB5 := Lib.hid (HB3.out.trans ht5.below)
        clear hs5 ht5 hy2
        go_wp2
        go_ret2
        exact ⟨_, _, _, R, _, rfl, HO5.out, HB5.out⟩

/-- A drawn integer; two of them. -/
def DrawnI (w : World) (e : Ending) (w' : World) : Prop := ∃ x : Int, e = .returned (.int .i64 x) ∧ Below w.heap.size w w'
def DrawnII (w : World) (e : Ending) (w' : World) : Prop := ∃ x y : Int, e = .returned (.tuple #[.int .i64 x, .int .i64 y]) ∧ Below w.heap.size w w'

set_option maxRecDepth 100000 in
set_option maxHeartbeats 1000000 in
theorem drawUnitMatrix (a : Option Addr) (n cap : Nat) (w : World) (h : Bytes w a n) :
    Calls Try.prog 58 #[.slice a n cap] w (DrawnI w) := by
  have HB := Lib.hid h
  clear h
  go_enter Try.func58, Try.ntmps58
  go_wp2_with fail
  refine (from_ _ _ _ _ HB.out).mono ?_
  rintro e w1 ⟨rfl, hs1, hb1⟩
  have HS1 := Lib.hid hs1
  have HB1 := Lib.hid hb1
  clear hs1 hb1
  go_wp2_with fail
  refine (next _ 13 _ (by decide) HS1.out).mono ?_
  rintro e w2 ⟨x, rfl, hx1, hx2, hs2, ht2⟩
  have HB2 := Lib.hid (HB1.out.trans ht2.below)
  clear hs2 ht2 hx2
  go_wp2
  go_ret
  exact ⟨_, rfl, HB2.out⟩

set_option maxRecDepth 100000 in
set_option maxHeartbeats 1000000 in
theorem drawBottomMatrix (a : Option Addr) (n cap : Nat) (w : World) (h : Bytes w a n) :
    Calls Try.prog 61 #[.slice a n cap] w (DrawnII w) := by
  have HB := Lib.hid h
  clear h
  go_enter Try.func61, Try.ntmps61
  go_wp2_with fail
  refine (from_ _ _ _ _ HB.out).mono ?_
  rintro e w1 ⟨rfl, hs1, hb1⟩
  have HS1 := Lib.hid hs1
  have HB1 := Lib.hid hb1
  clear hs1 hb1
  go_wp2_with fail
  refine (next _ 13 _ (by decide) HS1.out).mono ?_
  rintro e w2 ⟨x, rfl, hx1, hx2, hs2, ht2⟩
  have HS2 := Lib.hid hs2
  have HB2 := Lib.hid (HB1.out.trans ht2.below)
  clear hs2 ht2 hx2
  go_wp2_with fail
  refine (next _ 13 _ (by decide) HS2.out).mono ?_
  rintro e w3 ⟨y, rfl, hy1, hy2, hs3, ht3⟩
  have HB3 := Lib.hid (HB2.out.trans ht3.below)
  clear hs3 ht3 hy2
  go_wp2
  go_ret2
  exact ⟨_, _, rfl, HB3.out⟩
end Go.Proofs.Ytjljplolonpldaa.V

namespace Go.Proofs.Ytjljplolonpldaa.V
open Go.RowKit

theorem Thr.then {g : Nat} {w wx w' : World} (h : Thr g w wx) (hb : Below w.heap.size wx w') (hg : g ≤ w.heap.size) : Thr g w w' :=
  ⟨h.below.trans (hb.mono hg), fun k h1 h2 => (hb.block k h2).trans (h.other k h1 h2)⟩
theorem Src.then {g : Nat} {wx w' : World} {B : Nat} (h : Src wx g) (hb : Below B wx w') (hg : g < B) : Src w' g := h.below (hb.mono hg)

/-- A list that is being drawn. -/
def DL (g B : Nat) (v : Value) (l : List Int) (w0 w : World) : Prop := Own w B v l ∧ Src w g ∧ Thr g w0 w
theorem DL.next {g B : Nat} {v : Value} {l : List Int} {w0 w w' : World} (h : DL g B v l w0 w) (hB : g < B) (hs : Src w' g) (ht : Thr g w w') : DL g B v l w0 w' :=
  ⟨h.1.thr ht hB, hs, h.2.2.trans ht⟩
theorem DL.app {g : Nat} {v v' : Value} {l l' : List Int} {w0 w w' : World} (h : DL g w0.heap.size v l w0 w) (hg : g < w0.heap.size) (ho : Own w' w0.heap.size v' l') (hb : Below w0.heap.size w w') : DL g w0.heap.size v' l' w0 w' :=
  ⟨ho, h.2.1.then hb hg, h.2.2.then hb (Nat.le_of_lt hg)⟩

/-- A drawn vector: some list of integers, in new memory. -/
def DrawV (g : Nat) (w : World) (e : Ending) (w' : World) : Prop :=
  ∃ (a : Option Addr) (n cap : Nat) (l : List Int), e = .returned (.slice a n cap) ∧ Own w' w.heap.size (.slice a n cap) l ∧ Src w' g ∧ Thr g w w'

set_option maxRecDepth 100000 in
set_option maxHeartbeats 4000000 in
theorem drawVector (g n : Nat) (w : World) (h : Src w g) (n2 : n ≤ 1000) :
    Calls Try.prog 102 #[.pointer (some ⟨g, 0, none⟩), .int .i64 n] w (DrawV g w) := by
  have hgs := h.lt
  have HJ0 : Hid (DL g w.heap.size (.slice (some ⟨w.heap.size, 0, none⟩) 0 0) [] w (w.alloc (.cells #[] 2))) :=
    ⟨own_lit0 w _ (Nat.le_refl _), h.alloc _, (Thr.refl _ _).alloc (Nat.le_of_lt hgs) _⟩
  clear h
  go_enter Try.func102, Try.ntmps102
  go_wp2
  go_loopw [1, 5] (fun i out wr => ∃ (j t : Nat) (l : List Int) (b : Option Addr) (c : Nat), j + t ≤ n ∧ i = .int .i64 j ∧ out = .slice b t c ∧ Hid (DL g w.heap.size (.slice b t c) l w wr)) (fun i _ _ => (intOf i).toNat)
  case atStart => exact ⟨n, 0, [], _, _, by omega, rfl, rfl, HJ0⟩
  case round =>
    obtain ⟨j, t, l, b, c, hjt, rfl, rfl, HJ⟩ := hrel
    clear HJ0
    have hj1000 : j ≤ 1000 := by omega
    have ht1000 : t ≤ 1000 := by omega
    by_cases hj : 0 < j
    · have hji : (0 : Int) < (j : Int) := by omega
      go_wp2_with fail
      refine (next g 31 _ (by decide) HJ.out.2.1).mono ?_
      rintro e w1 ⟨x, rfl, hx1, hx2, hs1, ht1⟩
      have hx3 : x < 31 := by omega
      have HJ1 := Lib.hid (HJ.out.next hgs hs1 ht1)
      have hz1 : w.heap.size ≤ w1.heap.size := HJ1.out.2.2.below.size
      have hlen := HJ1.out.1.len
      have HLn := Lib.hid hlen
      clear hs1 ht1 hx2 HJ hlen
      go_wp2_with (at_builtin; refine append1 _ rfl (.tmp 11) (.tmp 15) rfl w.heap.size _ _ _ t HJ1.out.1.len.symm rfl HJ1.out.1 rfl (by rw [← HLn.out]; omega) hz1 ?_)
      intro b2 c2 w2 hO2 hb2 _
      have HJ2 := Lib.hid (HJ1.out.app hgs hO2 hb2)
      clear hO2 hb2 HJ1
      go_wp2_with fail
      refine (next g 8 _ (by decide) HJ2.out.2.1).mono ?_
      rintro e w3 ⟨y, rfl, hy1, -, hs3, ht3⟩
      have HJ3 := Lib.hid (HJ2.out.next hgs hs3 ht3)
      clear hs3 ht3 HJ2
      by_cases hy : y = 0
      · subst hy
        obtain ⟨b3, c3, hv3, -, -, hg3⟩ := own_form HJ3.out.1
        injection hv3 with e1 e2 e3
        subst e1 e3
        rw [← e2] at hg3
        obtain ⟨q, rfl, hq, -⟩ := hg3 (by omega)
        have hcl := HJ3.out.1.cellAt t (by omega)
        have hfz := HJ3.out.1.frozenAt t
        have hN := HJ3.out.1.set t (-1000000000000000)
        have HJ4 := Lib.hid (HJ3.out.app hgs hN ((Below.refl _ _).setCell (p := ⟨q, t, none⟩) hq _))
        obtain ⟨x5, hx5⟩ : ∃ x5, x5 = (l ++ [x - 15]).getD t 0 := ⟨_, rfl⟩
        rw [← hx5] at hcl
        clear hN e2 hx5
        go_wp2
        go_roundw
        case rel => exact ⟨j - 1, t + 1, _, _, _, by omega, by go_num, rfl, HJ4⟩
        case measure => simp [intOf]; omega
      · have ey : (y == 0) = false := by simpa using hy
        go_wp2
        go_roundw
        case rel => exact ⟨j - 1, t + 1, _, _, _, by omega, by go_num, rfl, HJ3⟩
        case measure => simp [intOf]; omega
    · obtain rfl : j = 0 := by omega
      go_wp2_with fail
      refine (next g 60 _ (by decide) HJ.out.2.1).mono ?_
      rintro e w1 ⟨x, rfl, hx1, -, hs1, ht1⟩
      have HJ1 := Lib.hid (HJ.out.next hgs hs1 ht1)
      clear hs1 ht1 HJ
      by_cases hx0 : x = 0
      · subst hx0
        go_wp2_with fail
        refine (drawValue g _ HJ1.out.2.1).mono ?_
        rintro e w2 ⟨z, rfl, hz, hs2, ht2⟩
        have HJ2 := Lib.hid (HJ1.out.next hgs hs2 ht2)
        have hz1 : w.heap.size ≤ w2.heap.size := HJ2.out.2.2.below.size
        have hlen := HJ2.out.1.len
        have HLn := Lib.hid hlen
        clear hs2 ht2 HJ1 hlen
        go_wp2_with (at_builtin; refine append1 _ rfl (.tmp 29) (.tmp 32) rfl w.heap.size _ _ _ t HJ2.out.1.len.symm rfl HJ2.out.1 rfl (by rw [← HLn.out]; omega) hz1 ?_)
        intro b2 c2 w3 hO2 hb2 _
        have HJ3 := Lib.hid (HJ2.out.app hgs hO2 hb2)
        clear hO2 hb2 HJ2
        go_wp2
        go_ret
        exact ⟨_, _, _, _, rfl, HJ3.out.1, HJ3.out.2.1, HJ3.out.2.2⟩
      · have e0 : (x == 0) = false := by simpa using hx0
        by_cases hx1' : x = 1
        · subst hx1'
          go_wp2
          go_ret
          exact ⟨_, _, _, [], rfl, own_nil _ _, HJ1.out.2.1, HJ1.out.2.2⟩
        · have e1 : (x == 1) = false := by simpa using hx1'
          go_wp2
          go_ret
          exact ⟨_, _, _, _, rfl, HJ1.out.1, HJ1.out.2.1, HJ1.out.2.2⟩

/-- A drawn matrix and a drawn vector, as a law is handed them. -/
def DrawnMV (w : World) (e : Ending) (w' : World) : Prop :=
  ∃ (a : Option Addr) (n cap : Nat) (R : List (List Int)) (a' : Option Addr) (n' cap' : Nat) (l : List Int), e = .returned (.tuple #[.slice a n cap, .slice a' n' cap']) ∧ Mat w' a n R ∧ Ints .i64 w' a' n' l ∧ Below w.heap.size w w'

set_option maxRecDepth 100000 in
set_option maxHeartbeats 4000000 in
theorem drawTimesVector (a : Option Addr) (n cap : Nat) (w : World) (h : Bytes w a n) :
    Calls Try.prog 67 #[.slice a n cap] w (DrawnMV w) := by
  have HB := Lib.hid h
  clear h
  go_enter Try.func67, Try.ntmps67
  go_wp2_with fail
  refine (from_ _ _ _ _ HB.out).mono ?_
  rintro e w1 ⟨rfl, hs1, hb1⟩
  have HS1 := Lib.hid hs1
  have HB1 := Lib.hid hb1
  have hg1 := hs1.lt
  clear hs1 hb1
  go_wp2_with fail
  refine (draw _ _ HS1.out).mono ?_
  rintro e w2 ⟨a2, n2, c2, R, rfl, ho, hs2, ht2⟩
  have HO2 := Lib.hid ho
  have HS2 := Lib.hid hs2
  have HB2 := Lib.hid (HB1.out.trans ht2.below)
  clear ho hs2 ht2
  go_wp2_with fail
  refine (next _ 5 _ (by decide) HS2.out).mono ?_
  rintro e w3 ⟨x, rfl, hx1, hx2, hs3, ht3⟩
  obtain ⟨x, rfl⟩ := Int.eq_ofNat_of_zero_le hx1
  have hx3 : x < 5 := by omega
  have HO3 := Lib.hid (HO2.out.thr ht3 hg1)
  have HS3 := Lib.hid hs3
  have HB3 := Lib.hid (HB2.out.trans ht3.below)
  have e1 : (1 : Int) + (x : Int) = ((1 + x : Nat) : Int) := by omega
  have E1 := Lib.hid e1
  clear e1 hs3 ht3 hx2 hx1 HO2 HS2 HB2
  by_cases hR : M.isMat R = true
  · have HR := Lib.hid hR
    obtain ⟨m1, m2, c1, c2', -, -⟩ := M.isMat_t hR
    have HL := Lib.hid HO3.out.len
    clear hR
    go_wp2_with fail
    refine (sIsMatrixB_b _ _ _ R _ true HR.out HO3.out.mat).mono ?_
    rintro e w4 ⟨rfl, hb4⟩
    have hg3 := HS3.out.lt
    have HO4 := Lib.hid (HO3.out.below hb4)
    have HS4 := Lib.hid (HS3.out.below (hb4.mono hg3))
    have HB4 := Lib.hid (bnext HB3.out hb4)
    clear hb4 HO3 HS3
    go_wp2_with fail
    refine (next _ 8 _ (by decide) HS4.out).mono ?_
    rintro e w5 ⟨y, rfl, hy1, -, hs5, ht5⟩
    have HO5 := Lib.hid (HO4.out.thr ht5 hg1)
    have HS5 := Lib.hid hs5
    have HB5 := Lib.hid (HB4.out.trans ht5.below)
    clear hs5 ht5 HO4 HS4
    have hgo : ∀ (k : Nat), k ≤ 1000 → Calls Try.prog 102 #[.pointer (some ⟨w.heap.size, 0, none⟩), .int .i64 k] w5 (DrawV w.heap.size w5) := fun k hk => drawVector _ k _ HS5.out hk
    have HG := Lib.hid hgo
    clear hgo
    by_cases hy : 0 < y
    · have hn2 : 1 ≤ n2 := by have := HL.out; omega
      obtain ⟨b, off, ra, L, rc, rfl, hL, hc⟩ := HO5.out.mat.first (by omega)
      have hL2 : L ≤ 1000 := by rw [hL]; omega
      clear hL
      go_wp2_with fail
      refine (HG.out L hL2).mono ?_
      rintro e w6 ⟨a6, n6, c6, l, rfl, ho6, hs6, ht6⟩
      have HI := Lib.hid ho6.ints'
      have HM := Lib.hid (HO5.out.thr ht6 hg1).mat
      have HB6 := Lib.hid (HB5.out.trans ht6.below)
      clear ho6 hs6 ht6
      go_wp2
      go_ret2
      exact ⟨_, _, _, R, _, _, _, l, rfl, HM.out, HI.out, HB6.out⟩
    · go_wp2_with fail
      rw [E1.out]
      refine (HG.out (1 + x) (by omega)).mono ?_
      rintro e w6 ⟨a6, n6, c6, l, rfl, ho6, hs6, ht6⟩
      have HI := Lib.hid ho6.ints'
      have HM := Lib.hid (HO5.out.thr ht6 hg1).mat
      have HB6 := Lib.hid (HB5.out.trans ht6.below)
      clear ho6 hs6 ht6
      go_wp2
      go_ret2
      exact ⟨_, _, _, R, _, _, _, l, rfl, HM.out, HI.out, HB6.out⟩
  · simp only [Bool.not_eq_true] at hR
    have HR := Lib.hid hR
    clear hR
    go_wp2_with fail
    refine (sIsMatrixB_b _ _ _ R _ false HR.out HO3.out.mat).mono ?_
    rintro e w4 ⟨rfl, hb4⟩
    have hg3 := HS3.out.lt
    have HO4 := Lib.hid (HO3.out.below hb4)
    have HS4 := Lib.hid (HS3.out.below (hb4.mono hg3))
    have HB4 := Lib.hid (bnext HB3.out hb4)
    clear hb4 HO3 HS3
    have hgo : Calls Try.prog 102 #[.pointer (some ⟨w.heap.size, 0, none⟩), .int .i64 (1 + x : Nat)] w4 (DrawV w.heap.size w4) := drawVector _ (1 + x) _ HS4.out (by omega)
    have HG := Lib.hid hgo
    clear hgo
    go_wp2_with fail
    rw [E1.out]
    refine (HG.out).mono ?_
    rintro e w6 ⟨a6, n6, c6, l, rfl, ho6, hs6, ht6⟩
    have HI := Lib.hid ho6.ints'
    have HM := Lib.hid (HO4.out.thr ht6 hg1).mat
    have HB6 := Lib.hid (HB4.out.trans ht6.below)
    clear ho6 hs6 ht6
    go_wp2
    go_ret2
    exact ⟨_, _, _, R, _, _, _, l, rfl, HM.out, HI.out, HB6.out⟩
end Go.Proofs.Ytjljplolonpldaa.V

namespace Go.Proofs.Ytjljplolonpldaa.V
open Go.RowKit

theorem caps_own {w : World} {B n cap : Nat} {a : Option Addr} {l : List Int} (h : Own w B (.slice a n cap) l) : n ≤ cap ∧ cap ≤ maxLen := by
  obtain ⟨a', c', hv, h1, h2, _⟩ := own_form h
  injection hv with e1 e2 e3
  subst e2 e3
  exact ⟨h1, h2⟩
theorem has_snoc (l : List Int) (k : Nat) (h : k < l.length) (x : Int) : M.hasB (l.take (k + 1)) x = (M.hasB (l.take k) x || decide (x = l.getD k 0)) := by
  rw [M.take_snoc l k h, Bool.eq_iff_iff]
  simp [M.hasB, List.contains_iff_mem]


theorem ints_take {w : World} {a : Option Addr} {n : Nat} {l : List Int} (h : Ints .i64 w a n l) (k : Nat) (hk : k ≤ n) : Ints .i64 w a k (l.take k) := by
  obtain ⟨h1, h2, h3⟩ := h
  refine ⟨by rw [List.length_take]; omega, by omega, ?_⟩
  rcases h3 with h0 | ⟨b, off, rfl, hb, hc⟩
  · left; omega
  · right
    refine ⟨b, off, rfl, hb, fun i hi => ?_⟩
    rw [hc i (by omega)]
    simp [List.getD_eq_getElem?_getD, List.getElem?_take, hi]
end Go.Proofs.Ytjljplolonpldaa.V
