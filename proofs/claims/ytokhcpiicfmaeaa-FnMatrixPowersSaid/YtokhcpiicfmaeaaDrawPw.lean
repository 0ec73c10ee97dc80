/- Drawn arguments of powers, of the unit and of the matrix of Bottom. -/
import Derived.Test.YtokhcpiicfmaeaaRows
import Derived.Test.YtokhcpiicfmaeaaMath1
import Derived.Test.YtokhcpiicfmaeaaList
import Derived.Test.YtokhcpiicfmaeaaMatM
import Derived.Test.YtokhcpiicfmaeaaHelp
import Derived.Test.YtokhcpiicfmaeaaRows0
import Derived.Test.YtokhcpiicfmaeaaOwn
import Derived.Test.YtokhcpiicfmaeaaMat0
import Derived.WalkKit
import Derived.ProofKit
import Derived.WalkSmall
import Derived.Deep.QuietTactic
import Derived.BigQuiet
import Derived.BigRegion
import Derived.Deep.Draws
import Derived.Lib.Hide
import Derived.OpenShut
import Derived.Deep.OwnRows
import Derived.Test.YtokhcpiicfmaeaaVals0
import Derived.Test.YtokhcpiicfmaeaaApp
import Derived.Test.YtokhcpiicfmaeaaSBot
import Derived.Test.YtokhcpiicfmaeaaDraw1
import Derived.Test.YtokhcpiicfmaeaaDraw2
import Derived.Deep.RegionHeld3
import Derived.Test.YtokhcpiicfmaeaaDrawM
import Derived.Test.YtokhcpiicfmaeaaDrawM2
import Derived.Maps.AppendAt
namespace Go.Proofs.Ytokhcpiicfmaeaa.V
open Go.RowKit

/-- A matrix of one row that is not its own. -/
theorem mat_one' (w : World) (a : Option Addr) (n cap : Nat) (l : List Int) (h : Ints .i64 w a n l) : Mat (w.alloc (.cells #[.slice a n cap] 34)) (some ⟨w.heap.size, 0, none⟩) 1 [l] := by
  refine ⟨rfl, by decide, .inr ⟨_, _, rfl, by simp, fun i hi => ?_⟩⟩
  obtain rfl : i = 0 := by omega
  have hc := cell_one_new w (.slice a n cap) 34 0 _ rfl
  refine ⟨a, cap, ?_, ?_⟩
  · show _ = some (Value.slice a l.length cap)
    rw [h.1]; exact hc
  · show Ints _ _ _ l.length l
    rw [h.1]; exact h.below (b_alloc w _)

set_option maxHeartbeats 1000000 in
theorem drawSquare (g : Nat) (w : World) (h : Src w g) : Calls Try.prog 64 #[.pointer (some ⟨g, 0, none⟩)] w (DrawM g w) := by
  have HS := Lib.hid h
  have hgl := h.lt
  clear h
  go_enter Try.func64, Try.ntmps64
  go_wp2_with fail
  refine (next g 5 _ (by decide) HS.out).mono ?_
  rintro e w1 ⟨x, rfl, hx1, hx2, hs1, ht1⟩
  obtain ⟨x, rfl⟩ := Int.eq_ofNat_of_zero_le hx1
  have hx3 : x < 5 := by omega
  have HS1 := Lib.hid hs1
  have HT1 := Lib.hid ht1
  have e1 : (1 : Int) + (x : Int) = ((1 + x : Nat) : Int) := by omega
  have E1 := Lib.hid e1
  clear e1 hs1 ht1 hx2 hx1
  go_wp2_with fail
  rw [E1.out]
  refine (drawSize g (1 + x) (1 + x) _ HS1.out (by omega) (by omega) (by omega) (by omega)).mono ?_
  rintro e w3 ⟨a, n, cap, R, rfl, ho, hs3, ht3⟩
  have HO := Lib.hid (ho.mono HT1.out.below.size)
  have HS3 := Lib.hid hs3
  have HT3 := Lib.hid (HT1.out.trans ht3)
  clear ho hs3 ht3
  go_wp2
  go_ret
  exact ⟨a, n, cap, R, rfl, HO.out, HS3.out, HT3.out⟩

/-- A drawn matrix and a drawn integer. -/
def DrawnMI (w : World) (e : Ending) (w' : World) : Prop :=
  ∃ (a : Option Addr) (n cap : Nat) (R : List (List Int)) (x : Int), e = .returned (.tuple #[.slice a n cap, .int .i64 x]) ∧ Mat w' a n R ∧ Below w.heap.size w w'

set_option maxHeartbeats 4000000 in
theorem drawPowerMatrix (a : Option Addr) (n cap : Nat) (w : World) (h : Bytes w a n) :
    Calls Try.prog 29 #[.slice a n cap] w (DrawnMI w) := by
  have HB := Lib.hid h
  clear h
  go_enter Try.func29, Try.ntmps29
  go_wp2_with fail
  refine (from_ _ _ _ _ HB.out).mono ?_
  rintro e w1 ⟨rfl, hs1, hb1⟩
  have HS1 := Lib.hid hs1
  have HB1 := Lib.hid hb1
  have hg1 := hs1.lt
  clear hs1 hb1
  go_wp2_with fail
  refine (drawSquare _ _ HS1.out).mono ?_
  rintro e w2 ⟨a2, n2, c2, R, rfl, ho, hs2, ht2⟩
  have HO2 := Lib.hid ho
  have HS2 := Lib.hid hs2
  have HB2 := Lib.hid (HB1.out.trans ht2.below)
  clear ho hs2 ht2
  go_wp2_with fail
  refine (next _ 16 _ (by decide) HS2.out).mono ?_
  rintro e w3 ⟨x, rfl, hx1, hx2, hs3, ht3⟩
  have HO3 := Lib.hid (HO2.out.thr ht3 hg1)
  have HS3 := Lib.hid hs3
  have HB3 := Lib.hid (HB2.out.trans ht3.below)
  have hg3 := hs3.lt
  clear hs3 ht3 hx2 HO2 HS2 HB2
  by_cases hx0 : x = 0
  · subst hx0
    go_wp2_with fail
    refine (pick _ _ 0 3 3 _ (HS3.out.alloc _) (by omega) (by omega) hg3 (litCells _ [-1, 100, 101] _ _ rfl (by decide))).mono ?_
    rintro e w4 ⟨y, rfl, hy, hs4, ht4⟩
    have HO4 := Lib.hid ((HO3.out.keep (w' := w3.alloc _) (fun k _ h2 => Below.heap_alloc _ _ _ h2)).thr ht4 hg1).mat
    have HB4 := Lib.hid ((HB3.out.alloc HB3.out.size _).trans ht4.below)
    clear hs4 ht4 hy
    go_wp2
    go_ret2
    exact ⟨_, _, _, R, _, rfl, HO4.out, HB4.out⟩
  · have e0 : (x == 0) = false := by simpa using hx0
    by_cases hx1' : x = 1
    · subst hx1'
      go_wp2_with fail
      refine (draw _ _ HS3.out).mono ?_
      rintro e w4 ⟨a4, n4, c4, R4, rfl, ho4, hs4, ht4⟩
      have HO4 := Lib.hid ho4
      have HS4 := Lib.hid hs4
      have HB4 := Lib.hid (HB3.out.trans ht4.below)
      clear ho4 hs4 ht4
      go_wp2_with fail
      refine (next _ 4 _ (by decide) HS4.out).mono ?_
      rintro e w5 ⟨y, rfl, hy1, hy2, hs5, ht5⟩
      have HO5 := Lib.hid (HO4.out.thr ht5 hg3).mat
      have HB5 := Lib.hid (HB4.out.trans ht5.below)
      clear hs5 ht5 hy2
      go_wp2
      go_ret2
      exact ⟨_, _, _, R4, _, rfl, HO5.out, HB5.out⟩
    · have e1 : (x == 1) = false := by simpa using hx1'
      by_cases hx2' : x = 2
      · subst hx2'
        go_wp2_with fail
        refine (pick _ _ 0 2 2 _ (HS3.out.alloc _) (by omega) (by omega) hg3 (litCells _ [10000, 10001] _ _ rfl (by decide))).mono ?_
        rintro e w4 ⟨y, rfl, hy, hs4, ht4⟩
        have HB4 := Lib.hid ((HB3.out.alloc HB3.out.size _).trans ht4.below)
        have hz4 := HB4.out.size
        clear hs4 ht4 hy
        have hOy : Own (w4.alloc (.cells #[.int .i64 y] 2)) w4.heap.size (.slice (some ⟨w4.heap.size, 0, none⟩) 1 1) [y] := World.ownsRow_lit w4 #[.int .i64 y] 1 (Nat.le_refl _) (by decide) rfl
        have hI := hOy.ints'
        have hM := mat_one' _ _ _ 1 _ hI
        rw [show (w4.alloc (.cells #[.int .i64 y] 2)).heap.size = w4.heap.size + 1 by simp] at hM
        have HM := Lib.hid hM
        have HB5 := Lib.hid ((HB4.out.alloc hz4 (.cells #[.int .i64 y] 2)).alloc (by simp; omega) (.cells #[.slice (some ⟨w4.heap.size, 0, none⟩) 1 1] 34))
        clear hI hM hOy
        go_wp2
        go_ret2
        exact ⟨_, _, _, _, _, rfl, HM.out, HB5.out⟩
      · have e2 : (x == 2) = false := by simpa using hx2'
        go_wp2_with fail
        refine (next _ 9 _ (by decide) HS3.out).mono ?_
        rintro e w5 ⟨y, rfl, hy1, hy2, hs5, ht5⟩
        have HO5 := Lib.hid (HO3.out.thr ht5 hg1).mat
        have HB5 := Lib.hid (HB3.out.trans ht5.below)
        clear hs5 ht5 hy2
        go_wp2
        go_ret2
        exact ⟨_, _, _, R, _, rfl, HO5.out, HB5.out⟩

/-- A drawn integer; two of them. -/
def DrawnI (w : World) (e : Ending) (w' : World) : Prop := ∃ x : Int, e = .returned (.int .i64 x) ∧ Below w.heap.size w w'
def DrawnII (w : World) (e : Ending) (w' : World) : Prop := ∃ x y : Int, e = .returned (.tuple #[.int .i64 x, .int .i64 y]) ∧ Below w.heap.size w w'

set_option maxHeartbeats 1000000 in
theorem drawUnitMatrix (a : Option Addr) (n cap : Nat) (w : World) (h : Bytes w a n) :
    Calls Try.prog 32 #[.slice a n cap] w (DrawnI w) := by
  have HB := Lib.hid h
  clear h
  go_enter Try.func32, Try.ntmps32
  go_wp2_with fail
  refine (from_ _ _ _ _ HB.out).mono ?_
  rintro e w1 ⟨rfl, hs1, hb1⟩
  have HS1 := Lib.hid hs1
  have HB1 := Lib.hid hb1
  clear hs1 hb1
  go_wp2_with fail
  refine (next _ 13 _ (by decide) HS1.out).mono ?_
  rintro e w2 ⟨x, rfl, hx1, hx2, hs2, ht2⟩
  have HB2 := Lib.hid (HB1.out.trans ht2.below)
  clear hs2 ht2 hx2
  go_wp2
  go_ret
  exact ⟨_, rfl, HB2.out⟩

set_option maxHeartbeats 1000000 in
theorem drawBottomMatrix (a : Option Addr) (n cap : Nat) (w : World) (h : Bytes w a n) :
    Calls Try.prog 35 #[.slice a n cap] w (DrawnII w) := by
  have HB := Lib.hid h
  clear h
  go_enter Try.func35, Try.ntmps35
  go_wp2_with fail
  refine (from_ _ _ _ _ HB.out).mono ?_
  rintro e w1 ⟨rfl, hs1, hb1⟩
  have HS1 := Lib.hid hs1
  have HB1 := Lib.hid hb1
  clear hs1 hb1
  go_wp2_with fail
  refine (next _ 13 _ (by decide) HS1.out).mono ?_
  rintro e w2 ⟨x, rfl, hx1, hx2, hs2, ht2⟩
  have HS2 := Lib.hid hs2
  have HB2 := Lib.hid (HB1.out.trans ht2.below)
  clear hs2 ht2 hx2
  go_wp2_with fail
  refine (next _ 13 _ (by decide) HS2.out).mono ?_
  rintro e w3 ⟨y, rfl, hy1, hy2, hs3, ht3⟩
  have HB3 := Lib.hid (HB2.out.trans ht3.below)
  clear hs3 ht3 hy2
  go_wp2
  go_ret2
  exact ⟨_, _, rfl, HB3.out⟩
end Go.Proofs.Ytokhcpiicfmaeaa.V
