/- Arguments of FixedPoint and of HeaviestPath, as the laws draw them. -/
import Derived.Test.YtfdckijililomaaD3b
import Derived.Test.YtfdckijililomaaDrawV
namespace Go.Proofs.Ytfdckijililomaa.V
open Go.RowKit

set_option maxRecDepth 100000 in
set_option maxHeartbeats 1000000 in
theorem drawFixedPoint (a : Option Addr) (n cap : Nat) (w : World) (h : Bytes w a n) :
    Calls Try.prog 81 #[.slice a n cap] w (DrawnMV w) := by
  have HB := Lib.hid h
  clear h
  go_enter Try.func81, Try.ntmps81
  go_wp2_with fail
  refine (from_ _ _ _ _ HB.out).mono ?_
  rintro e w1 ⟨rfl, hs1, hb1⟩
  have HS1 := Lib.hid hs1
  have HB1 := Lib.hid hb1
  have hg1 := hs1.lt
  clear hs1 hb1
  go_wp2_with fail
  refine (draw3 _ _ HS1.out).mono ?_
  rintro e w2 ⟨a2, n2, c2, R, rfl, hn2, ho, hs2, ht2⟩
  have HO2 := Lib.hid ho
  have HS2 := Lib.hid hs2
  have HB2 := Lib.hid (HB1.out.trans ht2.below)
  clear ho hs2 ht2
  go_wp2_with fail
  refine (next _ 20 _ (by decide) HS2.out).mono ?_
  rintro e w3 ⟨x, rfl, hx1, -, hs3, ht3⟩
  have HO3 := Lib.hid (HO2.out.thr ht3 hg1)
  have HS3 := Lib.hid hs3
  have HB3 := Lib.hid (HB2.out.trans ht3.below)
  clear hs3 ht3 HO2 HS2 HB2
  by_cases hx0 : x = 0
  · subst hx0
    have e1 : (n2 : Int) + 1 = ((n2 + 1 : Nat) : Int) := by omega
    have E1 := Lib.hid e1
    clear e1
    go_wp2_with fail
    rw [E1.out]
    refine (drawVector _ (n2 + 1) _ HS3.out (by omega)).mono ?_
    rintro e w6 ⟨a6, n6, c6, l, rfl, ho6, hs6, ht6⟩
    have HI := Lib.hid ho6.ints'
    have HM := Lib.hid (HO3.out.thr ht6 hg1).mat
    have HB6 := Lib.hid (HB3.out.trans ht6.below)
    clear ho6 hs6 ht6
    go_wp2
    go_ret2
    exact ⟨_, _, _, R, _, _, _, l, rfl, HM.out, HI.out, HB6.out⟩
  · have ex : (x == 0) = false := by simpa using hx0
    go_wp2_with fail
    refine (drawVector _ n2 _ HS3.out (by omega)).mono ?_
    rintro e w6 ⟨a6, n6, c6, l, rfl, ho6, hs6, ht6⟩
    have HI := Lib.hid ho6.ints'
    have HM := Lib.hid (HO3.out.thr ht6 hg1).mat
    have HB6 := Lib.hid (HB3.out.trans ht6.below)
    clear ho6 hs6 ht6
    go_wp2
    go_ret2
    exact ⟨_, _, _, R, _, _, _, l, rfl, HM.out, HI.out, HB6.out⟩

/-- A drawn matrix and two drawn numbers. -/
def DrawnMII (w : World) (e : Ending) (w' : World) : Prop :=
  ∃ (a : Option Addr) (n cap : Nat) (R : List (List Int)) (x y : Int), e = .returned (.tuple #[.slice a n cap, .int .i64 x, .int .i64 y]) ∧ Mat w' a n R ∧ Below w.heap.size w w'
end Go.Proofs.Ytfdckijililomaa.V
