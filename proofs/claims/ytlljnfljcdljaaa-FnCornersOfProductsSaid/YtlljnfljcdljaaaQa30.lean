/- Texts laid together: Pds. -/
import Derived.Test.YtlljnfljcdljaaaQa29
set_option linter.unusedSimpArgs false
set_option linter.unusedVariables false
set_option linter.unusedSectionVars false
namespace Go.Proofs.Ytlljnfljcdljaaa
namespace V
set_option maxRecDepth 100000
open Go.RowKit
def Door1 (w : World) (e : Ending) (w' : World) : Prop :=
  ∃ (a : Option Addr) (n cap : Nat) (l : List Int), e = .returned (.slice a n cap) ∧ Ints .i64 w' a n l ∧ Below w.heap.size w w'
def Door2 (w : World) (e : Ending) (w' : World) : Prop :=
  ∃ (a : Option Addr) (n cap : Nat) (l : List Int) (a' : Option Addr) (n' cap' : Nat) (l' : List Int), e = .returned (.tuple #[.slice a n cap, .slice a' n' cap']) ∧ Ints .i64 w' a n l ∧ Ints .i64 w' a' n' l' ∧ Below w.heap.size w w'
def DoorV (w : World) (e : Ending) (w' : World) : Prop :=
  ∃ (a : Option Addr) (n cap : Nat) (l : List Int) (x : Int), e = .returned (.tuple #[.slice a n cap, .int .i64 x]) ∧ (Lit.int .i64 x).wf = true ∧ Ints .i64 w' a n l ∧ Below w.heap.size w w'
set_option maxRecDepth 100000 in
set_option maxHeartbeats 1000000 in
theorem drawAddPolynomials (a : Option Addr) (n cap : Nat) (w : World) (h : Bytes w a n) :
    Calls Try.prog 15 #[.slice a n cap] w (Door2 w) := by
  have HB := Lib.hid h
  clear h
  go_enter Try.func15, Try.ntmps15
  go_wp2_with fail
  refine (from_ _ _ _ _ HB.out).mono ?_
  rintro e w1 ⟨rfl, hs1, hb1⟩
  have HS1 := Lib.hid hs1
  have HB1 := Lib.hid hb1
  clear hs1 hb1
  go_wp2_with fail
  refine (drawTwo9 _ _ HS1.out).mono ?_
  rintro e w2 ⟨b, m, c, l, b', m', c', l', rfl, ho, ho', -, ht⟩
  have HI := Lib.hid ho.ints'
  have HI' := Lib.hid ho'.ints'
  have HB2 := Lib.hid (HB1.out.trans ht.below)
  clear ho ho' ht
  go_wp2
  go_ret2
  exact ⟨_, _, _, _, _, _, _, _, rfl, HI.out, HI'.out, HB2.out⟩
set_option maxRecDepth 100000 in
set_option maxHeartbeats 1000000 in
theorem drawSameFunction (a : Option Addr) (n cap : Nat) (w : World) (h : Bytes w a n) :
    Calls Try.prog 35 #[.slice a n cap] w (Door2 w) := by
  have HB := Lib.hid h
  clear h
  go_enter Try.func35, Try.ntmps35
  go_wp2_with fail
  refine (from_ _ _ _ _ HB.out).mono ?_
  rintro e w1 ⟨rfl, hs1, hb1⟩
  have HS1 := Lib.hid hs1
  have HB1 := Lib.hid hb1
  clear hs1 hb1
  go_wp2_with fail
  refine (drawTwo9 _ _ HS1.out).mono ?_
  rintro e w2 ⟨b, m, c, l, b', m', c', l', rfl, ho, ho', -, ht⟩
  have HI := Lib.hid ho.ints'
  have HI' := Lib.hid ho'.ints'
  have HB2 := Lib.hid (HB1.out.trans ht.below)
  clear ho ho' ht
  go_wp2
  go_ret2
  exact ⟨_, _, _, _, _, _, _, _, rfl, HI.out, HI'.out, HB2.out⟩
set_option maxRecDepth 100000 in
set_option maxHeartbeats 1000000 in
theorem drawMultiplyPolynomials (a : Option Addr) (n cap : Nat) (w : World) (h : Bytes w a n) :
    Calls Try.prog 28 #[.slice a n cap] w (Door2 w) := by
  have HB := Lib.hid h
  clear h
  go_enter Try.func28, Try.ntmps28
  go_wp2_with fail
  refine (from_ _ _ _ _ HB.out).mono ?_
  rintro e w1 ⟨rfl, hs1, hb1⟩
  have HS1 := Lib.hid hs1
  have HB1 := Lib.hid hb1
  clear hs1 hb1
  go_wp2_with fail
  refine (drawTwo9 _ _ HS1.out).mono ?_
  rintro e w2 ⟨b, m, c, l, b', m', c', l', rfl, ho, ho', -, ht⟩
  have HI := Lib.hid ho.ints'
  have HI' := Lib.hid ho'.ints'
  have HB2 := Lib.hid (HB1.out.trans ht.below)
  clear ho ho' ht
  go_wp2
  go_ret2
  exact ⟨_, _, _, _, _, _, _, _, rfl, HI.out, HI'.out, HB2.out⟩
set_option maxRecDepth 100000 in
set_option maxHeartbeats 1000000 in
theorem drawFullPolynomial (a : Option Addr) (n cap : Nat) (w : World) (h : Bytes w a n) :
    Calls Try.prog 32 #[.slice a n cap] w (Door1 w) := by
  have HB := Lib.hid h
  clear h
  go_enter Try.func32, Try.ntmps32
  go_wp2_with fail
  refine (from_ _ _ _ _ HB.out).mono ?_
  rintro e w1 ⟨rfl, hs1, hb1⟩
  have HS1 := Lib.hid hs1
  have HB1 := Lib.hid hb1
  clear hs1 hb1
  go_wp2_with fail
  refine (draw9 _ _ HS1.out).mono ?_
  rintro e w2 ⟨b, m, c, l, rfl, ho, -, ht⟩
  have HI := Lib.hid ho.ints'
  have HB2 := Lib.hid (HB1.out.trans ht.below)
  clear ho ht
  go_wp2
  go_ret
  exact ⟨_, _, _, _, rfl, HI.out, HB2.out⟩
set_option maxRecDepth 100000 in
set_option maxHeartbeats 1000000 in
theorem drawCornersOf (a : Option Addr) (n cap : Nat) (w : World) (h : Bytes w a n) :
    Calls Try.prog 29 #[.slice a n cap] w (Door1 w) := by
  have HB := Lib.hid h
  clear h
  go_enter Try.func29, Try.ntmps29
  go_wp2_with fail
  refine (from_ _ _ _ _ HB.out).mono ?_
  rintro e w1 ⟨rfl, hs1, hb1⟩
  have HS1 := Lib.hid hs1
  have HB1 := Lib.hid hb1
  clear hs1 hb1
  go_wp2_with fail
  refine (draw9 _ _ HS1.out).mono ?_
  rintro e w2 ⟨b, m, c, l, rfl, ho, -, ht⟩
  have HI := Lib.hid ho.ints'
  have HB2 := Lib.hid (HB1.out.trans ht.below)
  clear ho ht
  go_wp2
  go_ret
  exact ⟨_, _, _, _, rfl, HI.out, HB2.out⟩
set_option maxRecDepth 100000 in
set_option maxHeartbeats 1000000 in
theorem drawEvaluatePolynomial (a : Option Addr) (n cap : Nat) (w : World) (h : Bytes w a n) :
    Calls Try.prog 20 #[.slice a n cap] w (DoorV w) := by
  have HB := Lib.hid h
  clear h
  go_enter Try.func20, Try.ntmps20
  go_wp2_with fail
  refine (from_ _ _ _ _ HB.out).mono ?_
  rintro e w1 ⟨rfl, hs1, hb1⟩
  have HS1 := Lib.hid hs1
  have HB1 := Lib.hid hb1
  clear hs1 hb1
  go_wp2_with fail
  refine (draw9 _ _ HS1.out).mono ?_
  rintro e w2 ⟨b, m, c, l, rfl, ho, hs2, ht⟩
  have hg1 := HS1.out.lt
  have HO := Lib.hid ho
  have HS2 := Lib.hid hs2
  have HB2 := Lib.hid (HB1.out.trans ht.below)
  clear ho ht hs2 HS1
  go_wp2_with fail
  refine (drawValue _ _ HS2.out).mono ?_
  rintro e w3 ⟨x, rfl, hx, -, ht3⟩
  have HI := Lib.hid (HO.out.thr ht3 hg1).ints'
  have HB3 := Lib.hid (HB2.out.trans ht3.below)
  have HX := Lib.hid hx
  clear ht3 hx
  go_wp2
  go_ret2
  exact ⟨_, _, _, _, _, rfl, HX.out, HI.out, HB3.out⟩
end V
end Go.Proofs.Ytlljnfljcdljaaa
