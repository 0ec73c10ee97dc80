/- Drawn vectors, and a drawn matrix with a vector. -/
import Derived.Test.YtfdckijililomaaRows
import Derived.Test.YtfdckijililomaaMath1
import Derived.Test.YtfdckijililomaaList
import Derived.Test.YtfdckijililomaaMatM
import Derived.Test.YtfdckijililomaaHelp
import Derived.Test.YtfdckijililomaaRows0
import Derived.Test.YtfdckijililomaaOwn
import Derived.Test.YtfdckijililomaaMat0
import Derived.WalkKit
import Derived.ProofKit
import Derived.WalkSmall
import Derived.Deep.QuietTactic
import Derived.BigQuiet
import Derived.BigRegion
import Derived.Deep.Draws
import Derived.Lib.Hide
import Derived.OpenShut
import Derived.Deep.OwnRows
import Derived.Test.YtfdckijililomaaVals0
import Derived.Test.YtfdckijililomaaApp
import Derived.Test.YtfdckijililomaaSBot
import Derived.Test.YtfdckijililomaaDraw1
import Derived.Test.YtfdckijililomaaDraw2
import Derived.Deep.RegionHeld3
import Derived.Test.YtfdckijililomaaDrawM
import Derived.Test.YtfdckijililomaaDrawM2
import Derived.Test.YtfdckijililomaaIsMat
import Derived.Test.YtfdckijililomaaApp
namespace Go.Proofs.Ytfdckijililomaa.V
open Go.RowKit

theorem Thr.then {g : Nat} {w wx w' : World} (h : Thr g w wx) (hb : Below w.heap.size wx w') (hg : g ≤ w.heap.size) : Thr g w w' :=
  ⟨h.below.trans (hb.mono hg), fun k h1 h2 => (hb.block k h2).trans (h.other k h1 h2)⟩
theorem Src.then {g : Nat} {wx w' : World} {B : Nat} (h : Src wx g) (hb : Below B wx w') (hg : g < B) : Src w' g := h.below (hb.mono hg)

/-- A list that is being drawn. -/
def DL (g B : Nat) (v : Value) (l : List Int) (w0 w : World) : Prop := Own w B v l ∧ Src w g ∧ Thr g w0 w
theorem DL.next {g B : Nat} {v : Value} {l : List Int} {w0 w w' : World} (h : DL g B v l w0 w) (hB : g < B) (hs : Src w' g) (ht : Thr g w w') : DL g B v l w0 w' :=
  ⟨h.1.thr ht hB, hs, h.2.2.trans ht⟩
theorem DL.app {g : Nat} {v v' : Value} {l l' : List Int} {w0 w w' : World} (h : DL g w0.heap.size v l w0 w) (hg : g < w0.heap.size) (ho : Own w' w0.heap.size v' l') (hb : Below w0.heap.size w w') : DL g w0.heap.size v' l' w0 w' :=
  ⟨ho, h.2.1.then hb hg, h.2.2.then hb (Nat.le_of_lt hg)⟩

/-- A drawn vector: some list of integers, in new memory. -/
def DrawV (g : Nat) (w : World) (e : Ending) (w' : World) : Prop :=
  ∃ (a : Option Addr) (n cap : Nat) (l : List Int), e = .returned (.slice a n cap) ∧ Own w' w.heap.size (.slice a n cap) l ∧ Src w' g ∧ Thr g w w'

set_option maxRecDepth 100000 in
set_option maxHeartbeats 4000000 in
theorem drawVector (g n : Nat) (w : World) (h : Src w g) (n2 : n ≤ 1000) :
    Calls Try.prog 141 #[.pointer (some ⟨g, 0, none⟩), .int .i64 n] w (DrawV g w) := by
  have hgs := h.lt
  have HJ0 : Hid (DL g w.heap.size (.slice (some ⟨w.heap.size, 0, none⟩) 0 0) [] w (w.alloc (.cells #[] 2))) :=
    ⟨own_lit0 w _ (Nat.le_refl _), h.alloc _, (Thr.refl _ _).alloc (Nat.le_of_lt hgs) _⟩
  clear h
  go_enter Try.func141, Try.ntmps141
  go_wp2
  go_loopw [1, 5] (fun i out wr => ∃ (j t : Nat) (l : List Int) (b : Option Addr) (c : Nat), j + t ≤ n ∧ i = .int .i64 j ∧ out = .slice b t c ∧ Hid (DL g w.heap.size (.slice b t c) l w wr)) (fun i _ _ => (intOf i).toNat)
  case atStart => exact ⟨n, 0, [], _, _, by omega, rfl, rfl, HJ0⟩
  case round =>
    obtain ⟨j, t, l, b, c, hjt, rfl, rfl, HJ⟩ := hrel
    clear HJ0
    have hj1000 : j ≤ 1000 := by omega
    have ht1000 : t ≤ 1000 := by omega
    by_cases hj : 0 < j
    · have hji : (0 : Int) < (j : Int) := by omega
      go_wp2_with fail
      refine (next g 31 _ (by decide) HJ.out.2.1).mono ?_
      rintro e w1 ⟨x, rfl, hx1, hx2, hs1, ht1⟩
      have hx3 : x < 31 := by omega
      have HJ1 := Lib.hid (HJ.out.next hgs hs1 ht1)
      have hz1 : w.heap.size ≤ w1.heap.size := HJ1.out.2.2.below.size
      have hlen := HJ1.out.1.len
      have HLn := Lib.hid hlen
      clear hs1 ht1 hx2 HJ hlen
      go_wp2_with (at_builtin; refine append1 _ rfl (.tmp 11) (.tmp 15) rfl w.heap.size _ _ _ t HJ1.out.1.len.symm rfl HJ1.out.1 rfl (by rw [← HLn.out]; omega) hz1 ?_)
      intro b2 c2 w2 hO2 hb2 _
      have HJ2 := Lib.hid (HJ1.out.app hgs hO2 hb2)
      clear hO2 hb2 HJ1
      go_wp2_with fail
      refine (next g 8 _ (by decide) HJ2.out.2.1).mono ?_
      rintro e w3 ⟨y, rfl, hy1, -, hs3, ht3⟩
      have HJ3 := Lib.hid (HJ2.out.next hgs hs3 ht3)
      clear hs3 ht3 HJ2
      by_cases hy : y = 0
      · subst hy
        obtain ⟨b3, c3, hv3, -, -, hg3⟩ := own_form HJ3.out.1
        injection hv3 with e1 e2 e3
        subst e1 e3
        rw [← e2] at hg3
        obtain ⟨q, rfl, hq, -⟩ := hg3 (by omega)
        have hcl := HJ3.out.1.cellAt t (by omega)
        have hfz := HJ3.out.1.frozenAt t
        have hN := HJ3.out.1.set t (-1000000000000000)
        have HJ4 := Lib.hid (HJ3.out.app hgs hN ((Below.refl _ _).setCell (p := ⟨q, t, none⟩) hq _))
        obtain ⟨x5, hx5⟩ : ∃ x5, x5 = (l ++ [x - 15]).getD t 0 := ⟨_, rfl⟩
        rw [← hx5] at hcl
        clear hN e2 hx5
        go_wp2
        go_roundw
        case rel => exact ⟨j - 1, t + 1, _, _, _, by omega, by go_num, rfl, HJ4⟩
        case measure => simp [intOf]; omega
      · have ey : (y == 0) = false := by simpa using hy
        go_wp2
        go_roundw
        case rel => exact ⟨j - 1, t + 1, _, _, _, by omega, by go_num, rfl, HJ3⟩
        case measure => simp [intOf]; omega
    · obtain rfl : j = 0 := by omega
      go_wp2_with fail
      refine (next g 60 _ (by decide) HJ.out.2.1).mono ?_
      rintro e w1 ⟨x, rfl, hx1, -, hs1, ht1⟩
      have HJ1 := Lib.hid (HJ.out.next hgs hs1 ht1)
      clear hs1 ht1 HJ
      by_cases hx0 : x = 0
      · subst hx0
        go_wp2_with fail
        refine (drawValue g _ HJ1.out.2.1).mono ?_
        rintro e w2 ⟨z, rfl, hz, hs2, ht2⟩
        have HJ2 := Lib.hid (HJ1.out.next hgs hs2 ht2)
        have hz1 : w.heap.size ≤ w2.heap.size := HJ2.out.2.2.below.size
        have hlen := HJ2.out.1.len
        have HLn := Lib.hid hlen
        clear hs2 ht2 HJ1 hlen
        go_wp2_with (at_builtin; refine append1 _ rfl (.tmp 29) (.tmp 32) rfl w.heap.size _ _ _ t HJ2.out.1.len.symm rfl HJ2.out.1 rfl (by rw [← HLn.out]; omega) hz1 ?_)
        intro b2 c2 w3 hO2 hb2 _
        have HJ3 := Lib.hid (HJ2.out.app hgs hO2 hb2)
        clear hO2 hb2 HJ2
        go_wp2
        go_ret
        exact ⟨_, _, _, _, rfl, HJ3.out.1, HJ3.out.2.1, HJ3.out.2.2⟩
      · have e0 : (x == 0) = false := by simpa using hx0
        by_cases hx1' : x = 1
        · subst hx1'
          go_wp2
          go_ret
          exact ⟨_, _, _, [], rfl, own_nil _ _, HJ1.out.2.1, HJ1.out.2.2⟩
        · have e1 : (x == 1) = false := by simpa using hx1'
          go_wp2
          go_ret
          exact ⟨_, _, _, _, rfl, HJ1.out.1, HJ1.out.2.1, HJ1.out.2.2⟩

/-- A drawn matrix and a drawn vector, as a law is handed them. -/
def DrawnMV (w : World) (e : Ending) (w' : World) : Prop :=
  ∃ (a : Option Addr) (n cap : Nat) (R : List (List Int)) (a' : Option Addr) (n' cap' : Nat) (l : List Int), e = .returned (.tuple #[.slice a n cap, .slice a' n' cap']) ∧ Mat w' a n R ∧ Ints .i64 w' a' n' l ∧ Below w.heap.size w w'

end Go.Proofs.Ytfdckijililomaa.V
