/- Drawn arguments of products, powers and quotients: two integers. -/
import Derived.Test.YtemnnjojeffifaaRows
import Derived.Test.YtemnnjojeffifaaMath1
import Derived.Test.YtemnnjojeffifaaHelp
import Derived.Test.YtemnnjojeffifaaRows1
import Derived.Test.YtemnnjojeffifaaDraw1
import Derived.Test.YtemnnjojeffifaaDraw2
import Derived.WalkKit
import Derived.ProofKit
import Derived.WalkSmall
import Derived.Deep.QuietTactic
import Derived.BigQuiet
import Derived.BigRegion
import Derived.Deep.Draws
import Derived.Lib.Hide
namespace Go.Proofs.Ytemnnjojeffifaa.V
open Go.RowKit

/-- Two drawn integers. -/
def PairPost (w : World) (e : Ending) (w' : World) : Prop :=
  ∃ x y : Int, e = .returned (.tuple #[.int .i64 x, .int .i64 y]) ∧ (Lit.int .i64 x).wf = true ∧ (Lit.int .i64 y).wf = true ∧ Below w.heap.size w w'

set_option maxHeartbeats 1000000 in
theorem drawProductOf (a : Option Addr) (n cap : Nat) (w : World) (h : Bytes w a n) :
    Calls Try.prog 16 #[.slice a n cap] w (PairPost w) := by
  have HB := Lib.hid h
  clear h
  go_enter Try.func16, Try.ntmps16
  go_wp2_with fail
  refine (from_ _ _ _ _ HB.out).mono ?_
  rintro e w1 ⟨rfl, hs1, hb1⟩
  have HS1 := Lib.hid hs1
  have HB1 := Lib.hid hb1
  clear hs1 hb1
  go_wp2_with fail
  refine (drawValue _ _ HS1.out).mono ?_
  rintro e w2 ⟨x, rfl, hx, hs2, ht2⟩
  have HS2 := Lib.hid hs2
  have HB2 := Lib.hid (HB1.out.trans ht2.below)
  clear hs2 ht2
  go_wp2_with fail
  refine (drawValue _ _ HS2.out).mono ?_
  rintro e w3 ⟨y, rfl, hy, hs3, ht3⟩
  have HB3 := Lib.hid (HB2.out.trans ht3.below)
  clear hs3 ht3
  go_wp2
  go_ret2
  exact ⟨x, y, rfl, hx, hy, HB3.out⟩

set_option maxHeartbeats 1000000 in
theorem drawQuotientOf (a : Option Addr) (n cap : Nat) (w : World) (h : Bytes w a n) :
    Calls Try.prog 27 #[.slice a n cap] w (PairPost w) := by
  go_enter Try.func27, Try.ntmps27
  go_wp2_with fail
  refine (drawProductOf _ _ _ _ h).mono ?_
  rintro e w1 ⟨x, y, rfl, hx, hy, hb⟩
  go_wp2
  go_ret2
  exact ⟨x, y, rfl, hx, hy, hb⟩

set_option maxHeartbeats 1000000 in
theorem drawPowerOf (a : Option Addr) (n cap : Nat) (w : World) (h : Bytes w a n) :
    Calls Try.prog 24 #[.slice a n cap] w (PairPost w) := by
  have HB := Lib.hid h
  clear h
  go_enter Try.func24, Try.ntmps24
  go_wp2_with fail
  refine (from_ _ _ _ _ HB.out).mono ?_
  rintro e w1 ⟨rfl, hs1, hb1⟩
  have HS1 := Lib.hid hs1
  have HB1 := Lib.hid hb1
  clear hs1 hb1
  go_wp2_with fail
  refine (drawValue _ _ HS1.out).mono ?_
  rintro e w2 ⟨x, rfl, hx, hs2, ht2⟩
  have HS2 := Lib.hid hs2
  have HB2 := Lib.hid (HB1.out.trans ht2.below)
  clear hs2 ht2
  go_wp2_with fail
  refine (next _ _ _ (by decide) HS2.out).mono ?_
  rintro e w3 ⟨p, rfl, hp1, hp2, hs3, ht3⟩
  have HS3 := Lib.hid hs3
  have HB3 := Lib.hid (HB2.out.trans ht3.below)
  have hp : (Lit.int .i64 p).wf = true := wf_small _ (by omega) (by omega)
  clear hs3 ht3 hp2
  go_wp2_with fail
  refine (next _ _ _ (by decide) HS3.out).mono ?_
  rintro e w4 ⟨q, rfl, hq1, hq2, hs4, ht4⟩
  have HS4 := Lib.hid hs4
  have HB4 := Lib.hid (HB3.out.trans ht4.below)
  have hq : (Lit.int .i64 q).wf = true := wf_small _ (by omega) (by omega)
  clear hs4 ht4 hq2
  go_wp2_with fail
  refine (next _ _ _ (by decide) HS4.out).mono ?_
  rintro e w5 ⟨r, rfl, hr1, hr2, hs5, ht5⟩
  have HS5 := Lib.hid hs5
  have HB5 := Lib.hid (HB4.out.trans ht5.below)
  have hr : (Lit.int .i64 r).wf = true := wf_small _ (by omega) (by omega)
  clear hs5 ht5 hr2
  go_wp2_with fail
  refine (pick _ _ 0 4 4 _ (HS5.out.alloc _) (by omega) (by omega) HS5.out.lt (litCells _ [-1, 0, 1000000, 1000001] _ _ rfl (by decide))).mono ?_
  rintro e w6 ⟨y, rfl, hy, hs6, ht6⟩
  have HS6 := Lib.hid hs6
  have HB6 := Lib.hid ((HB5.out.alloc HB5.out.size _).trans ht6.below)
  clear hs6 ht6
  go_wp2_with fail
  refine (pick _ _ 0 4 4 _ (HS6.out.alloc _) (by omega) (by omega) HS6.out.lt (litCells _ [p, q, r, y] _ _ rfl (by simp only [List.all_cons, List.all_nil, hp, hq, hr, hy, Bool.and_self]))).mono ?_
  rintro e w7 ⟨z, rfl, hz, hs7, ht7⟩
  have HB7 := Lib.hid ((HB6.out.alloc HB6.out.size _).trans ht7.below)
  clear hs7 ht7
  go_wp2
  go_ret2
  exact ⟨x, z, rfl, hx, hz, HB7.out⟩

set_option maxHeartbeats 400000 in
theorem big (a : Option Addr) (n cap : Nat) (w : World) (h : n ≤ maxLen) :
    Calls Try.prog 15 #[.slice a n cap] w fun e w' => e = .returned (.bool (decide (4096 < n))) ∧ w = w' := by
  unfold maxLen at h
  go_enter Try.func15, Try.ntmps15
  go_wp2
  go_ret
  exact ⟨retB (decide_eq_decide.2 (by omega)), rfl⟩
end Go.Proofs.Ytemnnjojeffifaa.V
