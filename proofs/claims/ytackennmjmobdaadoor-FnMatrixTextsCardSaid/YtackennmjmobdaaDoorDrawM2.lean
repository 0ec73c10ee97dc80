/- Drawn matrices and vectors, as the laws draw them. -/
import Derived.Test.YtackennmjmobdaaDoorRows
import Derived.Test.YtackennmjmobdaaDoorMath1
import Derived.Test.YtackennmjmobdaaDoorList
import Derived.Test.YtackennmjmobdaaDoorMatM
import Derived.Test.YtackennmjmobdaaDoorHelp
import Derived.Test.YtackennmjmobdaaDoorRows0
import Derived.Test.YtackennmjmobdaaDoorOwn
import Derived.Test.YtackennmjmobdaaDoorMat0
import Derived.WalkKit
import Derived.ProofKit
import Derived.WalkSmall
import Derived.Deep.QuietTactic
import Derived.BigQuiet
import Derived.BigRegion
import Derived.Deep.Draws
import Derived.Lib.Hide
import Derived.OpenShut
import Derived.Deep.OwnRows
import Derived.Test.YtackennmjmobdaaDoorVals0
import Derived.Test.YtackennmjmobdaaDoorApp
import Derived.Test.YtackennmjmobdaaDoorSBot
import Derived.Test.YtackennmjmobdaaDoorDraw1
import Derived.Test.YtackennmjmobdaaDoorDraw2
import Derived.Deep.RegionHeld3
import Derived.Test.YtackennmjmobdaaDoorDrawM
import Derived.Test.YtackennmjmobdaaDoorIsMat
import Derived.Test.YtackennmjmobdaaDoorApp
namespace Go.Proofs.YtackennmjmobdaaDoor.V
open Go.RowKit

set_option maxRecDepth 100000 in
set_option maxHeartbeats 1000000 in
theorem draw (g : Nat) (w : World) (h : Src w g) : Calls Tryd.prog 19 #[.pointer (some ⟨g, 0, none⟩)] w (DrawM g w) := by
  have HS := Lib.hid h
  have hgl := h.lt
  clear h
  go_enter Tryd.func19, Tryd.ntmps19
  go_wp2_with fail
  refine (next g 4 _ (by decide) HS.out).mono ?_
  rintro e w1 ⟨x, rfl, hx1, hx2, hs1, ht1⟩
  obtain ⟨x, rfl⟩ := Int.eq_ofNat_of_zero_le hx1
  have hx3 : x < 4 := by omega
  have HS1 := Lib.hid hs1
  have HT1 := Lib.hid ht1
  clear hs1 ht1 hx2 hx1
  go_wp2_with fail
  refine (next g 4 _ (by decide) HS1.out).mono ?_
  rintro e w2 ⟨y, rfl, hy1, hy2, hs2, ht2⟩
  obtain ⟨y, rfl⟩ := Int.eq_ofNat_of_zero_le hy1
  have hy3 : y < 4 := by omega
  have HS2 := Lib.hid hs2
  have HT2 := Lib.hid (HT1.out.trans ht2)
  clear hs2 ht2 hy2 hy1
  have e1 : (1 : Int) + (x : Int) = ((1 + x : Nat) : Int) := by omega
  have e2 : (1 : Int) + (y : Int) = ((1 + y : Nat) : Int) := by omega
  have E1 := Lib.hid e1
  have E2 := Lib.hid e2
  clear e1 e2
  go_wp2_with fail
  rw [E1.out, E2.out]
  refine (drawSize g (1 + x) (1 + y) _ HS2.out (by omega) (by omega) (by omega) (by omega)).mono ?_
  rintro e w3 ⟨a, n, cap, R, rfl, ho, hs3, ht3⟩
  have HO := Lib.hid (ho.mono HT2.out.below.size)
  have HS3 := Lib.hid hs3
  have HT3 := Lib.hid (HT2.out.trans ht3)
  clear ho hs3 ht3
  go_wp2
  go_ret
  exact ⟨a, n, cap, R, rfl, HO.out, HS3.out, HT3.out⟩

/-- A drawn matrix, as a law is handed it. -/
def DrawnM (w : World) (e : Ending) (w' : World) : Prop :=
  ∃ (a : Option Addr) (n cap : Nat) (R : List (List Int)), e = .returned (.slice a n cap) ∧ Mat w' a n R ∧ Below w.heap.size w w'

end Go.Proofs.YtackennmjmobdaaDoor.V
