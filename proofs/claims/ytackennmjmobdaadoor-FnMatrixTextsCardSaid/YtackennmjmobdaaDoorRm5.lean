/- Drawn matrices and texts of matrices. -/
import Derived.Test.YtackennmjmobdaaDoorRows
import Derived.Test.YtackennmjmobdaaDoorMath1
import Derived.Test.YtackennmjmobdaaDoorList
import Derived.Test.YtackennmjmobdaaDoorMatM
import Derived.Test.YtackennmjmobdaaDoorRows0
import Derived.Test.YtackennmjmobdaaDoorOwn
import Derived.Test.YtackennmjmobdaaDoorMat0
import Derived.Test.YtackennmjmobdaaDoorVals0
import Derived.Test.YtackennmjmobdaaDoorTxt
import Derived.Test.YtackennmjmobdaaDoorTm0
import Derived.Test.YtackennmjmobdaaDoorTm1
import Derived.Test.YtackennmjmobdaaDoorTm2
import Derived.Test.YtackennmjmobdaaDoorRm4
import Derived.Test.YtackennmjmobdaaDoorDraw1
import Derived.Test.YtackennmjmobdaaDoorDraw2
import Derived.Test.YtackennmjmobdaaDoorDrawM
import Derived.Test.YtackennmjmobdaaDoorDrawM2
import Derived.Test.YtackennmjmobdaaDoorDmg
import Derived.WalkKit
import Derived.ProofKit
import Derived.WalkSmall
import Derived.Deep.QuietTactic
import Derived.BigQuiet
import Derived.BigRegion
import Derived.Deep.Draws
import Derived.Deep.OwnRows
import Derived.Lib.Hide
namespace Go.Proofs.YtackennmjmobdaaDoor.V
open Go.RowKit

set_option maxRecDepth 100000 in
set_option maxHeartbeats 1000000 in
theorem drawMatrixText (a : Option Addr) (n cap : Nat) (w : World) (h : Bytes w a n) :
    Calls Tryd.prog 7 #[.slice a n cap] w (DrawnM w) := by
  have HB := Lib.hid h
  clear h
  go_enter Tryd.func7, Tryd.ntmps7
  go_wp2_with fail
  refine (from_ _ _ _ _ HB.out).mono ?_
  rintro e w1 ⟨rfl, hs1, hb1⟩
  have HS1 := Lib.hid hs1
  have HB1 := Lib.hid hb1
  clear hs1 hb1
  go_wp2_with fail
  refine (draw _ _ HS1.out).mono ?_
  rintro e w2 ⟨a2, n2, c2, R, rfl, ho, hs2, ht2⟩
  have HO := Lib.hid ho.mat
  have HB2 := Lib.hid (HB1.out.trans ht2.below)
  clear ho hs2 ht2
  go_wp2
  go_ret
  exact ⟨a2, n2, c2, R, rfl, HO.out, HB2.out⟩

set_option maxRecDepth 100000 in
set_option maxHeartbeats 1000000 in
theorem drawReadMatrix (a : Option Addr) (n cap : Nat) (w : World) (h : Bytes w a n) :
    Calls Tryd.prog 10 #[.slice a n cap] w (DrawnS w) := by
  have HB := Lib.hid h
  clear h
  go_enter Tryd.func10, Tryd.ntmps10
  go_wp2_with fail
  refine (from_ _ _ _ _ HB.out).mono ?_
  rintro e w1 ⟨rfl, hs1, hb1⟩
  have HS1 := Lib.hid hs1
  have HB1 := Lib.hid hb1
  clear hs1 hb1
  go_wp2_with fail
  refine (draw _ _ HS1.out).mono ?_
  rintro e w2 ⟨a2, n2, c2, R, rfl, ho, hs2, ht2⟩
  have HO := Lib.hid ho.mat
  have HS2 := Lib.hid hs2
  have HB2 := Lib.hid (HB1.out.trans ht2.below)
  clear ho hs2 ht2
  go_wp2_with fail
  refine (sMatrixText _ _ _ _ _ HO.out).mono ?_
  rintro e w3 ⟨t, rfl, ht, hb3⟩
  have htl : t.size ≤ 2110 := by
    rw [ht]
    have := mtxt_len R
    simpa [ByteArray.size] using this
  have HS3 := Lib.hid (HS2.out.below (hb3.mono (by have := HS2.out.lt; omega)))
  have HB3 := Lib.hid (HB2.out.trans (hb3.mono HB2.out.size))
  clear hb3 ht
  go_wp2_with fail
  refine (next _ _ _ (by decide) HS3.out).mono ?_
  rintro e w4 ⟨c, rfl, hc1, hc2, hs4, ht4⟩
  have HS4 := Lib.hid hs4
  have HB4 := Lib.hid (HB3.out.trans ht4.below)
  clear hs4 ht4 hc2
  by_cases h0 : c = 0
  · subst h0
    go_wp2_with fail
    refine (damage _ t _ HS4.out (by omega)).mono ?_
    rintro e w5 ⟨u, rfl, hu, hs5, ht5⟩
    have HB5 := Lib.hid (HB4.out.trans ht5.below)
    clear hs5 ht5
    go_wp2
    go_ret
    exact ⟨_, rfl, by omega, HB5.out⟩
  · have e0 : (c == 0) = false := by simp; omega
    go_wp2
    go_ret
    exact ⟨_, rfl, by omega, HB4.out⟩
end Go.Proofs.YtackennmjmobdaaDoor.V
