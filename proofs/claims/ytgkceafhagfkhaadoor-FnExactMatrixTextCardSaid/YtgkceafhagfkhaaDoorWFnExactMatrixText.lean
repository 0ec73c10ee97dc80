/- The walk through the law: it returns true and writes nothing that was there. The function MatrixText answers as its model, for all arguments, and leaves them as they were. -/
import Derived.Test.YtgkceafhagfkhaaDoorRows
import Derived.Test.YtgkceafhagfkhaaDoorQd1
import Derived.Test.YtgkceafhagfkhaaDoorQd4
import Derived.Test.YtgkceafhagfkhaaDoorQd5
import Derived.Test.YtgkceafhagfkhaaDoorQd7
import Derived.Test.YtgkceafhagfkhaaDoorQd8
import Derived.Test.YtgkceafhagfkhaaDoorQd3
import Derived.Test.YtgkceafhagfkhaaDoorQd9
import Derived.Test.YtgkceafhagfkhaaDoorQd10
import Derived.WalkKit
import Derived.ProofKit
import Derived.OpenShut
import Derived.ShutString
import Derived.ChangeOld
import Derived.Below
import Derived.Lib.SmallJoins
import Derived.Lib.Hide
import Derived.Lib.LaidTab
import Derived.WalkSmall
import Derived.Deep.Draws
import Derived.Deep.QuietTactic
import Derived.BigQuiet
import Derived.Deep.OwnRows
import Derived.Deep.DeepHandedRow
import Derived.Stop.LaidErr
set_option linter.unusedSimpArgs false
set_option linter.unusedVariables false
set_option linter.unusedSectionVars false
namespace Go.Proofs.YtgkceafhagfkhaaDoor.fnExactMatrixText
open Go.ChangeShapes Go.WideShapes Go.ChangeAt Go.RowKit
open Go.ChangeMaps (open_string shut_string)
set_option linter.unusedVariables false

theorem tabAll {P : Program} {w : World} {n : String} {k : IntKind} {zs : List Int} (h : Lib.TabIs P w n k zs) (w' : World) (hb : Below w.heap.size w w') : Lib.TabIs P w' n k zs := by
  cases hg : P.globalNamed n with
  | none => exfalso; simp [Lib.TabIs, World.var?, hg] at h
  | some g => exact Go.Joins.tab_stays hg h hb (Nat.le_refl _)

set_option maxRecDepth 100000 in
set_option maxHeartbeats 1000000 in
theorem walk (a0 : Option Addr) (len0 cap0 : Nat) (R0 : List (List Int)) (w : World) (w0 : V.Mat w a0 len0 R0) (htab : Lib.TabIs Tryd.prog w "internal/strconv.uint64pow10" .u64 Lib.pow10Tab) :
    Calls Tryd.prog 4 #[.slice a0 len0 cap0] w fun e w' => e = .returned (.bool true) ∧ Below w.heap.size w w' := by
  have HT := Lib.hid (tabAll htab)
  clear htab
  have HA0 := Lib.hid w0
  clear w0
  have HB0 := Lib.hid (Below.refl w.heap.size w)
  go_enter Tryd.func4, Tryd.ntmps4
  go_wp2_with fail
  refine (V.szIntss _ _ _ R0 1048576 w HA0.out (by omega) (by omega)).mono ?_
  rintro e w' ⟨y0, rfl, hy0, rfl⟩
  rcases hy0 with hy0 | ⟨hy0, hx0, hn0_, hp0_⟩
  · go_wp2
    go_ret
    exact ⟨rfl, HB0.out⟩
  have hn0 : len0 ≤ 1048576 := by omega
  have hp0 : M.pre R0 R0.length ≤ 1048576 := by omega
  clear hn0_ hp0_
  go_wp2_with fail
  refine (V.copyIntss _ _ _ R0 _ (HA0.out.below HB0.out) hn0 hp0).mono ?_
  rintro e w_1 ⟨rfl, ho, hb⟩
  have z1 : w.heap.size ≤ w_1.heap.size := hb.size
  have HB1 := Lib.hid (HB0.out.trans (hb.mono (by omega)))
  clear hb HB0
  have HOc0 := Lib.hid ho
  clear ho
  go_wp2_with fail
  refine (V.sMatrixText _ _ _ R0 _ HOc0.out.mat).mono ?_
  rintro e w_2 ⟨s, rfl, hs, hb⟩
  have HS := Lib.hid hs
  clear hs
  have z2 : w_1.heap.size ≤ w_2.heap.size := hb.size
  have HB2 := Lib.hid (HB1.out.trans (hb.mono (by omega)))
  clear hb HB1 HOc0
  go_wp2_with fail
  refine (V.copyIntss _ _ _ R0 _ (HA0.out.below HB2.out) hn0 hp0).mono ?_
  rintro e w_3 ⟨rfl, ho, hb⟩
  have z3 : w_2.heap.size ≤ w_3.heap.size := hb.size
  have HB3 := Lib.hid (HB2.out.trans (hb.mono (by omega)))
  clear hb HB2
  have HOx0 := Lib.hid ho
  clear ho
  go_wp2_with fail
  refine (V.matrixText _ _ _ R0 _ HOx0.out.mat (fun W h => HT.out W (HB3.out.trans (h.mono HB3.out.size)))).mono ?_
  rintro e w_4 ⟨t, rfl, ht, hb⟩
  obtain rfl : t = s := by rw [ht, HS.out]
  clear ht
  have z4 : w_3.heap.size ≤ w_4.heap.size := hb.size
  have HB4 := Lib.hid (HB3.out.trans (hb.mono (by omega)))
  have HOx1 := Lib.hid (HOx0.out.below hb)
  clear hb HB3 HOx0
  go_wp2_with fail
  refine (V.copyIntss _ _ _ R0 _ (HA0.out.below HB4.out) hn0 hp0).mono ?_
  rintro e w_5 ⟨rfl, ho, hb⟩
  have z5 : w_4.heap.size ≤ w_5.heap.size := hb.size
  have HB5 := Lib.hid (HB4.out.trans (hb.mono (by omega)))
  have HOx2 := Lib.hid (HOx1.out.below hb)
  clear hb HB4 HOx1
  have HOd0 := Lib.hid ho
  clear ho
  go_wp2_with fail
  refine (V.eqM _ _ _ _ _ _ _ _ HOx2.out.mat HOd0.out.mat).mono ?_
  rintro e w_6 ⟨rfl, hb⟩
  have HB6 := Lib.hid (HB5.out.trans (hb.mono (by omega)))
  clear hb
  go_wp2
  go_ret
  exact ⟨rfl, HB6.out⟩
end Go.Proofs.YtgkceafhagfkhaaDoor.fnExactMatrixText
