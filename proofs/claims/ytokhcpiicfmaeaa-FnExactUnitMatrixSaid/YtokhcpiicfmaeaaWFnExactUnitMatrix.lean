/- The walk through the law: it returns true and writes nothing that was there. The function UnitMatrix answers as its model, for every integer, and its answer owns its memory. -/
import Derived.Test.YtokhcpiicfmaeaaRows
import Derived.Test.YtokhcpiicfmaeaaMatM
import Derived.Test.YtokhcpiicfmaeaaOwn
import Derived.Test.YtokhcpiicfmaeaaMat0
import Derived.Test.YtokhcpiicfmaeaaMat1
import Derived.Test.YtokhcpiicfmaeaaMat2
import Derived.Test.YtokhcpiicfmaeaaMark
import Derived.Test.YtokhcpiicfmaeaaSBot
import Derived.Test.YtokhcpiicfmaeaaIBot
import Derived.WalkKit
import Derived.ProofKit
import Derived.OpenShut
import Derived.ShutString
import Derived.ChangeOld
import Derived.Below
import Derived.Lib.SmallJoins
import Derived.Lib.Hide
import Derived.WalkSmall
import Derived.Deep.Draws
import Derived.Deep.QuietTactic
import Derived.BigQuiet
import Derived.Deep.OwnRows
import Derived.Deep.RegionWith
import Derived.Deep.RegionHeld3
namespace Go.Proofs.Ytokhcpiicfmaeaa.fnExactUnitMatrix
open Go.ChangeShapes Go.WideShapes Go.ChangeAt Go.RowKit
open Go.ChangeMaps (open_string shut_string)
set_option linter.unusedVariables false

set_option maxRecDepth 100000 in
set_option maxHeartbeats 4000000 in
theorem walk (a0 : Int) (w : World) (w0 : (Lit.int .i64 a0).wf = true) :
    Calls Try.prog 8 #[.int .i64 a0] w fun e w' => e = .returned (.bool true) ∧ Below w.heap.size w w' := by
  have HB0 := Lib.hid (Below.refl w.heap.size w)
  go_enter Try.func8, Try.ntmps8
  obtain ⟨r, hr⟩ : ∃ r, r = (M.unitRes a0) := ⟨_, rfl⟩
  have hok := M.unitRes_ok a0
  rw [← hr] at hok
  have hpr := M.okM_pre hok
  have hlr := M.okM_len hok
  have HR := Lib.hid hr
  clear hr
  go_wp2_with fail
  refine (V.sUnitMatrix _ _ ).mono ?_
  rintro e w_1 ⟨sa, sn, sc, rfl, ho, hb⟩
  have z1 : w.heap.size ≤ w_1.heap.size := hb.size
  have HB1 := Lib.hid (HB0.out.trans (hb.mono (by omega)))
  clear hb HB0
  rw [← HR.out] at ho ⊢
  have HOs := Lib.hid ho
  clear ho
  have Ss_1 := Lib.hid (V.Same.refl w.heap.size w_1.heap.size w_1)
  go_wp2_with fail
  refine (V.unitMatrix _ _ ).mono ?_
  rintro e w_2 ⟨ga, gn, gc, rfl, ho, hb⟩
  have z2 : w_1.heap.size ≤ w_2.heap.size := hb.size
  have HB2 := Lib.hid (HB1.out.trans (hb.mono (by omega)))
  have Ss_2 := Lib.hid (Ss_1.out.below hb (by omega))
  clear hb HB1 Ss_1
  rw [← HR.out] at ho ⊢
  have HOg := Lib.hid ho
  clear ho
  have Sg_2 := Lib.hid (V.Same.refl w_1.heap.size w_2.heap.size w_2)
  have hgn : gn ≤ 10 := by have := HOg.out.len; omega
  go_wp2_with fail
  refine (V.eqM _ _ _ _ _ _ _ _ ((HOg.out.keep Sg_2.out).mat) ((HOs.out.keep Ss_2.out).mat)).mono ?_
  rintro e w_3 ⟨rfl, hb⟩
  have z3 : w_2.heap.size ≤ w_3.heap.size := hb.size
  have HB3 := Lib.hid (HB2.out.trans (hb.mono (by omega)))
  have Ss_3 := Lib.hid (Ss_2.out.below hb (by omega))
  have Sg_3 := Lib.hid (Sg_2.out.below hb (by omega))
  clear hb HB2 Ss_2 Sg_2
  go_wp2_with fail
  refine (V.markM _ _ _ _ r.1 _ w_2 _ HOg.out Sg_3.out (by omega) (by omega) (by omega) (by omega)).mono ?_
  rintro e w_4 ⟨m, rfl, hm, HM, ho, hc⟩
  have z4 : w_3.heap.size ≤ w_4.heap.size := Nat.le_of_eq hc.size.symm
  have HB4 := Lib.hid (HB3.out.trans (hc.below (fun k hk => Nat.le_trans (by omega) hk.1)))
  have Ss_4 := Lib.hid (Ss_3.out.chg hc (fun k h1 h2 h3 => by omega))
  have HN := Lib.hid ho
  clear HB3 Ss_3 Sg_3 HOg ho hc
  have HOg := HN
  clear HN
  have Sg_4 := Lib.hid (V.Same.refl w_1.heap.size w_4.heap.size w_4)
  go_wp2_with fail
  refine (V.heldM _ _ _ r.1 _ m _ ((HOg.out.keep Sg_4.out).mat) (by omega) (by omega) (by omega) HM.out).mono ?_
  rintro e w' ⟨rfl, rfl⟩
  go_wp2_with fail
  refine (V.unitMatrix _ _ ).mono ?_
  rintro e w_5 ⟨ha, hn, hcap, rfl, ho, hb⟩
  have z5 : w_4.heap.size ≤ w_5.heap.size := hb.size
  have HB5 := Lib.hid (HB4.out.trans (hb.mono (by omega)))
  have Ss_5 := Lib.hid (Ss_4.out.below hb (by omega))
  have Sg_5 := Lib.hid (Sg_4.out.below hb (by omega))
  clear hb HB4 Ss_4 Sg_4
  rw [← HR.out] at ho ⊢
  have HOh := Lib.hid ho
  clear ho
  have Sh_5 := Lib.hid (V.Same.refl w_4.heap.size w_5.heap.size w_5)
  go_wp2_with fail
  refine (V.eqM _ _ _ _ _ _ _ _ ((HOh.out.keep Sh_5.out).mat) ((HOs.out.keep Ss_5.out).mat)).mono ?_
  rintro e w_6 ⟨rfl, hb⟩
  have z6 : w_5.heap.size ≤ w_6.heap.size := hb.size
  have HB6 := Lib.hid (HB5.out.trans (hb.mono (by omega)))
  have Ss_6 := Lib.hid (Ss_5.out.below hb (by omega))
  have Sg_6 := Lib.hid (Sg_5.out.below hb (by omega))
  have Sh_6 := Lib.hid (Sh_5.out.below hb (by omega))
  clear hb HB5 Ss_5 Sg_5 Sh_5
  go_wp2_with fail
  refine (V.heldM _ _ _ r.1 _ m _ ((HOg.out.keep Sg_6.out).mat) (by omega) (by omega) (by omega) HM.out).mono ?_
  rintro e w' ⟨rfl, rfl⟩
  go_wp2
  go_ret
  exact ⟨rfl, HB6.out⟩
end Go.Proofs.Ytokhcpiicfmaeaa.fnExactUnitMatrix
