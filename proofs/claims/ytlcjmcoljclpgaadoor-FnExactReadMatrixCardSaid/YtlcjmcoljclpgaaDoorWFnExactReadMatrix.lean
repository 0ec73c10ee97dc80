/- The walk through the law: it returns true and writes nothing that was there. The function ReadMatrix answers as its model, for every string of at most 1048576 bytes (the law is true of longer ones by its own first test), and its answer owns its memory. -/
import Derived.Test.YtlcjmcoljclpgaaDoorRows
import Derived.Test.YtlcjmcoljclpgaaDoorQd1
import Derived.Test.YtlcjmcoljclpgaaDoorQd2
import Derived.Test.YtlcjmcoljclpgaaDoorQd3
import Derived.Test.YtlcjmcoljclpgaaDoorQd4
import Derived.Test.YtlcjmcoljclpgaaDoorQd5
import Derived.Test.YtlcjmcoljclpgaaDoorQd6
import Derived.WalkKit
import Derived.ProofKit
import Derived.OpenShut
import Derived.ShutString
import Derived.ChangeOld
import Derived.Below
import Derived.Lib.SmallJoins
import Derived.Lib.Hide
import Derived.Lib.LaidTab
import Derived.WalkSmall
import Derived.Deep.Draws
import Derived.Deep.QuietTactic
import Derived.BigQuiet
import Derived.Deep.OwnRows
import Derived.Deep.DeepHandedRow
import Derived.Stop.LaidErr
set_option linter.unusedSimpArgs false
set_option linter.unusedVariables false
set_option linter.unusedSectionVars false
namespace Go.Proofs.YtlcjmcoljclpgaaDoor.fnExactReadMatrix
open Go.ChangeShapes Go.WideShapes Go.ChangeAt Go.RowKit
open Go.ChangeMaps (open_string shut_string)
set_option linter.unusedVariables false

set_option maxRecDepth 100000 in
set_option maxHeartbeats 1000000 in
theorem walk (a0 : ByteArray) (w : World) (w0 : a0.size ≤ maxLen) (htab : ∀ w', Below w.heap.size w w' → Lib.TabIs Tryd.prog w' "internal/strconv.uint64pow10" .u64 Lib.pow10Tab) (hsent : ∀ w', Below w.heap.size w w' → V.Sent w') (hmax : V.MaxC w) :
    Calls Tryd.prog 6 #[.string a0] w fun e w' => e = .returned (.bool true) ∧ Below w.heap.size w w' := by
  by_cases hbig : 1048576 < a0.size
  · clear htab hsent hmax
    go_enter Tryd.func6, Tryd.ntmps6
    go_wp2
    go_ret
    exact ⟨rfl, Below.refl _ _⟩
  have hs0 : a0.size ≤ 1048576 := by omega
  have HT := Lib.hid htab
  have HN0 := Lib.hid hsent
  have HX0 := Lib.hid hmax
  clear htab hsent hmax
  obtain ⟨r, hr⟩ : ∃ r, r = M.readS a0.data.toList := ⟨_, rfl⟩
  have hok := M.readS_ok a0.data.toList
  rw [← hr] at hok
  have hpr := M.okM_pre hok
  have hlr := M.okM_len hok
  have hri : r = M.readMI a0.data.toList := by rw [M.readM_eq]; exact hr
  have HR := Lib.hid hr
  have HRI := Lib.hid hri
  clear hr hri
  obtain ⟨R, ok⟩ := r
  simp only at hpr hlr
  have HB0 := Lib.hid (Below.refl w.heap.size w)
  go_enter Tryd.func6, Tryd.ntmps6
  go_wp2_with fail
  refine (V.sReadMatrix _ _ hs0).mono ?_
  rintro e w_1 ⟨sa, sc, rfl, ho, hb⟩
  have z1 : w.heap.size ≤ w_1.heap.size := hb.size
  have HB1 := Lib.hid (HB0.out.trans (hb.mono (by omega)))
  clear hb HB0
  rw [← HR.out] at ho ⊢
  have HOs := Lib.hid ho
  clear ho
  have Ss_1 := Lib.hid (V.Same.refl w.heap.size w_1.heap.size w_1)
  go_wp2_with fail
  refine (V.iReadMatrix _ _ hs0 (HX0.out.below HB1.out) (fun w' h => HT.out w' (HB1.out.trans (h.mono HB1.out.size))) (fun w' h => HN0.out w' (HB1.out.trans (h.mono HB1.out.size)))).mono ?_
  rintro e w_2 ⟨ga, gc, rfl, ho, hb⟩
  have z2 : w_1.heap.size ≤ w_2.heap.size := hb.size
  have HB2 := Lib.hid (HB1.out.trans (hb.mono (by omega)))
  have Ss_2 := Lib.hid (Ss_1.out.below hb (by omega))
  clear hb HB1 Ss_1
  rw [← HRI.out] at ho ⊢
  have HOg := Lib.hid ho
  clear ho
  have Sg_2 := Lib.hid (V.Same.refl w_1.heap.size w_2.heap.size w_2)
  go_wp2_with fail
  refine (V.eqM _ _ _ _ _ _ _ _ ((HOg.out.keep Sg_2.out).mat) ((HOs.out.keep Ss_2.out).mat)).mono ?_
  rintro e w_3 ⟨rfl, hb⟩
  have z3 : w_2.heap.size ≤ w_3.heap.size := hb.size
  have HB3 := Lib.hid (HB2.out.trans (hb.mono (by omega)))
  have Ss_3 := Lib.hid (Ss_2.out.below hb (by omega))
  have Sg_3 := Lib.hid (Sg_2.out.below hb (by omega))
  clear hb HB2 Ss_2 Sg_2
  go_wp2_with fail
  refine (V.markM _ _ _ _ R _ w_2 _ HOg.out Sg_3.out (by omega) (by omega) (by omega) (by omega)).mono ?_
  rintro e w_4 ⟨m, rfl, hm, HM, ho, hc⟩
  have z4 : w_3.heap.size ≤ w_4.heap.size := Nat.le_of_eq hc.size.symm
  have HB4 := Lib.hid (HB3.out.trans (hc.below (fun k hk => Nat.le_trans (by omega) hk.1)))
  have Ss_4 := Lib.hid (Ss_3.out.chg hc (fun k h1 h2 h3 => by omega))
  have HN := Lib.hid ho
  clear HB3 Ss_3 Sg_3 HOg ho hc
  have HOg := HN
  clear HN
  have Sg_4 := Lib.hid (V.Same.refl w_1.heap.size w_4.heap.size w_4)
  go_wp2_with fail
  refine (V.heldM _ _ _ R _ m _ ((HOg.out.keep Sg_4.out).mat) (by omega) (by omega) (by omega) HM.out).mono ?_
  rintro e w' ⟨rfl, rfl⟩
  go_wp2_with fail
  refine (V.iReadMatrix _ _ hs0 (HX0.out.below HB4.out) (fun w' h => HT.out w' (HB4.out.trans (h.mono HB4.out.size))) (fun w' h => HN0.out w' (HB4.out.trans (h.mono HB4.out.size)))).mono ?_
  rintro e w_5 ⟨ha, hc', rfl, ho, hb⟩
  have z5 : w_4.heap.size ≤ w_5.heap.size := hb.size
  have HB5 := Lib.hid (HB4.out.trans (hb.mono (by omega)))
  have Ss_5 := Lib.hid (Ss_4.out.below hb (by omega))
  have Sg_5 := Lib.hid (Sg_4.out.below hb (by omega))
  clear hb HB4 Ss_4 Sg_4
  rw [← HRI.out] at ho ⊢
  have HOh := Lib.hid ho
  clear ho
  have Sh_5 := Lib.hid (V.Same.refl w_4.heap.size w_5.heap.size w_5)
  go_wp2_with fail
  refine (V.eqM _ _ _ _ _ _ _ _ ((HOh.out.keep Sh_5.out).mat) ((HOs.out.keep Ss_5.out).mat)).mono ?_
  rintro e w_6 ⟨rfl, hb⟩
  have z6 : w_5.heap.size ≤ w_6.heap.size := hb.size
  have HB6 := Lib.hid (HB5.out.trans (hb.mono (by omega)))
  have Sg_6 := Lib.hid (Sg_5.out.below hb (by omega))
  clear hb HB5 Ss_5 Sg_5 Sh_5
  go_wp2_with fail
  refine (V.heldM _ _ _ R _ m _ ((HOg.out.keep Sg_6.out).mat) (by omega) (by omega) (by omega) HM.out).mono ?_
  rintro e w' ⟨rfl, rfl⟩
  go_wp2
  go_ret
  exact ⟨rfl, HB6.out⟩
end Go.Proofs.YtlcjmcoljclpgaaDoor.fnExactReadMatrix
