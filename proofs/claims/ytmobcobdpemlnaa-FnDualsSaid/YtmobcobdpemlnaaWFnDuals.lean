/- The walk through the law: it returns true and writes nothing that was there. For every code: DualOf and IsDual answer as their models, a list of two that is a dual bounds the permanent, and the dual that is told has the permanent as its sum. -/
import Derived.Test.YtmobcobdpemlnaaRows
import Derived.Test.YtmobcobdpemlnaaQa1
import Derived.Test.YtmobcobdpemlnaaQa2
import Derived.Test.YtmobcobdpemlnaaQa20
import Derived.Test.YtmobcobdpemlnaaQa15
import Derived.Test.YtmobcobdpemlnaaQa16
import Derived.Test.YtmobcobdpemlnaaQa18
import Derived.Test.YtmobcobdpemlnaaQa21
import Derived.WalkKit
import Derived.ProofKit
import Derived.OpenShut
import Derived.ShutString
import Derived.ChangeOld
import Derived.Below
import Derived.Lib.SmallJoins
import Derived.Lib.Hide
import Derived.WalkSmall
import Derived.Deep.Draws
import Derived.Deep.QuietTactic
import Derived.BigQuiet
import Derived.Deep.OwnRows
import Derived.Deep.RegionWith
import Derived.Deep.RegionHeld3
set_option linter.unusedSimpArgs false
set_option linter.unusedVariables false
set_option linter.unusedSectionVars false
namespace Go.Proofs.Ytmobcobdpemlnaa.fnDuals
open Go.ChangeShapes Go.WideShapes Go.ChangeAt Go.RowKit
open Go.ChangeMaps (open_string shut_string)
set_option linter.unusedVariables false

set_option maxRecDepth 100000 in
set_option maxHeartbeats 4000000 in
theorem walk (a0 : Option Addr) (len0 cap0 : Nat) (z0 : List Int) (w : World) (w0 : V.IsRow .u8 w a0 len0 cap0 z0) :
    Calls Try.prog 3 #[.slice a0 len0 cap0] w fun e w' => e = .returned (.bool true) ∧ Below w.heap.size w w' := by
  have hB := w0.bytes
  have hm := hB.1
  by_cases hbig : 4096 < len0
  · have hd : decide (4096 < len0) = true := by simpa using hbig
    clear hB w0
    go_enter Try.func3, Try.ntmps3
    go_wp2_with (first | (go_at_call 11; refine (V.big _ _ _ _ hm).mono ?_; rintro e w' ⟨rfl, rfl⟩))
    go_ret
    exact ⟨rfl, Below.refl _ _⟩
  · have hd : decide (4096 < len0) = false := by simpa using hbig
    clear w0
    have HB := Lib.hid hB
    clear hB
    go_enter Try.func3, Try.ntmps3
    go_wp2_with (go_at_call 11; refine (V.big _ _ _ _ hm).mono ?_; rintro e w' ⟨rfl, rfl⟩)
    refine (V.drawDualOf _ _ _ _ HB.out).mono ?_
    rintro e w1 ⟨a, n, cap, R, rfl, hA, hb⟩
    have HA_1 := Lib.hid hA
    have HP_1 := Lib.hid hb
    clear hb hA
    obtain ⟨dv, hdv⟩ : ∃ v, v = M.dualRes R := ⟨_, rfl⟩
    have HDV := Lib.hid hdv
    obtain ⟨u, v, d⟩ := dv
    have HTold : Hid (d = 0 → M.dualB R u v = true ∧ M.sumI u + M.sumI v = (M.perm R).1 ∧ M.sqB R = true ∧ M.finL R.length u = true ∧ M.finL R.length v = true ∧ R.length ≤ 10) := fun q => M.dual_all (by rw [← hdv, q])
    clear hdv
    go_wp2_with fail
    refine (V.dualOf _ _ _ R _ HA_1.out).mono ?_
    rintro e w2 ⟨wm, ua, un, uc, va, vn, vc, rfl, ho1, hb1, ho2, hb2⟩
    rw [← HDV.out] at ho1 ho2 ⊢
    have hb := V.thn hb1 hb2
    have HU_2 := Lib.hid (ho1.ints'.below hb2)
    have HV_2 := Lib.hid (ho2.ints')
    have HA_2 := Lib.hid (HA_1.out.below hb)
    have HP_2 := Lib.hid (V.bnext HP_1.out hb)
    clear HA_1 HP_1
    clear hb ho1 ho2 hb1 hb2
    go_wp2_with fail
    refine (V.sDualOf _ _ _ R _ HA_2.out).mono ?_
    rintro e w3 ⟨wm, sa, sn, sc, ta, tn, tc, rfl, ho1, hb1, ho2, hb2⟩
    rw [← HDV.out] at ho1 ho2 ⊢
    have hb := V.thn hb1 hb2
    have HS_3 := Lib.hid (ho1.ints'.below hb2)
    have HT_3 := Lib.hid (ho2.ints')
    have HA_3 := Lib.hid (HA_2.out.below hb)
    have HU_3 := Lib.hid (HU_2.out.below hb)
    have HV_3 := Lib.hid (HV_2.out.below hb)
    have HP_3 := Lib.hid (V.bnext HP_2.out hb)
    clear HA_2 HU_2 HV_2 HP_2
    clear hb ho1 ho2 hb1 hb2
    go_wp2_with fail
    refine (V.drawIsDual _ _ _ _ (HB.out.below HP_3.out)).mono ?_
    rintro e w4 ⟨ba, bn, bc, Rb, xa, xn, xc, x, ya, yn, yc, y, rfl, hA, hX, hY, hb⟩
    have HM_4 := Lib.hid (hA)
    have HX_4 := Lib.hid (hX.1)
    have HY_4 := Lib.hid (hY.1)
    have HA_4 := Lib.hid (HA_3.out.below hb)
    have HU_4 := Lib.hid (HU_3.out.below hb)
    have HV_4 := Lib.hid (HV_3.out.below hb)
    have HS_4 := Lib.hid (HS_3.out.below hb)
    have HT_4 := Lib.hid (HT_3.out.below hb)
    have HP_4 := Lib.hid (V.bnext HP_3.out hb)
    clear HA_3 HU_3 HV_3 HS_3 HT_3 HP_3
    clear hb hA hX hY
    obtain ⟨iv, hiv⟩ : ∃ b, b = M.dualB Rb x y := ⟨_, rfl⟩
    have HIv := Lib.hid hiv
    clear hiv
    go_wp2_with fail
    refine (V.isDual _ _ _ Rb _ _ _ x _ _ _ y _ HM_4.out HX_4.out HY_4.out).mono ?_
    rintro e w5 ⟨rfl, hb⟩
    rw [← HIv.out]
    have HA_5 := Lib.hid (HA_4.out.below hb)
    have HU_5 := Lib.hid (HU_4.out.below hb)
    have HV_5 := Lib.hid (HV_4.out.below hb)
    have HS_5 := Lib.hid (HS_4.out.below hb)
    have HT_5 := Lib.hid (HT_4.out.below hb)
    have HM_5 := Lib.hid (HM_4.out.below hb)
    have HX_5 := Lib.hid (HX_4.out.below hb)
    have HY_5 := Lib.hid (HY_4.out.below hb)
    have HP_5 := Lib.hid (V.bnext HP_4.out hb)
    clear HA_4 HU_4 HV_4 HS_4 HT_4 HM_4 HX_4 HY_4 HP_4
    clear hb 
    go_wp2_with fail
    refine (V.likeV _ _ _ u _ _ _ _ HU_5.out HS_5.out).mono ?_
    rintro e w6 ⟨rfl, hb⟩
    have HA_6 := Lib.hid (HA_5.out.below hb)
    have HU_6 := Lib.hid (HU_5.out.below hb)
    have HV_6 := Lib.hid (HV_5.out.below hb)
    have HS_6 := Lib.hid (HS_5.out.below hb)
    have HT_6 := Lib.hid (HT_5.out.below hb)
    have HM_6 := Lib.hid (HM_5.out.below hb)
    have HX_6 := Lib.hid (HX_5.out.below hb)
    have HY_6 := Lib.hid (HY_5.out.below hb)
    have HP_6 := Lib.hid (V.bnext HP_5.out hb)
    clear HA_5 HU_5 HV_5 HS_5 HT_5 HM_5 HX_5 HY_5 HP_5
    clear hb 
    go_wp2_with fail
    refine (V.likeV _ _ _ v _ _ _ _ HV_6.out HT_6.out).mono ?_
    rintro e w7 ⟨rfl, hb⟩
    have HA_7 := Lib.hid (HA_6.out.below hb)
    have HU_7 := Lib.hid (HU_6.out.below hb)
    have HV_7 := Lib.hid (HV_6.out.below hb)
    have HS_7 := Lib.hid (HS_6.out.below hb)
    have HT_7 := Lib.hid (HT_6.out.below hb)
    have HM_7 := Lib.hid (HM_6.out.below hb)
    have HX_7 := Lib.hid (HX_6.out.below hb)
    have HY_7 := Lib.hid (HY_6.out.below hb)
    have HP_7 := Lib.hid (V.bnext HP_6.out hb)
    clear HA_6 HU_6 HV_6 HS_6 HT_6 HM_6 HX_6 HY_6 HP_6
    clear hb 
    clear HS_7 HT_7
    go_wp2_with fail
    refine (V.sIsDual _ _ _ Rb _ _ _ x _ _ _ y _ HM_7.out HX_7.out HY_7.out).mono ?_
    rintro e w8 ⟨rfl, hb⟩
    rw [← HIv.out]
    have HA_8 := Lib.hid (HA_7.out.below hb)
    have HU_8 := Lib.hid (HU_7.out.below hb)
    have HV_8 := Lib.hid (HV_7.out.below hb)
    have HM_8 := Lib.hid (HM_7.out.below hb)
    have HX_8 := Lib.hid (HX_7.out.below hb)
    have HY_8 := Lib.hid (HY_7.out.below hb)
    have HP_8 := Lib.hid (V.bnext HP_7.out hb)
    clear HA_7 HU_7 HV_7 HM_7 HX_7 HY_7 HP_7
    clear hb 
    cases iv
    · clear HIv
      by_cases hd0 : d = 0
      · obtain ⟨t1, t2, t3, t4, t5, t6⟩ := HTold.out hd0
        have T1 := Lib.hid t1
        have T2 := Lib.hid t2
        have hru : R.length = n := HA_8.out.1
        rw [hru] at t4 t5 t6
        clear hru
        have T4 := Lib.hid t4
        have T5 := Lib.hid t5
        have hub := M.sumI_bd t4 t6
        have hvb := M.sumI_bd t5 t6
        have HUn : Hid (n = un) := by show _ = _; have h1 := (M.finL_t t4).1; have h2 := HU_8.out.1; omega
        have HVn : Hid (n = vn) := by show _ = _; have h1 := (M.finL_t t5).1; have h2 := HV_8.out.1; omega
        have HPm : Hid ((M.permRes R = ((M.perm R).1, 0)) ∨ M.permRes R = (0, 3)) := M.permRes_two t3
        obtain ⟨su, hsu⟩ : ∃ s, s = M.sumI u := ⟨_, rfl⟩
        obtain ⟨sv, hsv⟩ : ∃ s, s = M.sumI v := ⟨_, rfl⟩
        rw [← hsu] at hub
        rw [← hsv] at hvb
        have HSu := Lib.hid hsu
        have HSv := Lib.hid hsv
        subst hd0
        clear hsu hsv t1 t2 t3 t4 t5
        obtain ⟨⟨qm, qc⟩, hq⟩ : ∃ q, q = M.permRes R := ⟨_, rfl⟩
        have HQ := Lib.hid hq
        clear hq
        go_wp2_with fail
        refine (V.permanentOf _ _ _ R _ HA_8.out).mono ?_
        rintro e w9 ⟨rfl, hb⟩
        rw [← HQ.out]
        have HA_9 := Lib.hid (HA_8.out.below hb)
        have HU_9 := Lib.hid (HU_8.out.below hb)
        have HV_9 := Lib.hid (HV_8.out.below hb)
        have HM_9 := Lib.hid (HM_8.out.below hb)
        have HX_9 := Lib.hid (HX_8.out.below hb)
        have HY_9 := Lib.hid (HY_8.out.below hb)
        have HP_9 := Lib.hid (V.bnext HP_8.out hb)
        clear HA_8 HU_8 HV_8 HM_8 HX_8 HY_8 HP_8
        clear hb 
        rcases HPm.out with h1 | h1
        · rw [← HQ.out] at h1
          injection h1 with h1 h2
          subst h2
          have hsum : su + sv = qm := by rw [h1, ← T2.out, HSu.out, HSv.out]
          clear h1
          go_wp2_with fail
          refine (V.isDual _ _ _ R _ _ _ u _ _ _ v _ HA_9.out HU_9.out HV_9.out).mono ?_
          rintro e w10 ⟨rfl, hb⟩
          rw [T1.out]
          have HA_10 := Lib.hid (HA_9.out.below hb)
          have HU_10 := Lib.hid (HU_9.out.below hb)
          have HV_10 := Lib.hid (HV_9.out.below hb)
          have HM_10 := Lib.hid (HM_9.out.below hb)
          have HX_10 := Lib.hid (HX_9.out.below hb)
          have HY_10 := Lib.hid (HY_9.out.below hb)
          have HP_10 := Lib.hid (V.bnext HP_9.out hb)
          clear HA_9 HU_9 HV_9 HM_9 HX_9 HY_9 HP_9
          clear hb 
          have hun := HUn.out
          subst hun
          go_wp2_with fail
          refine (V.sumInts _ n _ u _ HU_10.out T4.out t6).mono ?_
          rintro e w11 ⟨rfl, hb⟩
          rw [← HSu.out]
          have HA_11 := Lib.hid (HA_10.out.below hb)
          have HU_11 := Lib.hid (HU_10.out.below hb)
          have HV_11 := Lib.hid (HV_10.out.below hb)
          have HM_11 := Lib.hid (HM_10.out.below hb)
          have HX_11 := Lib.hid (HX_10.out.below hb)
          have HY_11 := Lib.hid (HY_10.out.below hb)
          have HP_11 := Lib.hid (V.bnext HP_10.out hb)
          clear HA_10 HU_10 HV_10 HM_10 HX_10 HY_10 HP_10
          clear hb 
          have hvn := HVn.out
          subst hvn
          go_wp2_with fail
          refine (V.sumInts _ n _ v _ HV_11.out T5.out t6).mono ?_
          rintro e w12 ⟨rfl, hb⟩
          rw [← HSv.out]
          have HA_12 := Lib.hid (HA_11.out.below hb)
          have HU_12 := Lib.hid (HU_11.out.below hb)
          have HV_12 := Lib.hid (HV_11.out.below hb)
          have HM_12 := Lib.hid (HM_11.out.below hb)
          have HX_12 := Lib.hid (HX_11.out.below hb)
          have HY_12 := Lib.hid (HY_11.out.below hb)
          have HP_12 := Lib.hid (V.bnext HP_11.out hb)
          clear HA_11 HU_11 HV_11 HM_11 HX_11 HY_11 HP_11
          clear hb 
          go_wp2
          go_ret
          exact ⟨by first | rfl | simp [hsum], HP_12.out⟩
        · rw [← HQ.out] at h1
          injection h1 with h1 h2
          subst h2
          clear h1
          go_wp2_with fail
          refine (V.isDual _ _ _ R _ _ _ u _ _ _ v _ HA_9.out HU_9.out HV_9.out).mono ?_
          rintro e w10 ⟨rfl, hb⟩
          rw [T1.out]
          have HA_10 := Lib.hid (HA_9.out.below hb)
          have HU_10 := Lib.hid (HU_9.out.below hb)
          have HV_10 := Lib.hid (HV_9.out.below hb)
          have HM_10 := Lib.hid (HM_9.out.below hb)
          have HX_10 := Lib.hid (HX_9.out.below hb)
          have HY_10 := Lib.hid (HY_9.out.below hb)
          have HP_10 := Lib.hid (V.bnext HP_9.out hb)
          clear HA_9 HU_9 HV_9 HM_9 HX_9 HY_9 HP_9
          clear hb 
          go_wp2
          go_ret
          exact ⟨rfl, HP_10.out⟩
      · have hd0b : (d != 0) = true := by simpa using hd0
        go_wp2
        go_ret
        exact ⟨rfl, HP_8.out⟩
    · have hbd := M.dual_bound HIv.out.symm
      obtain ⟨b1, b2, b3⟩ := M.dual_fin HIv.out.symm
      have hrb : Rb.length = bn := HM_8.out.1
      rw [hrb] at b1 b2 b3
      clear hrb
      have B1 := Lib.hid b1
      have B2 := Lib.hid b2
      have hxb := M.sumI_bd b1 b3
      have hyb := M.sumI_bd b2 b3
      have HXn : Hid (bn = xn) := by show _ = _; have h1 := (M.finL_t b1).1; have h2 := HX_8.out.1; omega
      have HYn : Hid (bn = yn) := by show _ = _; have h1 := (M.finL_t b2).1; have h2 := HY_8.out.1; omega
      obtain ⟨⟨pm, pc⟩, hp⟩ : ∃ q, q = M.permRes Rb := ⟨_, rfl⟩
      have HPr := Lib.hid hp
      have HPt : Hid (pc = 0 → pm = (M.perm Rb).1) := fun q => (M.permRes_t (by rw [← hp, q])).2
      obtain ⟨sx, hsx⟩ : ∃ s, s = M.sumI x := ⟨_, rfl⟩
      obtain ⟨sy, hsy⟩ : ∃ s, s = M.sumI y := ⟨_, rfl⟩
      rw [← hsx] at hxb hbd
      rw [← hsy] at hyb hbd
      have HSx := Lib.hid hsx
      have HSy := Lib.hid hsy
      have HBd := Lib.hid hbd
      clear hp hsx hsy b1 b2 hbd
      go_wp2_with fail
      refine (V.permanentOf _ _ _ Rb _ HM_8.out).mono ?_
      rintro e w9 ⟨rfl, hb⟩
      rw [← HPr.out]
      have HA_9 := Lib.hid (HA_8.out.below hb)
      have HU_9 := Lib.hid (HU_8.out.below hb)
      have HV_9 := Lib.hid (HV_8.out.below hb)
      have HM_9 := Lib.hid (HM_8.out.below hb)
      have HX_9 := Lib.hid (HX_8.out.below hb)
      have HY_9 := Lib.hid (HY_8.out.below hb)
      have HP_9 := Lib.hid (V.bnext HP_8.out hb)
      clear HA_8 HU_8 HV_8 HM_8 HX_8 HY_8 HP_8
      clear hb 
      by_cases hpc : pc = 0
      · have hlt : ¬ sx + sy < pm := by have h1 := HPt.out hpc; have h2 := HBd.out; omega
        subst hpc
        have hxn := HXn.out
        subst hxn
        go_wp2_with fail
        refine (V.sumInts _ bn _ x _ HX_9.out B1.out b3).mono ?_
        rintro e w10 ⟨rfl, hb⟩
        rw [← HSx.out]
        have HA_10 := Lib.hid (HA_9.out.below hb)
        have HU_10 := Lib.hid (HU_9.out.below hb)
        have HV_10 := Lib.hid (HV_9.out.below hb)
        have HM_10 := Lib.hid (HM_9.out.below hb)
        have HX_10 := Lib.hid (HX_9.out.below hb)
        have HY_10 := Lib.hid (HY_9.out.below hb)
        have HP_10 := Lib.hid (V.bnext HP_9.out hb)
        clear HA_9 HU_9 HV_9 HM_9 HX_9 HY_9 HP_9
        clear hb 
        have hyn := HYn.out
        subst hyn
        go_wp2_with fail
        refine (V.sumInts _ bn _ y _ HY_10.out B2.out b3).mono ?_
        rintro e w11 ⟨rfl, hb⟩
        rw [← HSy.out]
        have HA_11 := Lib.hid (HA_10.out.below hb)
        have HU_11 := Lib.hid (HU_10.out.below hb)
        have HV_11 := Lib.hid (HV_10.out.below hb)
        have HM_11 := Lib.hid (HM_10.out.below hb)
        have HX_11 := Lib.hid (HX_10.out.below hb)
        have HY_11 := Lib.hid (HY_10.out.below hb)
        have HP_11 := Lib.hid (V.bnext HP_10.out hb)
        clear HA_10 HU_10 HV_10 HM_10 HX_10 HY_10 HP_10
        clear hb 
        have hltb : decide (sx + sy < pm) = false := decide_eq_false (show ¬ sx + sy < pm by omega)
        by_cases hd0 : d = 0
        · obtain ⟨t1, t2, t3, t4, t5, t6⟩ := HTold.out hd0
          have T1 := Lib.hid t1
          have T2 := Lib.hid t2
          have hru : R.length = n := HA_11.out.1
          rw [hru] at t4 t5 t6
          clear hru
          have T4 := Lib.hid t4
          have T5 := Lib.hid t5
          have hub := M.sumI_bd t4 t6
          have hvb := M.sumI_bd t5 t6
          have HUn : Hid (n = un) := by show _ = _; have h1 := (M.finL_t t4).1; have h2 := HU_11.out.1; omega
          have HVn : Hid (n = vn) := by show _ = _; have h1 := (M.finL_t t5).1; have h2 := HV_11.out.1; omega
          have HPm : Hid ((M.permRes R = ((M.perm R).1, 0)) ∨ M.permRes R = (0, 3)) := M.permRes_two t3
          obtain ⟨su, hsu⟩ : ∃ s, s = M.sumI u := ⟨_, rfl⟩
          obtain ⟨sv, hsv⟩ : ∃ s, s = M.sumI v := ⟨_, rfl⟩
          rw [← hsu] at hub
          rw [← hsv] at hvb
          have HSu := Lib.hid hsu
          have HSv := Lib.hid hsv
          subst hd0
          clear hsu hsv t1 t2 t3 t4 t5
          obtain ⟨⟨qm, qc⟩, hq⟩ : ∃ q, q = M.permRes R := ⟨_, rfl⟩
          have HQ := Lib.hid hq
          clear hq
          go_wp2_with fail
          refine (V.permanentOf _ _ _ R _ HA_11.out).mono ?_
          rintro e w12 ⟨rfl, hb⟩
          rw [← HQ.out]
          have HA_12 := Lib.hid (HA_11.out.below hb)
          have HU_12 := Lib.hid (HU_11.out.below hb)
          have HV_12 := Lib.hid (HV_11.out.below hb)
          have HM_12 := Lib.hid (HM_11.out.below hb)
          have HX_12 := Lib.hid (HX_11.out.below hb)
          have HY_12 := Lib.hid (HY_11.out.below hb)
          have HP_12 := Lib.hid (V.bnext HP_11.out hb)
          clear HA_11 HU_11 HV_11 HM_11 HX_11 HY_11 HP_11
          clear hb 
          rcases HPm.out with h1 | h1
          · rw [← HQ.out] at h1
            injection h1 with h1 h2
            subst h2
            have hsum : su + sv = qm := by rw [h1, ← T2.out, HSu.out, HSv.out]
            clear h1
            go_wp2_with fail
            refine (V.isDual _ _ _ R _ _ _ u _ _ _ v _ HA_12.out HU_12.out HV_12.out).mono ?_
            rintro e w13 ⟨rfl, hb⟩
            rw [T1.out]
            have HA_13 := Lib.hid (HA_12.out.below hb)
            have HU_13 := Lib.hid (HU_12.out.below hb)
            have HV_13 := Lib.hid (HV_12.out.below hb)
            have HM_13 := Lib.hid (HM_12.out.below hb)
            have HX_13 := Lib.hid (HX_12.out.below hb)
            have HY_13 := Lib.hid (HY_12.out.below hb)
            have HP_13 := Lib.hid (V.bnext HP_12.out hb)
            clear HA_12 HU_12 HV_12 HM_12 HX_12 HY_12 HP_12
            clear hb 
            have hun := HUn.out
            subst hun
            go_wp2_with fail
            refine (V.sumInts _ n _ u _ HU_13.out T4.out t6).mono ?_
            rintro e w14 ⟨rfl, hb⟩
            rw [← HSu.out]
            have HA_14 := Lib.hid (HA_13.out.below hb)
            have HU_14 := Lib.hid (HU_13.out.below hb)
            have HV_14 := Lib.hid (HV_13.out.below hb)
            have HM_14 := Lib.hid (HM_13.out.below hb)
            have HX_14 := Lib.hid (HX_13.out.below hb)
            have HY_14 := Lib.hid (HY_13.out.below hb)
            have HP_14 := Lib.hid (V.bnext HP_13.out hb)
            clear HA_13 HU_13 HV_13 HM_13 HX_13 HY_13 HP_13
            clear hb 
            have hvn := HVn.out
            subst hvn
            go_wp2_with fail
            refine (V.sumInts _ n _ v _ HV_14.out T5.out t6).mono ?_
            rintro e w15 ⟨rfl, hb⟩
            rw [← HSv.out]
            have HA_15 := Lib.hid (HA_14.out.below hb)
            have HU_15 := Lib.hid (HU_14.out.below hb)
            have HV_15 := Lib.hid (HV_14.out.below hb)
            have HM_15 := Lib.hid (HM_14.out.below hb)
            have HX_15 := Lib.hid (HX_14.out.below hb)
            have HY_15 := Lib.hid (HY_14.out.below hb)
            have HP_15 := Lib.hid (V.bnext HP_14.out hb)
            clear HA_14 HU_14 HV_14 HM_14 HX_14 HY_14 HP_14
            clear hb 
            go_wp2
            go_ret
            exact ⟨by first | rfl | simp [hsum], HP_15.out⟩
          · rw [← HQ.out] at h1
            injection h1 with h1 h2
            subst h2
            clear h1
            go_wp2_with fail
            refine (V.isDual _ _ _ R _ _ _ u _ _ _ v _ HA_12.out HU_12.out HV_12.out).mono ?_
            rintro e w13 ⟨rfl, hb⟩
            rw [T1.out]
            have HA_13 := Lib.hid (HA_12.out.below hb)
            have HU_13 := Lib.hid (HU_12.out.below hb)
            have HV_13 := Lib.hid (HV_12.out.below hb)
            have HM_13 := Lib.hid (HM_12.out.below hb)
            have HX_13 := Lib.hid (HX_12.out.below hb)
            have HY_13 := Lib.hid (HY_12.out.below hb)
            have HP_13 := Lib.hid (V.bnext HP_12.out hb)
            clear HA_12 HU_12 HV_12 HM_12 HX_12 HY_12 HP_12
            clear hb 
            go_wp2
            go_ret
            exact ⟨rfl, HP_13.out⟩
        · have hd0b : (d != 0) = true := by simpa using hd0
          go_wp2
          go_ret
          exact ⟨rfl, HP_11.out⟩
      · have hpcb : (pc == 0) = false := by simpa using hpc
        by_cases hd0 : d = 0
        · obtain ⟨t1, t2, t3, t4, t5, t6⟩ := HTold.out hd0
          have T1 := Lib.hid t1
          have T2 := Lib.hid t2
          have hru : R.length = n := HA_9.out.1
          rw [hru] at t4 t5 t6
          clear hru
          have T4 := Lib.hid t4
          have T5 := Lib.hid t5
          have hub := M.sumI_bd t4 t6
          have hvb := M.sumI_bd t5 t6
          have HUn : Hid (n = un) := by show _ = _; have h1 := (M.finL_t t4).1; have h2 := HU_9.out.1; omega
          have HVn : Hid (n = vn) := by show _ = _; have h1 := (M.finL_t t5).1; have h2 := HV_9.out.1; omega
          have HPm : Hid ((M.permRes R = ((M.perm R).1, 0)) ∨ M.permRes R = (0, 3)) := M.permRes_two t3
          obtain ⟨su, hsu⟩ : ∃ s, s = M.sumI u := ⟨_, rfl⟩
          obtain ⟨sv, hsv⟩ : ∃ s, s = M.sumI v := ⟨_, rfl⟩
          rw [← hsu] at hub
          rw [← hsv] at hvb
          have HSu := Lib.hid hsu
          have HSv := Lib.hid hsv
          subst hd0
          clear hsu hsv t1 t2 t3 t4 t5
          obtain ⟨⟨qm, qc⟩, hq⟩ : ∃ q, q = M.permRes R := ⟨_, rfl⟩
          have HQ := Lib.hid hq
          clear hq
          go_wp2_with fail
          refine (V.permanentOf _ _ _ R _ HA_9.out).mono ?_
          rintro e w10 ⟨rfl, hb⟩
          rw [← HQ.out]
          have HA_10 := Lib.hid (HA_9.out.below hb)
          have HU_10 := Lib.hid (HU_9.out.below hb)
          have HV_10 := Lib.hid (HV_9.out.below hb)
          have HM_10 := Lib.hid (HM_9.out.below hb)
          have HX_10 := Lib.hid (HX_9.out.below hb)
          have HY_10 := Lib.hid (HY_9.out.below hb)
          have HP_10 := Lib.hid (V.bnext HP_9.out hb)
          clear HA_9 HU_9 HV_9 HM_9 HX_9 HY_9 HP_9
          clear hb 
          rcases HPm.out with h1 | h1
          · rw [← HQ.out] at h1
            injection h1 with h1 h2
            subst h2
            have hsum : su + sv = qm := by rw [h1, ← T2.out, HSu.out, HSv.out]
            clear h1
            go_wp2_with fail
            refine (V.isDual _ _ _ R _ _ _ u _ _ _ v _ HA_10.out HU_10.out HV_10.out).mono ?_
            rintro e w11 ⟨rfl, hb⟩
            rw [T1.out]
            have HA_11 := Lib.hid (HA_10.out.below hb)
            have HU_11 := Lib.hid (HU_10.out.below hb)
            have HV_11 := Lib.hid (HV_10.out.below hb)
            have HM_11 := Lib.hid (HM_10.out.below hb)
            have HX_11 := Lib.hid (HX_10.out.below hb)
            have HY_11 := Lib.hid (HY_10.out.below hb)
            have HP_11 := Lib.hid (V.bnext HP_10.out hb)
            clear HA_10 HU_10 HV_10 HM_10 HX_10 HY_10 HP_10
            clear hb 
            have hun := HUn.out
            subst hun
            go_wp2_with fail
            refine (V.sumInts _ n _ u _ HU_11.out T4.out t6).mono ?_
            rintro e w12 ⟨rfl, hb⟩
            rw [← HSu.out]
            have HA_12 := Lib.hid (HA_11.out.below hb)
            have HU_12 := Lib.hid (HU_11.out.below hb)
            have HV_12 := Lib.hid (HV_11.out.below hb)
            have HM_12 := Lib.hid (HM_11.out.below hb)
            have HX_12 := Lib.hid (HX_11.out.below hb)
            have HY_12 := Lib.hid (HY_11.out.below hb)
            have HP_12 := Lib.hid (V.bnext HP_11.out hb)
            clear HA_11 HU_11 HV_11 HM_11 HX_11 HY_11 HP_11
            clear hb 
            have hvn := HVn.out
            subst hvn
            go_wp2_with fail
            refine (V.sumInts _ n _ v _ HV_12.out T5.out t6).mono ?_
            rintro e w13 ⟨rfl, hb⟩
            rw [← HSv.out]
            have HA_13 := Lib.hid (HA_12.out.below hb)
            have HU_13 := Lib.hid (HU_12.out.below hb)
            have HV_13 := Lib.hid (HV_12.out.below hb)
            have HM_13 := Lib.hid (HM_12.out.below hb)
            have HX_13 := Lib.hid (HX_12.out.below hb)
            have HY_13 := Lib.hid (HY_12.out.below hb)
            have HP_13 := Lib.hid (V.bnext HP_12.out hb)
            clear HA_12 HU_12 HV_12 HM_12 HX_12 HY_12 HP_12
            clear hb 
            go_wp2
            go_ret
            exact ⟨by first | rfl | simp [hsum], HP_13.out⟩
          · rw [← HQ.out] at h1
            injection h1 with h1 h2
            subst h2
            clear h1
            go_wp2_with fail
            refine (V.isDual _ _ _ R _ _ _ u _ _ _ v _ HA_10.out HU_10.out HV_10.out).mono ?_
            rintro e w11 ⟨rfl, hb⟩
            rw [T1.out]
            have HA_11 := Lib.hid (HA_10.out.below hb)
            have HU_11 := Lib.hid (HU_10.out.below hb)
            have HV_11 := Lib.hid (HV_10.out.below hb)
            have HM_11 := Lib.hid (HM_10.out.below hb)
            have HX_11 := Lib.hid (HX_10.out.below hb)
            have HY_11 := Lib.hid (HY_10.out.below hb)
            have HP_11 := Lib.hid (V.bnext HP_10.out hb)
            clear HA_10 HU_10 HV_10 HM_10 HX_10 HY_10 HP_10
            clear hb 
            go_wp2
            go_ret
            exact ⟨rfl, HP_11.out⟩
        · have hd0b : (d != 0) = true := by simpa using hd0
          go_wp2
          go_ret
          exact ⟨rfl, HP_9.out⟩
end Go.Proofs.Ytmobcobdpemlnaa.fnDuals
