/- The walk through the law: it returns true and writes nothing that was there. For every code: orbits, steady states and shifted vectors are those of their models; each element of an orbit is the matrix times the one before, and a steady state has the greatest element 0. -/
import Derived.Test.YtcofjjipjcekjabRows
import Derived.Test.YtcofjjipjcekjabQb1
import Derived.Test.YtcofjjipjcekjabQb2
import Derived.Test.YtcofjjipjcekjabQb4
import Derived.Test.YtcofjjipjcekjabQb9
import Derived.Test.YtcofjjipjcekjabQb11
import Derived.Test.YtcofjjipjcekjabQb15
import Derived.Test.YtcofjjipjcekjabQb8
import Derived.Test.YtcofjjipjcekjabQb7
import Derived.Test.YtcofjjipjcekjabQb17
import Derived.Test.YtcofjjipjcekjabQb16
import Derived.WalkKit
import Derived.ProofKit
import Derived.OpenShut
import Derived.ShutString
import Derived.ChangeOld
import Derived.Below
import Derived.Lib.SmallJoins
import Derived.Lib.Hide
import Derived.WalkSmall
import Derived.Deep.Draws
import Derived.Deep.QuietTactic
import Derived.BigQuiet
import Derived.Deep.OwnRows
import Derived.Deep.RegionWith
import Derived.Deep.RegionHeld3
set_option linter.unusedSimpArgs false
set_option linter.unusedVariables false
set_option linter.unusedSectionVars false
namespace Go.Proofs.Ytcofjjipjcekjab.fnOrbits
open Go.ChangeShapes Go.WideShapes Go.ChangeAt Go.RowKit
open Go.ChangeMaps (open_string shut_string)
set_option linter.unusedVariables false

set_option maxRecDepth 100000 in
set_option maxHeartbeats 4000000 in
theorem walk (a0 : Option Addr) (len0 cap0 : Nat) (z0 : List Int) (w : World) (w0 : V.IsRow .u8 w a0 len0 cap0 z0) :
    Calls Try.prog 3 #[.slice a0 len0 cap0] w fun e w' => e = .returned (.bool true) ∧ Below w.heap.size w w' := by
  have hB := w0.bytes
  have hm := hB.1
  by_cases hbig : 4096 < len0
  · have hd : decide (4096 < len0) = true := by simpa using hbig
    clear hB w0
    go_enter Try.func3, Try.ntmps3
    go_wp2_with (first | (go_at_call 14; refine (V.big _ _ _ _ hm).mono ?_; rintro e w' ⟨rfl, rfl⟩))
    go_ret
    exact ⟨rfl, Below.refl _ _⟩
  · have hd : decide (4096 < len0) = false := by simpa using hbig
    clear w0
    have HB := Lib.hid hB
    clear hB
    go_enter Try.func3, Try.ntmps3
    go_wp2_with (go_at_call 14; refine (V.big _ _ _ _ hm).mono ?_; rintro e w' ⟨rfl, rfl⟩)
    refine (V.drawOrbitOf _ _ _ _ HB.out).mono ?_
    rintro e w1 ⟨a, n, cap, R, b, N, c, l, Z, rfl, hA, hX, hb⟩
    have HA_1 := Lib.hid hA
    have HX_1 := Lib.hid hX
    have HP_1 := Lib.hid hb
    clear hb hA hX
    obtain ⟨orv, horv⟩ : ∃ v, v = M.orbRes R l Z := ⟨_, rfl⟩
    have HORV := Lib.hid horv
    have hstp := M.orb_step (R := R) (x := l) (n := Z)
    rw [← horv] at hstp
    clear horv
    obtain ⟨L, oc⟩ := orv
    go_wp2_with fail
    refine (V.orbitOf _ _ _ R _ _ _ l Z _ HA_1.out HX_1.out).mono ?_
    rintro e w2 ⟨la, ln, lc, rfl, ho, hb⟩
    rw [← HORV.out] at ho ⊢
    have ho : V.OwnM w2 w1.heap.size (.slice la ln lc) L := ho
    have HLn := Lib.hid ho.len
    have HL_2 := Lib.hid (ho)
    have HA_2 := Lib.hid (HA_1.out.below hb)
    have HX_2 := Lib.hid (HX_1.out.below hb)
    have HP_2 := Lib.hid (V.bnext HP_1.out hb)
    clear HA_1 HX_1 HP_1
    clear hb ho
    go_wp2_with fail
    refine (V.sOrbitOf _ _ _ R _ _ _ l Z _ HA_2.out HX_2.out).mono ?_
    rintro e w3 ⟨ma, mn, mc, rfl, ho, hb⟩
    rw [← HORV.out] at ho ⊢
    have HM_3 := Lib.hid (ho.mat)
    have HA_3 := Lib.hid (HA_2.out.below hb)
    have HX_3 := Lib.hid (HX_2.out.below hb)
    have HL_3 := Lib.hid (HL_2.out.below hb)
    have HP_3 := Lib.hid (V.bnext HP_2.out hb)
    clear HA_2 HX_2 HL_2 HP_2
    clear hb ho
    go_wp2_with fail
    refine (V.drawSteadyState _ _ _ _ (HB.out.below HP_3.out)).mono ?_
    rintro e w4 ⟨sa, sn, sc, Rs, ya, yn, yc, y, rfl, hA, hX, hb⟩
    have HS_4 := Lib.hid (hA)
    have HY_4 := Lib.hid (hX)
    have HA_4 := Lib.hid (HA_3.out.below hb)
    have HX_4 := Lib.hid (HX_3.out.below hb)
    have HL_4 := Lib.hid (HL_3.out.below hb)
    have HM_4 := Lib.hid (HM_3.out.below hb)
    have HP_4 := Lib.hid (V.bnext HP_3.out hb)
    clear HA_3 HX_3 HL_3 HM_3 HP_3
    clear hb hA hX
    obtain ⟨stv, hstv⟩ : ∃ v, v = M.stRes Rs y := ⟨_, rfl⟩
    have HSTV := Lib.hid hstv
    have hst := M.stRes_t (R := Rs) (x := y)
    rw [← hstv] at hst
    clear hstv
    obtain ⟨t, tc⟩ := stv
    go_wp2_with fail
    refine (V.steadyState _ _ _ Rs _ _ _ y _ HS_4.out HY_4.out).mono ?_
    rintro e w5 ⟨ta, tn, tcap, rfl, ho, hb⟩
    rw [← HSTV.out] at ho ⊢
    have HT_5 := Lib.hid (ho.ints')
    have HA_5 := Lib.hid (HA_4.out.below hb)
    have HX_5 := Lib.hid (HX_4.out.below hb)
    have HL_5 := Lib.hid (HL_4.out.below hb)
    have HM_5 := Lib.hid (HM_4.out.below hb)
    have HS_5 := Lib.hid (HS_4.out.below hb)
    have HY_5 := Lib.hid (HY_4.out.below hb)
    have HP_5 := Lib.hid (V.bnext HP_4.out hb)
    clear HA_4 HX_4 HL_4 HM_4 HS_4 HY_4 HP_4
    clear hb ho
    go_wp2_with fail
    refine (V.sSteadyState _ _ _ Rs _ _ _ y _ HS_5.out HY_5.out).mono ?_
    rintro e w6 ⟨ua, un, ucap, rfl, ho, hb⟩
    rw [← HSTV.out] at ho ⊢
    have HU_6 := Lib.hid (ho.ints')
    have HA_6 := Lib.hid (HA_5.out.below hb)
    have HX_6 := Lib.hid (HX_5.out.below hb)
    have HL_6 := Lib.hid (HL_5.out.below hb)
    have HM_6 := Lib.hid (HM_5.out.below hb)
    have HS_6 := Lib.hid (HS_5.out.below hb)
    have HY_6 := Lib.hid (HY_5.out.below hb)
    have HT_6 := Lib.hid (HT_5.out.below hb)
    have HP_6 := Lib.hid (V.bnext HP_5.out hb)
    clear HA_5 HX_5 HL_5 HM_5 HS_5 HY_5 HT_5 HP_5
    clear hb ho
    clear HS_6 HY_6
    go_wp2_with fail
    refine (V.drawShiftVector _ _ _ _ (HB.out.below HP_6.out)).mono ?_
    rintro e w7 ⟨za, zn, zc, z, gg, rfl, hX, hb⟩
    have HZ_7 := Lib.hid (hX)
    have HA_7 := Lib.hid (HA_6.out.below hb)
    have HX_7 := Lib.hid (HX_6.out.below hb)
    have HL_7 := Lib.hid (HL_6.out.below hb)
    have HM_7 := Lib.hid (HM_6.out.below hb)
    have HT_7 := Lib.hid (HT_6.out.below hb)
    have HU_7 := Lib.hid (HU_6.out.below hb)
    have HP_7 := Lib.hid (V.bnext HP_6.out hb)
    clear HA_6 HX_6 HL_6 HM_6 HT_6 HU_6 HP_6
    clear hb hX
    obtain ⟨shv, hshv⟩ : ∃ v, v = M.shvRes z gg := ⟨_, rfl⟩
    have HSHV := Lib.hid hshv
    clear hshv
    obtain ⟨sv, svc⟩ := shv
    go_wp2_with fail
    refine (V.shiftVector _ _ _ z gg _ HZ_7.out).mono ?_
    rintro e w8 ⟨va, vn, vcap, rfl, ho, hb⟩
    rw [← HSHV.out] at ho ⊢
    have HV_8 := Lib.hid (ho.ints')
    have HA_8 := Lib.hid (HA_7.out.below hb)
    have HX_8 := Lib.hid (HX_7.out.below hb)
    have HL_8 := Lib.hid (HL_7.out.below hb)
    have HM_8 := Lib.hid (HM_7.out.below hb)
    have HT_8 := Lib.hid (HT_7.out.below hb)
    have HU_8 := Lib.hid (HU_7.out.below hb)
    have HZ_8 := Lib.hid (HZ_7.out.below hb)
    have HP_8 := Lib.hid (V.bnext HP_7.out hb)
    clear HA_7 HX_7 HL_7 HM_7 HT_7 HU_7 HZ_7 HP_7
    clear hb ho
    go_wp2_with fail
    refine (V.sShiftVector _ _ _ z gg _ HZ_8.out).mono ?_
    rintro e w9 ⟨xa, xn, xcap, rfl, ho, hb⟩
    rw [← HSHV.out] at ho ⊢
    have HW_9 := Lib.hid (ho.ints')
    have HA_9 := Lib.hid (HA_8.out.below hb)
    have HX_9 := Lib.hid (HX_8.out.below hb)
    have HL_9 := Lib.hid (HL_8.out.below hb)
    have HM_9 := Lib.hid (HM_8.out.below hb)
    have HT_9 := Lib.hid (HT_8.out.below hb)
    have HU_9 := Lib.hid (HU_8.out.below hb)
    have HZ_9 := Lib.hid (HZ_8.out.below hb)
    have HV_9 := Lib.hid (HV_8.out.below hb)
    have HP_9 := Lib.hid (V.bnext HP_8.out hb)
    clear HA_8 HX_8 HL_8 HM_8 HT_8 HU_8 HZ_8 HV_8 HP_8
    clear hb ho
    clear HZ_9
    go_wp2_with fail
    refine (V.likeM _ _ _ L _ _ _ _ HL_9.out.mat HM_9.out).mono ?_
    rintro e w10 ⟨rfl, hb⟩
    have HA_10 := Lib.hid (HA_9.out.below hb)
    have HX_10 := Lib.hid (HX_9.out.below hb)
    have HL_10 := Lib.hid (HL_9.out.below hb)
    have HM_10 := Lib.hid (HM_9.out.below hb)
    have HT_10 := Lib.hid (HT_9.out.below hb)
    have HU_10 := Lib.hid (HU_9.out.below hb)
    have HV_10 := Lib.hid (HV_9.out.below hb)
    have HW_10 := Lib.hid (HW_9.out.below hb)
    have HP_10 := Lib.hid (V.bnext HP_9.out hb)
    clear HA_9 HX_9 HL_9 HM_9 HT_9 HU_9 HV_9 HW_9 HP_9
    clear hb 
    clear HM_10
    go_wp2_with fail
    refine (V.likeV _ _ _ t _ _ _ _ HT_10.out HU_10.out).mono ?_
    rintro e w11 ⟨rfl, hb⟩
    have HA_11 := Lib.hid (HA_10.out.below hb)
    have HX_11 := Lib.hid (HX_10.out.below hb)
    have HL_11 := Lib.hid (HL_10.out.below hb)
    have HT_11 := Lib.hid (HT_10.out.below hb)
    have HU_11 := Lib.hid (HU_10.out.below hb)
    have HV_11 := Lib.hid (HV_10.out.below hb)
    have HW_11 := Lib.hid (HW_10.out.below hb)
    have HP_11 := Lib.hid (V.bnext HP_10.out hb)
    clear HA_10 HX_10 HL_10 HT_10 HU_10 HV_10 HW_10 HP_10
    clear hb 
    clear HU_11
    go_wp2_with fail
    refine (V.likeV _ _ _ sv _ _ _ _ HV_11.out HW_11.out).mono ?_
    rintro e w12 ⟨rfl, hb⟩
    have HA_12 := Lib.hid (HA_11.out.below hb)
    have HX_12 := Lib.hid (HX_11.out.below hb)
    have HL_12 := Lib.hid (HL_11.out.below hb)
    have HT_12 := Lib.hid (HT_11.out.below hb)
    have HV_12 := Lib.hid (HV_11.out.below hb)
    have HW_12 := Lib.hid (HW_11.out.below hb)
    have HP_12 := Lib.hid (V.bnext HP_11.out hb)
    clear HA_11 HX_11 HL_11 HT_11 HV_11 HW_11 HP_11
    clear hb 
    clear HV_12 HW_12
    by_cases htc : tc = 0
    · subst htc
      obtain ⟨yy, hv1, hv2, hst2⟩ := hst rfl
      have ht : t = M.nrm yy := congrArg Prod.fst hst2
      have hsum := M.st_top hv2 hv1
      rw [← ht] at hsum
      clear hst hv1 hv2 hst2 ht HSTV
      rcases hsum with hsum | hsum
      · have HSum := Lib.hid hsum
        clear hsum
        go_wp2_with fail
        refine (V.sumOf _ _ _ t _ HT_12.out).mono ?_
        rintro e w' ⟨rfl, rfl⟩
        rw [HSum.out]
        clear HT_12
        by_cases hoc : oc = 0
        · subst hoc
          obtain ⟨z0, z1, hov, hstep⟩ := hstp rfl
          obtain ⟨Zn, rfl⟩ := Int.eq_ofNat_of_zero_le z0
          rw [Int.toNat_natCast] at hov hstep
          have hLe : L = M.orbL R l (Zn + 1) := congrArg Prod.fst hov
          have hLl : L.length = Zn + 1 := by rw [hLe]; exact M.orbL_len _ _ _
          have hL0 : L.getD 0 [] = l := by rw [hLe, M.orbL_get (by omega)]; rfl
          have HSt : Hid (∀ j, j < Zn → M.vecRes R (L.getD j []) = (L.getD (j + 1) [], 0)) := Lib.hid (fun j hj => by rw [hLe]; exact hstep j hj)
          have HL0 := Lib.hid hL0
          have hln2 : ln = Zn + 1 := HLn.out.trans hLl
          subst hln2
          clear hstp hov hstep hLe hLl hL0 HLn z0
          have HLm : Hid (V.OwnM w12 w1.heap.size (.slice la (Zn + 1) lc) L) := HL_12
          go_wp2
          go_loopw [24] (fun kv wr => ∃ j : Nat, j ≤ Zn ∧ kv = .int .i64 ((j : Int) + 1) ∧ Hid (Below w12.heap.size w12 wr)) (fun kv _ => Zn + 1 - (intOf kv).toNat)
          case atStart => exact ⟨0, Nat.zero_le _, by simp, Lib.hid (Below.refl _ _)⟩
          case round =>
            obtain ⟨j, hj, rfl, HBj⟩ := hrel
            obtain ⟨wo, rfl⟩ : ∃ x, x = wr := ⟨_, rfl⟩
            by_cases hlt : j < Zn
            · have hji : (j : Int) < (Zn : Int) := by omega
              obtain ⟨q, ra, rc, hqa, cr, hro⟩ := (HLm.out.below HBj.out).row j (by omega)
              subst hqa
              obtain ⟨q2, rb, rd, hqb, cs, hrs⟩ := (HLm.out.below HBj.out).row (j + 1) (by omega)
              have hqq : q = q2 := by simpa using hqb
              subst hqq
              have hv := HSt.out j hlt
              obtain ⟨r, hr⟩ : ∃ r, r = L.getD j [] := ⟨_, rfl⟩
              obtain ⟨r2, hr2⟩ : ∃ r, r = L.getD (j + 1) [] := ⟨_, rfl⟩
              rw [← hr] at cr hro hv
              rw [← hr2] at cs hrs hv
              have hql : q < wo.heap.size := V.cell_lt cr
              have HRo := Lib.hid hro.ints'
              have HRs := Lib.hid hrs.ints'
              have HVr := Lib.hid hv
              have HCs := Lib.hid cs
              clear hro hrs hv hr hr2 cs
              go_wp2_with fail
              refine (V.timesVector _ _ _ R _ _ _ r _ ((HA_12.out).below HBj.out) HRo.out).mono ?_
              rintro e wa ⟨ea, en, ec, rfl, ho, hb⟩
              rw [HVr.out] at ho ⊢
              have HN := Lib.hid ho.ints'
              have HBa := Lib.hid (V.bnext HBj.out hb)
              have cs : wa.cell? ⟨q, j + 1, none⟩ = some (.slice rb r2.length rd) := (hb.cell (p := ⟨q, j + 1, none⟩) hql).trans HCs.out
              have HRt := Lib.hid (HRs.out.below hb)
              clear ho hb cr HCs
              go_wp2_with fail
              refine (V.likeV _ _ _ r2 _ _ _ _ HN.out HRt.out).mono ?_
              rintro e wb ⟨rfl, hb⟩
              have HBb := Lib.hid (V.bnext HBa.out hb)
              clear hb
              go_wp2
              go_roundw
              case rel => exact ⟨j + 1, by omega, by go_num, HBb⟩
              case measure => simp [intOf]; omega
            · obtain rfl : j = Zn := by omega
              obtain ⟨q, ra, rc, hqa, cr, hro⟩ := (HLm.out.below HBj.out).row 0 (by omega)
              subst hqa
              rw [HL0.out] at cr hro
              have HXo := Lib.hid (HX_12.out.below HBj.out)
              have HRo := Lib.hid hro.ints'
              have HPo := Lib.hid (V.bnext HP_12.out HBj.out)
              have hj1 : IntKind.i64.wrap ((j : Int) + 1) = (j : Int) + 1 := IntWalk.i64_in _ (by omega)
              clear hro
              go_wp2_with fail
              refine (V.likeV _ _ _ l _ _ _ _ HRo.out HXo.out).mono ?_
              rintro e wb ⟨rfl, hb⟩
              have HPb := Lib.hid (V.bnext HPo.out hb)
              clear hb
              go_wp2
              go_ret
              exact ⟨rfl, HPb.out⟩
        · have hoc1 : (oc != 0) = true := by simpa using hoc
          go_wp2
          go_ret
          exact ⟨rfl, HP_12.out⟩
      · have HSum := Lib.hid hsum
        clear hsum
        go_wp2_with fail
        refine (V.sumOf _ _ _ t _ HT_12.out).mono ?_
        rintro e w' ⟨rfl, rfl⟩
        rw [HSum.out]
        clear HT_12
        by_cases hoc : oc = 0
        · subst hoc
          obtain ⟨z0, z1, hov, hstep⟩ := hstp rfl
          obtain ⟨Zn, rfl⟩ := Int.eq_ofNat_of_zero_le z0
          rw [Int.toNat_natCast] at hov hstep
          have hLe : L = M.orbL R l (Zn + 1) := congrArg Prod.fst hov
          have hLl : L.length = Zn + 1 := by rw [hLe]; exact M.orbL_len _ _ _
          have hL0 : L.getD 0 [] = l := by rw [hLe, M.orbL_get (by omega)]; rfl
          have HSt : Hid (∀ j, j < Zn → M.vecRes R (L.getD j []) = (L.getD (j + 1) [], 0)) := Lib.hid (fun j hj => by rw [hLe]; exact hstep j hj)
          have HL0 := Lib.hid hL0
          have hln2 : ln = Zn + 1 := HLn.out.trans hLl
          subst hln2
          clear hstp hov hstep hLe hLl hL0 HLn z0
          have HLm : Hid (V.OwnM w12 w1.heap.size (.slice la (Zn + 1) lc) L) := HL_12
          go_wp2
          go_loopw [24] (fun kv wr => ∃ j : Nat, j ≤ Zn ∧ kv = .int .i64 ((j : Int) + 1) ∧ Hid (Below w12.heap.size w12 wr)) (fun kv _ => Zn + 1 - (intOf kv).toNat)
          case atStart => exact ⟨0, Nat.zero_le _, by simp, Lib.hid (Below.refl _ _)⟩
          case round =>
            obtain ⟨j, hj, rfl, HBj⟩ := hrel
            obtain ⟨wo, rfl⟩ : ∃ x, x = wr := ⟨_, rfl⟩
            by_cases hlt : j < Zn
            · have hji : (j : Int) < (Zn : Int) := by omega
              obtain ⟨q, ra, rc, hqa, cr, hro⟩ := (HLm.out.below HBj.out).row j (by omega)
              subst hqa
              obtain ⟨q2, rb, rd, hqb, cs, hrs⟩ := (HLm.out.below HBj.out).row (j + 1) (by omega)
              have hqq : q = q2 := by simpa using hqb
              subst hqq
              have hv := HSt.out j hlt
              obtain ⟨r, hr⟩ : ∃ r, r = L.getD j [] := ⟨_, rfl⟩
              obtain ⟨r2, hr2⟩ : ∃ r, r = L.getD (j + 1) [] := ⟨_, rfl⟩
              rw [← hr] at cr hro hv
              rw [← hr2] at cs hrs hv
              have hql : q < wo.heap.size := V.cell_lt cr
              have HRo := Lib.hid hro.ints'
              have HRs := Lib.hid hrs.ints'
              have HVr := Lib.hid hv
              have HCs := Lib.hid cs
              clear hro hrs hv hr hr2 cs
              go_wp2_with fail
              refine (V.timesVector _ _ _ R _ _ _ r _ ((HA_12.out).below HBj.out) HRo.out).mono ?_
              rintro e wa ⟨ea, en, ec, rfl, ho, hb⟩
              rw [HVr.out] at ho ⊢
              have HN := Lib.hid ho.ints'
              have HBa := Lib.hid (V.bnext HBj.out hb)
              have cs : wa.cell? ⟨q, j + 1, none⟩ = some (.slice rb r2.length rd) := (hb.cell (p := ⟨q, j + 1, none⟩) hql).trans HCs.out
              have HRt := Lib.hid (HRs.out.below hb)
              clear ho hb cr HCs
              go_wp2_with fail
              refine (V.likeV _ _ _ r2 _ _ _ _ HN.out HRt.out).mono ?_
              rintro e wb ⟨rfl, hb⟩
              have HBb := Lib.hid (V.bnext HBa.out hb)
              clear hb
              go_wp2
              go_roundw
              case rel => exact ⟨j + 1, by omega, by go_num, HBb⟩
              case measure => simp [intOf]; omega
            · obtain rfl : j = Zn := by omega
              obtain ⟨q, ra, rc, hqa, cr, hro⟩ := (HLm.out.below HBj.out).row 0 (by omega)
              subst hqa
              rw [HL0.out] at cr hro
              have HXo := Lib.hid (HX_12.out.below HBj.out)
              have HRo := Lib.hid hro.ints'
              have HPo := Lib.hid (V.bnext HP_12.out HBj.out)
              have hj1 : IntKind.i64.wrap ((j : Int) + 1) = (j : Int) + 1 := IntWalk.i64_in _ (by omega)
              clear hro
              go_wp2_with fail
              refine (V.likeV _ _ _ l _ _ _ _ HRo.out HXo.out).mono ?_
              rintro e wb ⟨rfl, hb⟩
              have HPb := Lib.hid (V.bnext HPo.out hb)
              clear hb
              go_wp2
              go_ret
              exact ⟨rfl, HPb.out⟩
        · have hoc1 : (oc != 0) = true := by simpa using hoc
          go_wp2
          go_ret
          exact ⟨rfl, HP_12.out⟩
    · have htc1 : (tc == 0) = false := by simpa using htc
      clear hst HSTV
      clear HT_12
      by_cases hoc : oc = 0
      · subst hoc
        obtain ⟨z0, z1, hov, hstep⟩ := hstp rfl
        obtain ⟨Zn, rfl⟩ := Int.eq_ofNat_of_zero_le z0
        rw [Int.toNat_natCast] at hov hstep
        have hLe : L = M.orbL R l (Zn + 1) := congrArg Prod.fst hov
        have hLl : L.length = Zn + 1 := by rw [hLe]; exact M.orbL_len _ _ _
        have hL0 : L.getD 0 [] = l := by rw [hLe, M.orbL_get (by omega)]; rfl
        have HSt : Hid (∀ j, j < Zn → M.vecRes R (L.getD j []) = (L.getD (j + 1) [], 0)) := Lib.hid (fun j hj => by rw [hLe]; exact hstep j hj)
        have HL0 := Lib.hid hL0
        have hln2 : ln = Zn + 1 := HLn.out.trans hLl
        subst hln2
        clear hstp hov hstep hLe hLl hL0 HLn z0
        have HLm : Hid (V.OwnM w12 w1.heap.size (.slice la (Zn + 1) lc) L) := HL_12
        go_wp2
        go_loopw [24] (fun kv wr => ∃ j : Nat, j ≤ Zn ∧ kv = .int .i64 ((j : Int) + 1) ∧ Hid (Below w12.heap.size w12 wr)) (fun kv _ => Zn + 1 - (intOf kv).toNat)
        case atStart => exact ⟨0, Nat.zero_le _, by simp, Lib.hid (Below.refl _ _)⟩
        case round =>
          obtain ⟨j, hj, rfl, HBj⟩ := hrel
          obtain ⟨wo, rfl⟩ : ∃ x, x = wr := ⟨_, rfl⟩
          by_cases hlt : j < Zn
          · have hji : (j : Int) < (Zn : Int) := by omega
            obtain ⟨q, ra, rc, hqa, cr, hro⟩ := (HLm.out.below HBj.out).row j (by omega)
            subst hqa
            obtain ⟨q2, rb, rd, hqb, cs, hrs⟩ := (HLm.out.below HBj.out).row (j + 1) (by omega)
            have hqq : q = q2 := by simpa using hqb
            subst hqq
            have hv := HSt.out j hlt
            obtain ⟨r, hr⟩ : ∃ r, r = L.getD j [] := ⟨_, rfl⟩
            obtain ⟨r2, hr2⟩ : ∃ r, r = L.getD (j + 1) [] := ⟨_, rfl⟩
            rw [← hr] at cr hro hv
            rw [← hr2] at cs hrs hv
            have hql : q < wo.heap.size := V.cell_lt cr
            have HRo := Lib.hid hro.ints'
            have HRs := Lib.hid hrs.ints'
            have HVr := Lib.hid hv
            have HCs := Lib.hid cs
            clear hro hrs hv hr hr2 cs
            go_wp2_with fail
            refine (V.timesVector _ _ _ R _ _ _ r _ ((HA_12.out).below HBj.out) HRo.out).mono ?_
            rintro e wa ⟨ea, en, ec, rfl, ho, hb⟩
            rw [HVr.out] at ho ⊢
            have HN := Lib.hid ho.ints'
            have HBa := Lib.hid (V.bnext HBj.out hb)
            have cs : wa.cell? ⟨q, j + 1, none⟩ = some (.slice rb r2.length rd) := (hb.cell (p := ⟨q, j + 1, none⟩) hql).trans HCs.out
            have HRt := Lib.hid (HRs.out.below hb)
            clear ho hb cr HCs
            go_wp2_with fail
            refine (V.likeV _ _ _ r2 _ _ _ _ HN.out HRt.out).mono ?_
            rintro e wb ⟨rfl, hb⟩
            have HBb := Lib.hid (V.bnext HBa.out hb)
            clear hb
            go_wp2
            go_roundw
            case rel => exact ⟨j + 1, by omega, by go_num, HBb⟩
            case measure => simp [intOf]; omega
          · obtain rfl : j = Zn := by omega
            obtain ⟨q, ra, rc, hqa, cr, hro⟩ := (HLm.out.below HBj.out).row 0 (by omega)
            subst hqa
            rw [HL0.out] at cr hro
            have HXo := Lib.hid (HX_12.out.below HBj.out)
            have HRo := Lib.hid hro.ints'
            have HPo := Lib.hid (V.bnext HP_12.out HBj.out)
            have hj1 : IntKind.i64.wrap ((j : Int) + 1) = (j : Int) + 1 := IntWalk.i64_in _ (by omega)
            clear hro
            go_wp2_with fail
            refine (V.likeV _ _ _ l _ _ _ _ HRo.out HXo.out).mono ?_
            rintro e wb ⟨rfl, hb⟩
            have HPb := Lib.hid (V.bnext HPo.out hb)
            clear hb
            go_wp2
            go_ret
            exact ⟨rfl, HPb.out⟩
      · have hoc1 : (oc != 0) = true := by simpa using hoc
        go_wp2
        go_ret
        exact ⟨rfl, HP_12.out⟩
end Go.Proofs.Ytcofjjipjcekjab.fnOrbits
