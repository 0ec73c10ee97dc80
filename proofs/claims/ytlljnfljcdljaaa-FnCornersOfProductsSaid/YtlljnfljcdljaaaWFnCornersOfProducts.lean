/- The walk through the law: it returns true and writes nothing that was there. For every code: products and corners of polynomials are those of their models; a corner of a product counts as often as in both factors together. -/
import Derived.Test.YtlljnfljcdljaaaRows
import Derived.Test.YtlljnfljcdljaaaQa1
import Derived.Test.YtlljnfljcdljaaaQa11
import Derived.Test.YtlljnfljcdljaaaQa21
import Derived.Test.YtlljnfljcdljaaaQa20
import Derived.Test.YtlljnfljcdljaaaQa23
import Derived.Test.YtlljnfljcdljaaaQa30
import Derived.Test.YtlljnfljcdljaaaQa33
import Derived.Test.YtlljnfljcdljaaaQa35
import Derived.Test.YtlljnfljcdljaaaQa32
import Derived.WalkKit
import Derived.ProofKit
import Derived.OpenShut
import Derived.ShutString
import Derived.ChangeOld
import Derived.Below
import Derived.Lib.SmallJoins
import Derived.Lib.Hide
import Derived.WalkSmall
import Derived.Deep.Draws
import Derived.Deep.QuietTactic
import Derived.BigQuiet
import Derived.Deep.OwnRows
import Derived.Deep.RegionWith
import Derived.Deep.RegionHeld3
set_option linter.unusedSimpArgs false
set_option linter.unusedVariables false
set_option linter.unusedSectionVars false
namespace Go.Proofs.Ytlljnfljcdljaaa.fnCornersOfProducts
open Go.ChangeShapes Go.WideShapes Go.ChangeAt Go.RowKit
open Go.ChangeMaps (open_string shut_string)
set_option linter.unusedVariables false

set_option maxRecDepth 100000 in
set_option maxHeartbeats 4000000 in
theorem walk (a0 : Option Addr) (len0 cap0 : Nat) (z0 : List Int) (w : World) (w0 : V.IsRow .u8 w a0 len0 cap0 z0) :
    Calls Try.prog 4 #[.slice a0 len0 cap0] w fun e w' => e = .returned (.bool true) ∧ Below w.heap.size w w' := by
  have hB := w0.bytes
  have hm := hB.1
  by_cases hbig : 4096 < len0
  · have hd : decide (4096 < len0) = true := by simpa using hbig
    clear hB w0
    go_enter Try.func4, Try.ntmps4
    go_wp2_with (first | (go_at_call 14; refine (V.big _ _ _ _ hm).mono ?_; rintro e w' ⟨rfl, rfl⟩))
    go_ret
    exact ⟨rfl, Below.refl _ _⟩
  · have hd : decide (4096 < len0) = false := by simpa using hbig
    clear w0
    have HB := Lib.hid hB
    clear hB
    go_enter Try.func4, Try.ntmps4
    go_wp2_with (go_at_call 14; refine (V.big _ _ _ _ hm).mono ?_; rintro e w' ⟨rfl, rfl⟩)
    refine (V.drawMultiplyPolynomials _ _ _ _ HB.out).mono ?_
    rintro e w1 ⟨ca, cn, cc, c, da, dn, dc, d, rfl, hA, hX, hb⟩
    have HC_1 := Lib.hid hA
    have HD_1 := Lib.hid hX
    have HP_1 := Lib.hid hb
    clear hb hA hX
    obtain ⟨pv, hpv⟩ : ∃ v, v = M.mulPRes c d := ⟨_, rfl⟩
    have HPV := Lib.hid hpv
    clear hpv
    obtain ⟨q, qc⟩ := pv
    go_wp2_with fail
    refine (V.multiplyPolynomials _ _ _ c _ _ _ d _ HC_1.out HD_1.out).mono ?_
    rintro e w2 ⟨a3a, a3n, a3c, rfl, ho, hb⟩
    rw [← HPV.out] at ho ⊢
    have HQ_2 := Lib.hid (ho.ints')
    have HC_2 := Lib.hid (HC_1.out.below hb)
    have HD_2 := Lib.hid (HD_1.out.below hb)
    have HP_2 := Lib.hid (V.bnext HP_1.out hb)
    clear HC_1 HD_1 HP_1
    clear hb ho
    go_wp2_with fail
    refine (V.sMultiplyPolynomials _ _ _ c _ _ _ d _ HC_2.out HD_2.out).mono ?_
    rintro e w3 ⟨a4a, a4n, a4c, rfl, ho, hb⟩
    rw [← HPV.out] at ho ⊢
    have HR_3 := Lib.hid (ho.ints')
    have HC_3 := Lib.hid (HC_2.out.below hb)
    have HD_3 := Lib.hid (HD_2.out.below hb)
    have HQ_3 := Lib.hid (HQ_2.out.below hb)
    have HP_3 := Lib.hid (V.bnext HP_2.out hb)
    clear HC_2 HD_2 HQ_2 HP_2
    clear hb ho
    go_wp2_with fail
    refine (V.drawCornersOf _ _ _ _ (HB.out.below HP_3.out)).mono ?_
    rintro e w4 ⟨ea, en, ec, el, rfl, hX, hb⟩
    have HE_4 := Lib.hid (hX)
    have HC_4 := Lib.hid (HC_3.out.below hb)
    have HD_4 := Lib.hid (HD_3.out.below hb)
    have HQ_4 := Lib.hid (HQ_3.out.below hb)
    have HR_4 := Lib.hid (HR_3.out.below hb)
    have HP_4 := Lib.hid (V.bnext HP_3.out hb)
    clear HC_3 HD_3 HQ_3 HR_3 HP_3
    clear hb hX
    obtain ⟨ev, hev⟩ : ∃ v, v = M.cornRes el := ⟨_, rfl⟩
    have hel := M.cornRes_len el
    rw [← hev] at hel
    have HEV := Lib.hid hev
    clear hev
    obtain ⟨E, ev2⟩ := ev
    have HEL := Lib.hid (show E.length ≤ 12 from hel)
    clear hel
    go_wp2_with fail
    refine (V.cornersOf _ _ _ el _ HE_4.out).mono ?_
    rintro e w5 ⟨b1a, b1n, b1c, rfl, ho, hb⟩
    rw [← HEV.out] at ho ⊢
    have HX_5 := Lib.hid (ho)
    have HC_5 := Lib.hid (HC_4.out.below hb)
    have HD_5 := Lib.hid (HD_4.out.below hb)
    have HQ_5 := Lib.hid (HQ_4.out.below hb)
    have HR_5 := Lib.hid (HR_4.out.below hb)
    have HE_5 := Lib.hid (HE_4.out.below hb)
    have HP_5 := Lib.hid (V.bnext HP_4.out hb)
    clear HC_4 HD_4 HQ_4 HR_4 HE_4 HP_4
    clear hb ho
    go_wp2_with fail
    refine (V.sCornersOf _ _ _ el _ HE_5.out).mono ?_
    rintro e w6 ⟨b2a, b2n, b2c, rfl, ho, hb⟩
    rw [← HEV.out] at ho ⊢
    have HY_6 := Lib.hid (ho)
    have HC_6 := Lib.hid (HC_5.out.below hb)
    have HD_6 := Lib.hid (HD_5.out.below hb)
    have HQ_6 := Lib.hid (HQ_5.out.below hb)
    have HR_6 := Lib.hid (HR_5.out.below hb)
    have HE_6 := Lib.hid (HE_5.out.below hb)
    have HX_6 := Lib.hid (HX_5.out.below hb)
    have HP_6 := Lib.hid (V.bnext HP_5.out hb)
    clear HC_5 HD_5 HQ_5 HR_5 HE_5 HX_5 HP_5
    clear hb ho
    clear HE_6
    have hxn : b1n = E.length := HX_6.out.len
    have hyn : b2n = E.length := HY_6.out.len
    obtain rfl : b1n = b2n := by omega
    clear hyn
    have hx12 : b1n ≤ 12 := by have := HEL.out; omega
    go_wp2_with fail
    refine (V.likeV _ _ _ q _ _ _ _ HQ_6.out HR_6.out).mono ?_
    rintro e w7 ⟨rfl, hb⟩
    have HC_7 := Lib.hid (HC_6.out.below hb)
    have HD_7 := Lib.hid (HD_6.out.below hb)
    have HQ_7 := Lib.hid (HQ_6.out.below hb)
    have HR_7 := Lib.hid (HR_6.out.below hb)
    have HX_7 := Lib.hid (HX_6.out.below hb)
    have HY_7 := Lib.hid (HY_6.out.below hb)
    have HP_7 := Lib.hid (V.bnext HP_6.out hb)
    clear HC_6 HD_6 HQ_6 HR_6 HX_6 HY_6 HP_6
    clear hb 
    clear HR_7
    go_wp2
    go_loopw [14] (fun iv wr => ∃ j : Nat, j ≤ b1n ∧ iv = .int .i64 j ∧ Hid (Below w7.heap.size w7 wr)) (fun iv _ => b1n - (intOf iv).toNat)
    case atStart => exact ⟨0, Nat.zero_le _, rfl, Below.refl _ _⟩
    case round =>
      obtain ⟨j, hj, rfl, HBj⟩ := hrel
      obtain ⟨wo, rfl⟩ : ∃ x, x = wr := ⟨_, rfl⟩
      by_cases hlt : j < b1n
      · have hji : (j : Int) < (b1n : Int) := by omega
        obtain ⟨g1, x1, x2, x3, rfl, hx, hcx⟩ := HX_7.out.loads hlt
        obtain ⟨g2, y1, y2, y3, rfl, hy, hcy⟩ := HY_7.out.loads hlt
        have hxy := hx.trans hy.symm
        injection hxy with q1 q2
        injection q2 with q2 q3
        subst q1 q2 q3
        obtain ⟨c1, c2, c3⟩ := hcx _ HBj.out
        obtain ⟨d1, d2, d3⟩ := hcy _ HBj.out
        clear hcx hcy hx hy
        go_wp2
        go_quiet (fail)
        go_wp2
        go_roundw
        case rel => exact ⟨j + 1, by omega, by go_num, V.bnext HBj.out (V.b_draws _ _)⟩
        case measure => simp [intOf]; omega
      · obtain rfl : j = b1n := by omega
        have hb := HBj.out
        have HC_8 := Lib.hid (HC_7.out.below hb)
        have HD_8 := Lib.hid (HD_7.out.below hb)
        have HQ_8 := Lib.hid (HQ_7.out.below hb)
        have HP_8 := Lib.hid (V.bnext HP_7.out hb)
        clear hb HX_7 HY_7 HC_7 HD_7 HQ_7 HP_7
        by_cases h0 : qc = 0
        · subst h0
          obtain ⟨vA, hvA⟩ : ∃ v, v = M.cornRes c := ⟨_, rfl⟩
          have HVA := Lib.hid hvA
          clear hvA
          obtain ⟨LA, kA⟩ := vA
          obtain ⟨vB, hvB⟩ : ∃ v, v = M.cornRes d := ⟨_, rfl⟩
          have HVB := Lib.hid hvB
          clear hvB
          obtain ⟨LB, kB⟩ := vB
          obtain ⟨vY, hvY⟩ : ∃ v, v = M.cornRes q := ⟨_, rfl⟩
          have HVY := Lib.hid hvY
          clear hvY
          obtain ⟨LY, kY⟩ := vY
          have hlw : kA = 0 → kB = 0 → kY = 0 → _ := fun h1 h2 h3 => M.cp_law (c := c) (d := d) (p := q) (A := LA) (B := LB) (Y := LY) (HPV.out.symm) (by rw [← h1]; exact HVA.out.symm) (by rw [← h2]; exact HVB.out.symm) (by rw [← h3]; exact HVY.out.symm)
          have HLaw := Lib.hid hlw
          clear hlw
          go_wp2_with fail
          refine (V.cornersOf _ _ _ c _ HC_8.out).mono ?_
          rintro e w9 ⟨aA, nA, cA, rfl, ho, hb⟩
          rw [← HVA.out] at ho ⊢
          have HLA_9 := Lib.hid (ho)
          have HC_9 := Lib.hid (HC_8.out.below hb)
          have HD_9 := Lib.hid (HD_8.out.below hb)
          have HQ_9 := Lib.hid (HQ_8.out.below hb)
          have HP_9 := Lib.hid (V.bnext HP_8.out hb)
          clear HC_8 HD_8 HQ_8 HP_8
          clear hb ho
          go_wp2_with fail
          refine (V.cornersOf _ _ _ d _ HD_9.out).mono ?_
          rintro e w10 ⟨aB, nB, cB, rfl, ho, hb⟩
          rw [← HVB.out] at ho ⊢
          have HLB_10 := Lib.hid (ho)
          have HC_10 := Lib.hid (HC_9.out.below hb)
          have HD_10 := Lib.hid (HD_9.out.below hb)
          have HQ_10 := Lib.hid (HQ_9.out.below hb)
          have HLA_10 := Lib.hid (HLA_9.out.below hb)
          have HP_10 := Lib.hid (V.bnext HP_9.out hb)
          clear HC_9 HD_9 HQ_9 HLA_9 HP_9
          clear hb ho
          go_wp2_with fail
          refine (V.cornersOf _ _ _ q _ HQ_10.out).mono ?_
          rintro e w11 ⟨aY, nY, cY, rfl, ho, hb⟩
          rw [← HVY.out] at ho ⊢
          have HLY_11 := Lib.hid (ho)
          have HC_11 := Lib.hid (HC_10.out.below hb)
          have HD_11 := Lib.hid (HD_10.out.below hb)
          have HQ_11 := Lib.hid (HQ_10.out.below hb)
          have HLA_11 := Lib.hid (HLA_10.out.below hb)
          have HLB_11 := Lib.hid (HLB_10.out.below hb)
          have HP_11 := Lib.hid (V.bnext HP_10.out hb)
          clear HC_10 HD_10 HQ_10 HLA_10 HLB_10 HP_10
          clear hb ho
          clear HC_11 HD_11 HQ_11
          by_cases h1 : kA = 0
          · subst h1
            by_cases h2 : kB = 0
            · subst h2
              by_cases h3 : kY = 0
              · subst h3
                obtain ⟨l1, l2, l3, l4, l5⟩ := HLaw.out (by first | rfl | trivial) (by first | rfl | trivial) (by first | rfl | trivial)
                have HS1 := Lib.hid l1
                have HS2 := Lib.hid l2
                have HS3 := Lib.hid l3
                have HL4 := Lib.hid l4
                have HL5 := Lib.hid l5
                clear l1 l2 l3 l4 l5 HLaw HPV HVA HVB HVY HEV
                have hnA : Hid (nA = LA.length) := HLA_11.out.len
                have hnB : Hid (nB = LB.length) := HLB_11.out.len
                have hnY : Hid (nY = LY.length) := HLY_11.out.len
                have hs12A := HS1.out.1
                have hs12B := HS2.out.1
                have hs12Y := HS3.out.1
                have hA12 : nA ≤ 12 := by have := hnA.out; omega
                have hB12 : nB ≤ 12 := by have := hnB.out; omega
                have hY12 : nY ≤ 12 := by have := hnY.out; omega
                clear hs12A hs12B hs12Y
                skip
                go_wp2
                go_loopw [21, 22] (fun tv iv wr => ∃ (i : Nat) (z : Int), i ≤ nY ∧ iv = .int .i64 i ∧ tv = .int .i64 z ∧ Hid (z = M.sumZ i (M.cTm LY)) ∧ Hid (Below w11.heap.size w11 wr)) (fun _ iv _ => nY - (intOf iv).toNat)
                case atStart => exact ⟨0, 0, Nat.zero_le _, rfl, rfl, rfl, Below.refl _ _⟩
                case round =>
                  obtain ⟨i, z, hi, rfl, rfl, HZ, HBi⟩ := hrel
                  obtain ⟨wi, rfl⟩ : ∃ x, x = wr := ⟨_, rfl⟩
                  have hzb := M.small_T HS3.out (k := i) (by have := hnY.out; omega)
                  rw [← HZ.out] at hzb
                  obtain ⟨hz1, hz2⟩ := hzb
                  by_cases hlt : i < nY
                  · have hii : (i : Int) < (nY : Int) := by omega
                    obtain ⟨yg, yp, yq, yt, rfl, hy, hcy⟩ := HLY_11.out.loads hlt
                    have hy1 : (LY.getD i (0, 0, 0)).1 = yp := by rw [← hy]
                    have hy2 : (LY.getD i (0, 0, 0)).2.1 = yq := by rw [← hy]
                    have hy3 : M.cTm LY i = yt := by unfold M.cTm; rw [← hy]
                    have hl4 := HL4.out i (by have := hnY.out; omega)
                    rw [hy1, hy2, hy3] at hl4
                    have hyb := HS3.out.2 i (by have := hnY.out; omega)
                    rw [hy3] at hyb
                    obtain ⟨hyt1, hyt2⟩ := hyb
                    have HCY : Hid (∀ W, Below w11.heap.size w11 W → W.cell? ⟨yg, i * 3, none⟩ = some (.int .i64 yp) ∧ W.cell? ⟨yg, i * 3 + 1, none⟩ = some (.int .i64 yq) ∧ W.cell? ⟨yg, i * 3 + 2, none⟩ = some (.int .i64 yt)) := hcy
                    have HSum := Lib.hid hl4
                    have HYt := Lib.hid hy3
                    clear hcy hy hy1 hy2 hy3 hl4
                    go_wp2
                    go_loopw [23, 24] (fun nv kv wr => ∃ (m : Nat) (x : Int), m ≤ nA ∧ kv = .int .i64 m ∧ nv = .int .i64 x ∧ Hid (x = M.sumZ m (M.cEq LA yp yq)) ∧ Hid (Below w11.heap.size w11 wr)) (fun _ kv _ => nA - (intOf kv).toNat)
                    case atStart => exact ⟨0, 0, Nat.zero_le _, rfl, rfl, by show _ = _; rfl, HBi.out⟩
                    case round =>
                      obtain ⟨m, x, hm, rfl, rfl, HX, HBm⟩ := hrel
                      obtain ⟨wm, rfl⟩ : ∃ x, x = wr := ⟨_, rfl⟩
                      have hxb := M.small_E HS1.out yp yq (k := m) (by have := hnA.out; omega)
                      obtain ⟨hx1, hx2⟩ := hxb
                      by_cases hlm : m < nA
                      · have hmm : (m : Int) < (nA : Int) := by omega
                        obtain ⟨ag, ap, aq, at_, rfl, ha, hca⟩ := HLA_11.out.loads hlm
                        obtain ⟨c1, c2, c3⟩ := hca _ HBm.out
                        obtain ⟨d1, d2, d3⟩ := HCY.out _ HBm.out
                        have hab := HS1.out.2 m (by have := hnA.out; omega)
                        have ha3 : M.cTm LA m = at_ := by unfold M.cTm; rw [← ha]
                        rw [ha3] at hab
                        obtain ⟨ha4, ha5⟩ := hab
                        have hce : M.cEq LA yp yq m = if ap = yp ∧ aq = yq then at_ else 0 := by unfold M.cEq; rw [← ha]
                        have HX2 := HX.out
                        have hxl : 0 ≤ x ∧ x ≤ 400 := by omega
                        obtain ⟨hxl1, hxl2⟩ := hxl
                        have HXX := Lib.hid HX2
                        have HCe := Lib.hid hce
                        clear hce HX2 hca ha ha3 hx1 hx2
                        have hS1 : M.sumZ (m + 1) (M.cEq LA yp yq) = M.sumZ m (M.cEq LA yp yq) + (if ap = yp ∧ aq = yq then at_ else 0) := by rw [← HCe.out]; rfl
                        by_cases h1 : ap = yp
                        · by_cases h2 : aq = yq
                          · have HN : Hid (x + at_ = M.sumZ (m + 1) (M.cEq LA yp yq)) := by show _ = _; rw [hS1, if_pos ⟨h1, h2⟩, HXX.out]; try omega
                            clear hS1 HCe HXX
                            subst h1 h2
                            go_wp2
                            go_quiet (fail)
                            go_wp2
                            go_roundw
                            case rel => exact ⟨m + 1, x + at_, by omega, by go_num, by first | rfl | trivial, HN.out, V.bnext HBm.out (V.b_draws _ _)⟩
                            case measure => simp [intOf]; omega
                          · have HN : Hid (x = M.sumZ (m + 1) (M.cEq LA yp yq)) := by show _ = _; rw [hS1, if_neg (fun e => h2 e.2), HXX.out]; try omega
                            clear hS1 HCe HXX
                            subst h1
                            have h3 : (aq == yq) = false := by simpa using h2
                            go_wp2
                            go_quiet (fail)
                            go_wp2
                            go_roundw
                            case rel => exact ⟨m + 1, x, by omega, by go_num, by first | rfl | trivial, HN.out, V.bnext HBm.out (V.b_draws _ _)⟩
                            case measure => simp [intOf]; omega
                        · have HN : Hid (x = M.sumZ (m + 1) (M.cEq LA yp yq)) := by show _ = _; rw [hS1, if_neg (fun e => h1 e.1), HXX.out]; try omega
                          clear hS1 HCe HXX
                          have h3 : (ap == yp) = false := by simpa using h1
                          go_wp2
                          go_quiet (fail)
                          go_wp2
                          go_roundw
                          case rel => exact ⟨m + 1, x, by omega, by go_num, by first | rfl | trivial, HN.out, V.bnext HBm.out (V.b_draws _ _)⟩
                          case measure => simp [intOf]; omega
                      · obtain rfl : m = nA := by omega
                        have HXA : Hid (x = M.sumZ LA.length (M.cEq LA yp yq)) := by show _ = _; rw [HX.out, hnA.out]
                        clear HX hx1 hx2
                        go_wp2
                        go_loopw [23, 25] (fun nv kv wr => ∃ (m : Nat) (x : Int), m ≤ nB ∧ kv = .int .i64 m ∧ nv = .int .i64 x ∧ Hid (x = M.sumZ LA.length (M.cEq LA yp yq) + M.sumZ m (M.cEq LB yp yq)) ∧ Hid (Below w11.heap.size w11 wr)) (fun _ kv _ => nB - (intOf kv).toNat)
                        case atStart => exact ⟨0, x, Nat.zero_le _, rfl, rfl, by show _ = _; rw [HXA.out]; show _ = _ + 0; omega, HBm.out⟩
                        case round =>
                          obtain ⟨m, x, hm, rfl, rfl, HX, HBm⟩ := hrel
                          obtain ⟨wm, rfl⟩ : ∃ x, x = wr := ⟨_, rfl⟩
                          have hxb := M.small_E HS2.out yp yq (k := m) (by have := hnB.out; omega)
                          obtain ⟨hx1, hx2⟩ := hxb
                          by_cases hlm : m < nB
                          · have hmm : (m : Int) < (nB : Int) := by omega
                            obtain ⟨ag, ap, aq, at_, rfl, ha, hca⟩ := HLB_11.out.loads hlm
                            obtain ⟨c1, c2, c3⟩ := hca _ HBm.out
                            obtain ⟨d1, d2, d3⟩ := HCY.out _ HBm.out
                            have hab := HS2.out.2 m (by have := hnB.out; omega)
                            have ha3 : M.cTm LB m = at_ := by unfold M.cTm; rw [← ha]
                            rw [ha3] at hab
                            obtain ⟨ha4, ha5⟩ := hab
                            have hce : M.cEq LB yp yq m = if ap = yp ∧ aq = yq then at_ else 0 := by unfold M.cEq; rw [← ha]
                            have HX2 := HX.out
                            have hxl : 0 ≤ x ∧ x ≤ 400 := by have := M.small_E HS1.out yp yq (k := LA.length) (Nat.le_refl _); omega
                            obtain ⟨hxl1, hxl2⟩ := hxl
                            have HXX := Lib.hid HX2
                            have HCe := Lib.hid hce
                            clear hce HX2 hca ha ha3 hx1 hx2
                            have hS1 : M.sumZ (m + 1) (M.cEq LB yp yq) = M.sumZ m (M.cEq LB yp yq) + (if ap = yp ∧ aq = yq then at_ else 0) := by rw [← HCe.out]; rfl
                            by_cases h1 : ap = yp
                            · by_cases h2 : aq = yq
                              · have HN : Hid (x + at_ = M.sumZ LA.length (M.cEq LA yp yq) + M.sumZ (m + 1) (M.cEq LB yp yq)) := by show _ = _; rw [hS1, if_pos ⟨h1, h2⟩, HXX.out]; try omega
                                clear hS1 HCe HXX
                                subst h1 h2
                                go_wp2
                                go_quiet (fail)
                                go_wp2
                                go_roundw
                                case rel => exact ⟨m + 1, x + at_, by omega, by go_num, by first | rfl | trivial, HN.out, V.bnext HBm.out (V.b_draws _ _)⟩
                                case measure => simp [intOf]; omega
                              · have HN : Hid (x = M.sumZ LA.length (M.cEq LA yp yq) + M.sumZ (m + 1) (M.cEq LB yp yq)) := by show _ = _; rw [hS1, if_neg (fun e => h2 e.2), HXX.out]; try omega
                                clear hS1 HCe HXX
                                subst h1
                                have h3 : (aq == yq) = false := by simpa using h2
                                go_wp2
                                go_quiet (fail)
                                go_wp2
                                go_roundw
                                case rel => exact ⟨m + 1, x, by omega, by go_num, by first | rfl | trivial, HN.out, V.bnext HBm.out (V.b_draws _ _)⟩
                                case measure => simp [intOf]; omega
                            · have HN : Hid (x = M.sumZ LA.length (M.cEq LA yp yq) + M.sumZ (m + 1) (M.cEq LB yp yq)) := by show _ = _; rw [hS1, if_neg (fun e => h1 e.1), HXX.out]; try omega
                              clear hS1 HCe HXX
                              have h3 : (ap == yp) = false := by simpa using h1
                              go_wp2
                              go_quiet (fail)
                              go_wp2
                              go_roundw
                              case rel => exact ⟨m + 1, x, by omega, by go_num, by first | rfl | trivial, HN.out, V.bnext HBm.out (V.b_draws _ _)⟩
                              case measure => simp [intOf]; omega
                          · have hmB : m = nB := by omega
                            have hxt : x = yt := by rw [HX.out, hmB, hnB.out]; exact HSum.out
                            subst hxt
                            obtain ⟨d1, d2, d3⟩ := HCY.out _ HBm.out
                            clear HX hx1 hx2
                            have HZ2 : Hid (z + x = M.sumZ (i + 1) (M.cTm LY)) := by show _ = M.sumZ i (M.cTm LY) + M.cTm LY i; rw [HYt.out, HZ.out]
                            go_wp2
                            go_roundw
                            case rel => exact ⟨i + 1, z + x, by omega, by go_num, by first | rfl | trivial, HZ2.out, HBm.out⟩
                            case measure => simp [intOf]; omega
                  · have hiY : i = nY := by omega
                    have HZ0 : Hid (z = M.sumZ LA.length (M.cTm LA) + M.sumZ LB.length (M.cTm LB)) := by show _ = _; rw [HZ.out, hiY, hnY.out]; exact HL5.out
                    clear HZ
                    go_wp2
                    go_loopw [21, 26] (fun tv kv wr => ∃ (m : Nat) (x : Int), m ≤ nA ∧ kv = .int .i64 m ∧ tv = .int .i64 x ∧ Hid (x = M.sumZ LA.length (M.cTm LA) + M.sumZ LB.length (M.cTm LB) - M.sumZ m (M.cTm LA)) ∧ Hid (Below w11.heap.size w11 wr)) (fun _ kv _ => nA - (intOf kv).toNat)
                    case atStart => exact ⟨0, z, Nat.zero_le _, rfl, rfl, by show _ = _; rw [HZ0.out]; show _ = _ - 0; omega, HBi.out⟩
                    case round =>
                      obtain ⟨m, x, hm, rfl, rfl, HX, HBm⟩ := hrel
                      obtain ⟨wm, rfl⟩ : ∃ x, x = wr := ⟨_, rfl⟩
                      have hsm := M.small_T HS1.out (k := m) (by have := hnA.out; omega)
                      have hsA := M.small_T HS1.out (k := LA.length) (Nat.le_refl _)
                      have hsB := M.small_T HS2.out (k := LB.length) (Nat.le_refl _)
                      have hx0 : -1000 ≤ x ∧ x ≤ 1000 := by have := HX.out; omega
                      obtain ⟨hx1, hx2⟩ := hx0
                      clear hsm hsA hsB
                      by_cases hlm : m < nA
                      · have hmm : (m : Int) < (nA : Int) := by omega
                        obtain ⟨ag, ap, aq, at_, rfl, ha, hca⟩ := HLA_11.out.loads hlm
                        obtain ⟨c1, c2, c3⟩ := hca _ HBm.out
                        have hab := HS1.out.2 m (by have := hnA.out; omega)
                        have ha3 : M.cTm LA m = at_ := by unfold M.cTm; rw [← ha]
                        rw [ha3] at hab
                        obtain ⟨ha4, ha5⟩ := hab
                        have hS1 : M.sumZ (m + 1) (M.cTm LA) = M.sumZ m (M.cTm LA) + at_ := by rw [← ha3]; rfl
                        have HN : Hid (x - at_ = M.sumZ LA.length (M.cTm LA) + M.sumZ LB.length (M.cTm LB) - M.sumZ (m + 1) (M.cTm LA)) := by show _ = _; rw [hS1]; have := HX.out; omega
                        clear hS1 hca ha ha3 HX
                        go_wp2
                        go_roundw
                        case rel => exact ⟨m + 1, x - at_, by omega, by go_num, by first | rfl | trivial, HN.out, HBm.out⟩
                        case measure => simp [intOf]; omega
                      · have hmA : m = nA := by omega
                        have HXA : Hid (x = M.sumZ LB.length (M.cTm LB)) := by show _ = _; rw [HX.out, hmA, hnA.out]; omega
                        clear HX
                        go_wp2
                        go_loopw [21, 27] (fun tv kv wr => ∃ (m : Nat) (x : Int), m ≤ nB ∧ kv = .int .i64 m ∧ tv = .int .i64 x ∧ Hid (x = M.sumZ LB.length (M.cTm LB) - M.sumZ m (M.cTm LB)) ∧ Hid (Below w11.heap.size w11 wr)) (fun _ kv _ => nB - (intOf kv).toNat)
                        case atStart => exact ⟨0, x, Nat.zero_le _, rfl, rfl, by show _ = _; rw [HXA.out]; show _ = _ - 0; omega, HBm.out⟩
                        case round =>
                          obtain ⟨m, x, hm, rfl, rfl, HX, HBm⟩ := hrel
                          obtain ⟨wm, rfl⟩ : ∃ x, x = wr := ⟨_, rfl⟩
                          have hsm := M.small_T HS2.out (k := m) (by have := hnB.out; omega)
                          have hsA := M.small_T HS1.out (k := LA.length) (Nat.le_refl _)
                          have hsB := M.small_T HS2.out (k := LB.length) (Nat.le_refl _)
                          have hx0 : -1000 ≤ x ∧ x ≤ 1000 := by have := HX.out; omega
                          obtain ⟨hx1, hx2⟩ := hx0
                          clear hsm hsA hsB
                          by_cases hlm : m < nB
                          · have hmm : (m : Int) < (nB : Int) := by omega
                            obtain ⟨ag, ap, aq, at_, rfl, ha, hca⟩ := HLB_11.out.loads hlm
                            obtain ⟨c1, c2, c3⟩ := hca _ HBm.out
                            have hab := HS2.out.2 m (by have := hnB.out; omega)
                            have ha3 : M.cTm LB m = at_ := by unfold M.cTm; rw [← ha]
                            rw [ha3] at hab
                            obtain ⟨ha4, ha5⟩ := hab
                            have hS1 : M.sumZ (m + 1) (M.cTm LB) = M.sumZ m (M.cTm LB) + at_ := by rw [← ha3]; rfl
                            have HN : Hid (x - at_ = M.sumZ LB.length (M.cTm LB) - M.sumZ (m + 1) (M.cTm LB)) := by show _ = _; rw [hS1]; have := HX.out; omega
                            clear hS1 hca ha ha3 HX
                            go_wp2
                            go_roundw
                            case rel => exact ⟨m + 1, x - at_, by omega, by go_num, by first | rfl | trivial, HN.out, HBm.out⟩
                            case measure => simp [intOf]; omega
                          · have hmB : m = nB := by omega
                            have hx3 : x = 0 := by rw [HX.out, hmB, hnB.out]; omega
                            subst hx3
                            go_wp2
                            go_ret
                            exact ⟨rfl, V.bnext HP_11.out HBm.out⟩
              · have h3n : (kY != 0) = true := by simpa using h3
                go_wp2
                go_ret
                exact ⟨rfl, HP_11.out⟩
            · have h2n : (kB != 0) = true := by simpa using h2
              go_wp2
              go_ret
              exact ⟨rfl, HP_11.out⟩
          · have h1n : (kA != 0) = true := by simpa using h1
            go_wp2
            go_ret
            exact ⟨rfl, HP_11.out⟩
        · have hq1 : (qc != 0) = true := by simpa using h0
          go_wp2
          go_ret
          exact ⟨rfl, HP_8.out⟩
end Go.Proofs.Ytlljnfljcdljaaa.fnCornersOfProducts
