/- The walk through the law: it returns true and writes nothing that was there. For every code: the product with a vector is that with a matrix of one column, and TimesVector answers as its model. -/
import Derived.Test.YtlljnfljcdljaabRows
import Derived.Test.YtlljnfljcdljaabQb1
import Derived.Test.YtlljnfljcdljaabQb9
import Derived.Test.YtlljnfljcdljaabQb2
import Derived.Test.YtlljnfljcdljaabQb4
import Derived.Test.YtlljnfljcdljaabQb7
import Derived.Test.YtlljnfljcdljaabQb5
import Derived.Test.YtlljnfljcdljaabQb8
import Derived.WalkKit
import Derived.ProofKit
import Derived.OpenShut
import Derived.ShutString
import Derived.ChangeOld
import Derived.Below
import Derived.Lib.SmallJoins
import Derived.Lib.Hide
import Derived.WalkSmall
import Derived.Deep.Draws
import Derived.Deep.QuietTactic
import Derived.BigQuiet
import Derived.Deep.OwnRows
import Derived.Deep.RegionWith
import Derived.Deep.RegionHeld3
set_option linter.unusedSimpArgs false
set_option linter.unusedVariables false
set_option linter.unusedSectionVars false
namespace Go.Proofs.Ytlljnfljcdljaab.fnVectors
open Go.ChangeShapes Go.WideShapes Go.ChangeAt Go.RowKit
open Go.ChangeMaps (open_string shut_string)
set_option linter.unusedVariables false

set_option maxRecDepth 100000 in
set_option maxHeartbeats 4000000 in
theorem walk (a0 : Option Addr) (len0 cap0 : Nat) (z0 : List Int) (w : World) (w0 : V.IsRow .u8 w a0 len0 cap0 z0) :
    Calls Try.prog 7 #[.slice a0 len0 cap0] w fun e w' => e = .returned (.bool true) ∧ Below w.heap.size w w' := by
  have hB := w0.bytes
  have hm := hB.1
  by_cases hbig : 4096 < len0
  · have hd : decide (4096 < len0) = true := by simpa using hbig
    clear hB w0
    go_enter Try.func7, Try.ntmps7
    go_wp2_with (first | (go_at_call 12; refine (V.big _ _ _ _ hm).mono ?_; rintro e w' ⟨rfl, rfl⟩))
    go_ret
    exact ⟨rfl, Below.refl _ _⟩
  · have hd : decide (4096 < len0) = false := by simpa using hbig
    clear w0
    have HB := Lib.hid hB
    clear hB
    go_enter Try.func7, Try.ntmps7
    go_wp2_with (go_at_call 12; refine (V.big _ _ _ _ hm).mono ?_; rintro e w' ⟨rfl, rfl⟩)
    refine (V.drawTimesVector _ _ _ _ HB.out).mono ?_
    rintro e w1 ⟨a, n, cap, R, xa, N, xc, l, rfl, hA, hI, hb⟩
    have HA := Lib.hid hA
    have HI := Lib.hid hI
    have HB1 := Lib.hid hb
    clear hb hA hI
    by_cases hRl : M.isMat R = true ∧ M.isVec l = true
    · obtain ⟨hR, hl⟩ := hRl
      have HR := Lib.hid hR
      have HV := Lib.hid hl
      have HVC := Lib.hid (M.vec_col hR hl)
      have hN := V.ints_vec HI.out hl
      obtain ⟨N1, N2⟩ := hN
      obtain ⟨xb, xo, x0, rfl, -, -, -⟩ := HI.out.at 0 (by omega)
      obtain ⟨rv, hrv⟩ : ∃ rv, rv = M.vecRes R l := ⟨_, rfl⟩
      have HRV := Lib.hid hrv
      clear hR hl hrv
      go_wp2_with fail
      refine (V.timesVector _ _ _ R _ _ _ l _ HA.out HI.out).mono ?_
      rintro e w2 ⟨ya, yn, yc, rfl, ho, hb⟩
      rw [← HRV.out] at ho ⊢
      have HY2 := Lib.hid ho.ints'
      have HA2 := Lib.hid (HA.out.below hb)
      have HI2 := Lib.hid (HI.out.below hb)
      have HB2 := Lib.hid (V.bnext HB1.out hb)
      clear ho hb HA HI
      go_wp2_with fail
      refine (V.sTimesVector _ _ _ R _ _ _ l _ HA2.out HI2.out).mono ?_
      rintro e w3 ⟨sa, sn, sc, rfl, ho, hb⟩
      rw [← HRV.out] at ho ⊢
      have HS3 := Lib.hid ho.ints'
      have HY3 := Lib.hid (HY2.out.below hb)
      have HA3 := Lib.hid (HA2.out.below hb)
      have HI3 := Lib.hid (HI2.out.below hb)
      have HB3 := Lib.hid (V.bnext HB2.out hb)
      clear ho hb HA2 HI2 HY2
      go_wp2_with fail
      refine (V.likeV _ _ _ rv.1 _ _ _ _ HY3.out HS3.out).mono ?_
      rintro e w4 ⟨rfl, hb⟩
      have HY4 := Lib.hid (HY3.out.below hb)
      have HA4 := Lib.hid (HA3.out.below hb)
      have HI4 := Lib.hid (HI3.out.below hb)
      have HB4 := Lib.hid (V.bnext HB3.out hb)
      clear hb HA3 HI3 HY3 HS3
      have hcode : rv.2 = 5 ∨ rv.2 = 3 ∨ rv.2 = 0 := by
        rw [HRV.out]
        rcases HVC.out with ⟨h, -⟩ | ⟨h, -⟩ | ⟨h, -⟩ <;> rw [h] <;> simp
      have hc1 : (rv.2 == 1) = false := by simp; omega
      have HCO := Lib.hid hcode
      clear hcode
      have hO0 : Hid (V.OwnM (w4.alloc (.cells #[] 25)) w4.heap.size (.slice (some ⟨w4.heap.size, 0, none⟩) 0 0) (M.mk 0 1 (fun i _ => l.getD i 0))) := V.ownM_lit0 w4 _ (Nat.le_refl _)
      have hz4 : w.heap.size ≤ w4.heap.size := HB4.out.size
      go_wp2
      go_loopw [9, 10] (fun out i wr => ∃ (k : Nat) (b : Option Addr) (c : Nat), k ≤ N ∧ i = .int .i64 k ∧ out = .slice b k c ∧ V.OwnM wr w4.heap.size (.slice b k c) (M.mk k 1 (fun i _ => l.getD i 0)) ∧ Below w4.heap.size w4 wr) (fun _ i _ => N - (intOf i).toNat)
      case atStart => exact ⟨0, _, _, Nat.zero_le _, rfl, rfl, hO0.out, V.b_alloc _ _⟩
      case round =>
        obtain ⟨k, b, c, hk, rfl, rfl, hO, hb⟩ := hrel
        obtain ⟨wo, rfl⟩ : ∃ x, x = wr := ⟨_, rfl⟩
        have HO := Lib.hid hO
        have HBo := Lib.hid hb
        have hzo : w4.heap.size ≤ wo.heap.size := hb.size
        clear hO hb hO0
        by_cases hlt : k < N
        · have hki : (k : Int) < (N : Int) := by omega
          obtain ⟨q, qo, x, hqq, -, hx, hc⟩ := (HI4.out.below HBo.out).at k hlt
          injection hqq with hqq
          injection hqq with e1 e2
          subst e1 e2
          have HX := Lib.hid hx
          have hro : Hid (V.Own (wo.alloc (.cells #[.int .i64 x] 2)) wo.heap.size (.slice (some ⟨wo.heap.size, 0, none⟩) 1 1) [x]) := by
            exact World.ownsRow_lit wo #[.int .i64 x] 1 (Nat.le_refl _) (by decide) rfl
          have HLn := Lib.hid HO.out.len
          clear hx
          go_wp2_with (at_builtin; refine V.appendRow wo _ rfl (.tmp 51) (.tmp 57) rfl w4.heap.size _ _ _ _ k HO.out.len.symm rfl HO.out (V.b_alloc wo _) hro.out (by go_simp) (by rw [← HLn.out]; omega) hzo ?_)
          intro b2 c2 w5 hO5 hb5 _
          have HO5 : Hid (V.OwnM w5 w4.heap.size (.slice b2 (k + 1) c2) (M.mk (k + 1) 1 (fun i _ => l.getD i 0))) := by
            show V.OwnM _ _ _ _
            rw [M.col_take, ← HX.out]; exact hO5
          have HB5 := Lib.hid (HBo.out.trans (((V.b_alloc wo (.cells #[.int .i64 x] 2)).mono hzo).trans hb5))
          clear hO5 hb5
          go_wp2
          go_roundw
          case rel => exact ⟨k + 1, _, _, by omega, by go_num, rfl, HO5.out, HB5.out⟩
          case measure => simp [intOf]; omega
        · obtain rfl : k = N := by omega
          have HC : Hid (V.Mat wo b k (M.col l)) := by
            have := HO.out.mat
            show V.Mat _ _ _ (M.mk l.length 1 _)
            rw [HI4.out.1]; exact this
          have HAo := Lib.hid (HA4.out.below HBo.out)
          have HYo := Lib.hid (HY4.out.below HBo.out)
          have HBw := Lib.hid (HB4.out.trans (HBo.out.mono hz4))
          clear HO HI4 HA4 HY4
          go_wp2_with fail
          refine (V.multiplyMatrices _ _ _ R _ _ _ (M.col l) _ HAo.out HC.out).mono ?_
          rintro e w6 ⟨za, zn, zc, rfl, ho, hb⟩
          have HY6 := Lib.hid (HYo.out.below hb)
          have HB6 := Lib.hid (V.bnext HBw.out hb)
          have HZ := Lib.hid ho.mat
          clear ho hb HYo
          have hvc := HVC.out
          rw [← HRV.out] at hvc
          rcases hvc with ⟨h1, h2⟩ | ⟨h1, h2⟩ | ⟨h1, h2⟩
          · subst h1
            rw [h2]
            clear h2
            go_wp2
            go_ret
            exact ⟨rfl, HB6.out⟩
          · subst h1
            rw [h2]
            clear h2
            go_wp2
            go_ret
            exact ⟨rfl, HB6.out⟩
          · subst h1
            rw [h2]
            have HZ6 : Hid (V.Mat w6 za zn (M.mk R.length 1 (fun i _ => (M.applyM R l).getD i 0))) := by
              have := HZ.out; rw [h2] at this; exact this
            have HZL : Hid (R.length = zn) := by have := HZ6.out.1; rw [M.mk_length] at this; exact this
            have HYL : Hid (R.length = yn) := by have := HY6.out.1; rw [M.apply_len] at this; exact this
            obtain rfl : zn = yn := HZL.out.symm.trans HYL.out
            have HZT : Hid (V.Rect (M.mk R.length 1 (fun i _ => (M.applyM R l).getD i 0)) zn 1) := by
              have := V.rect_mk R.length 1 (fun i _ => (M.applyM R l).getD i 0)
              rw [HZL.out] at this ⊢
              exact this
            have hzn : zn ≤ 10 := by have := HZL.out; have := (M.isMat_t HR.out).2.1; omega
            clear h2 HZ
            go_wp2
            go_loopw [13] (fun i wr => ∃ k : Nat, k ≤ zn ∧ i = .int .i64 k ∧ ∃ q, wr = w6.drewN q) (fun i _ => zn - (intOf i).toNat)
            case atStart => exact ⟨0, Nat.zero_le _, rfl, 0, rfl⟩
            case round =>
              obtain ⟨t, ht, rfl, q, rfl⟩ := hrel
              by_cases htl : t < zn
              · have hti : (t : Int) < (zn : Int) := by omega
                obtain ⟨zb, zo, rb, ro, rc, x, rfl, hx, c1, c2⟩ := HZ6.out.rect_ent HZT.out t 0 htl (by omega)
                obtain ⟨yb, yo, y, rfl, -, hy, c3⟩ := HY6.out.at t htl
                rw [Nat.add_zero] at c2
                have exy : x = y := by
                  rw [hx, hy, M.ent_mk _ _ _ _ _ (by have := HZL.out; omega) (by omega)]
                subst exy
                clear hx hy
                go_wp2
                go_quiet (fail)
                go_wp2
                go_roundw
                case rel => exact ⟨t + 1, by omega, by go_num, _, rfl⟩
                case measure => simp [intOf]; omega
              · go_wp2
                go_ret
                exact ⟨rfl, below_drewN HB6.out _⟩
    · have HE := Lib.hid (M.vec_bad hRl)
      clear hRl
      go_wp2_with fail
      refine (V.timesVector _ _ _ R _ _ _ l _ HA.out HI.out).mono ?_
      rintro e w2 ⟨ya, yn, yc, rfl, ho, hb⟩
      rw [HE.out] at ho ⊢
      have HY2 := Lib.hid ho.ints'
      have HA2 := Lib.hid (HA.out.below hb)
      have HI2 := Lib.hid (HI.out.below hb)
      have HB2 := Lib.hid (V.bnext HB1.out hb)
      clear ho hb HA HI
      go_wp2_with fail
      refine (V.sTimesVector _ _ _ R _ _ _ l _ HA2.out HI2.out).mono ?_
      rintro e w3 ⟨sa, sn, sc, rfl, ho, hb⟩
      rw [HE.out] at ho ⊢
      have HS3 := Lib.hid ho.ints'
      have HY3 := Lib.hid (HY2.out.below hb)
      have HB3 := Lib.hid (V.bnext HB2.out hb)
      clear ho hb HA2 HI2 HY2
      go_wp2_with fail
      refine (V.likeV _ _ _ [] _ _ _ _ HY3.out HS3.out).mono ?_
      rintro e w4 ⟨rfl, hb⟩
      have HB4 := Lib.hid (V.bnext HB3.out hb)
      clear hb
      go_wp2
      go_ret
      exact ⟨rfl, HB4.out⟩
end Go.Proofs.Ytlljnfljcdljaab.fnVectors
