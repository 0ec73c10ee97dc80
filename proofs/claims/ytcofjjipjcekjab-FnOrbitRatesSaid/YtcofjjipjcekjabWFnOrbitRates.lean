/- The walk through the law: it returns true and writes nothing that was there. For every code: OrbitRepeats and OrbitRate answer as their models; the orbit goes to the end of the first repeat, is there the shifted one of its beginning, and the rate is the growth over the period. -/
import Derived.Test.YtcofjjipjcekjabRows
import Derived.Test.YtcofjjipjcekjabQb1
import Derived.Test.YtcofjjipjcekjabQb2
import Derived.Test.YtcofjjipjcekjabQb16
import Derived.Test.YtcofjjipjcekjabQb15
import Derived.Test.YtcofjjipjcekjabQb11
import Derived.Test.YtcofjjipjcekjabQb9
import Derived.Test.YtcofjjipjcekjabQb17
import Derived.Test.YtcofjjipjcekjabQb18
import Derived.WalkKit
import Derived.ProofKit
import Derived.OpenShut
import Derived.ShutString
import Derived.ChangeOld
import Derived.Below
import Derived.Lib.SmallJoins
import Derived.Lib.Hide
import Derived.WalkSmall
import Derived.Deep.Draws
import Derived.Deep.QuietTactic
import Derived.BigQuiet
import Derived.Deep.OwnRows
import Derived.Deep.RegionWith
import Derived.Deep.RegionHeld3
set_option linter.unusedSimpArgs false
set_option linter.unusedVariables false
set_option linter.unusedSectionVars false
namespace Go.Proofs.Ytcofjjipjcekjab.fnOrbitRates
open Go.ChangeShapes Go.WideShapes Go.ChangeAt Go.RowKit
open Go.ChangeMaps (open_string shut_string)
set_option linter.unusedVariables false

theorem mul_in9 {a b : Int} (h1 : -1000000 ≤ a) (h2 : a ≤ 1000000) (h3 : 1 ≤ b) (h4 : b ≤ 100) : -9223372036854775808 ≤ a * b ∧ a * b ≤ 9223372036854775807 := by
  have e1 : a * b ≤ 1000000 * b := Int.mul_le_mul_of_nonneg_right h2 (by omega)
  have e2 : -1000000 * b ≤ a * b := Int.mul_le_mul_of_nonneg_right h1 (by omega)
  omega

set_option maxRecDepth 100000 in
set_option maxHeartbeats 4000000 in
theorem walk (a0 : Option Addr) (len0 cap0 : Nat) (z0 : List Int) (w : World) (w0 : V.IsRow .u8 w a0 len0 cap0 z0) :
    Calls Try.prog 13 #[.slice a0 len0 cap0] w fun e w' => e = .returned (.bool true) ∧ Below w.heap.size w w' := by
  have hB := w0.bytes
  have hm := hB.1
  by_cases hbig : 4096 < len0
  · have hd : decide (4096 < len0) = true := by simpa using hbig
    clear hB w0
    go_enter Try.func13, Try.ntmps13
    go_wp2_with (first | (go_at_call 14; refine (V.big _ _ _ _ hm).mono ?_; rintro e w' ⟨rfl, rfl⟩))
    go_ret
    exact ⟨rfl, Below.refl _ _⟩
  · have hd : decide (4096 < len0) = false := by simpa using hbig
    clear w0
    have HB := Lib.hid hB
    clear hB
    go_enter Try.func13, Try.ntmps13
    go_wp2_with (go_at_call 14; refine (V.big _ _ _ _ hm).mono ?_; rintro e w' ⟨rfl, rfl⟩)
    refine (V.drawOrbitRepeatsE _ _ _ _ HB.out).mono ?_
    rintro e w1 ⟨a, n, cap, R, b, N, c, l, rfl, hA, hX, hb, hd⟩
    have HA_1 := Lib.hid hA
    have HX_1 := Lib.hid hX
    have HP_1 := Lib.hid hb
    have HD := Lib.hid hd
    clear hb hA hX hd
    obtain ⟨ov, hov⟩ : ∃ v, v = M.orRes R l := ⟨_, rfl⟩
    have HOV := Lib.hid hov
    obtain ⟨rv, hrv⟩ : ∃ v, v = M.rateRes R l := ⟨_, rfl⟩
    have HRV := Lib.hid hrv
    have hlaw : ∀ s c g r one, ov = (s, c, g, 0) → rv = (r, one) → _ := fun s c g r one h1 h2 => M.rates_law (r := r) (one := one) HD.out (hov.symm.trans h1) (hrv.symm.trans h2)
    have HLaw := Lib.hid hlaw
    clear hov hrv hlaw
    obtain ⟨s, c0, g, d⟩ := ov
    obtain ⟨⟨r1, r2⟩, one⟩ := rv
    go_wp2_with fail
    refine (V.orbitRepeats _ _ _ R _ _ _ l _ HA_1.out HX_1.out).mono ?_
    rintro e w2 ⟨rfl, hb⟩
    rw [← HOV.out]
    have HA_2 := Lib.hid (HA_1.out.below hb)
    have HX_2 := Lib.hid (HX_1.out.below hb)
    have HP_2 := Lib.hid (V.bnext HP_1.out hb)
    clear HA_1 HX_1 HP_1
    clear hb 
    go_wp2_with fail
    refine (V.sOrbitRepeats _ _ _ R _ _ _ l _ HA_2.out HX_2.out).mono ?_
    rintro e w3 ⟨rfl, hb⟩
    rw [← HOV.out]
    have HA_3 := Lib.hid (HA_2.out.below hb)
    have HX_3 := Lib.hid (HX_2.out.below hb)
    have HP_3 := Lib.hid (V.bnext HP_2.out hb)
    clear HA_2 HX_2 HP_2
    clear hb 
    go_wp2_with fail
    refine (V.orbitRate _ _ _ R _ _ _ l _ HA_3.out HX_3.out).mono ?_
    rintro e w4 ⟨rfl, hb⟩
    rw [← HRV.out]
    have HA_4 := Lib.hid (HA_3.out.below hb)
    have HX_4 := Lib.hid (HX_3.out.below hb)
    have HP_4 := Lib.hid (V.bnext HP_3.out hb)
    clear HA_3 HX_3 HP_3
    clear hb 
    obtain ⟨w5, hw5⟩ : ∃ z, z = w4.alloc (V.rbox r1 r2) := ⟨_, rfl⟩
    have HXr : Hid (V.Boxed w4 w5 r1 r2) := by show V.Boxed _ _ _ _; rw [hw5]; exact V.boxed _ _ _
    have HA_5 := Lib.hid (HA_4.out.below HXr.out.below)
    have HX_5 := Lib.hid (HX_4.out.below HXr.out.below)
    have HP_5 := Lib.hid (V.bnext HP_4.out HXr.out.below)
    clear HA_4 HX_4 HP_4
    have Hbr_5 : Hid (Below w5.heap.size w5 w5) := Below.refl _ _
    go_wp2_with fail
    change Calls _ _ _ (w4.alloc (V.rbox r1 r2)) _
    rw [← hw5]
    clear hw5
    refine (V.sOrbitRate _ _ _ R _ _ _ l _ HA_5.out HX_5.out).mono ?_
    rintro e w6 ⟨rfl, hb⟩
    rw [← HRV.out]
    have HA_6 := Lib.hid (HA_5.out.below hb)
    have HX_6 := Lib.hid (HX_5.out.below hb)
    have Hbr_6 := Lib.hid (V.thn Hbr_5.out hb)
    have HP_6 := Lib.hid (V.bnext HP_5.out hb)
    clear HA_5 HX_5 Hbr_5 HP_5
    clear hb 
    obtain ⟨cr0, cr1⟩ := HXr.out.cells Hbr_6.out
    have lr : w4.heap.size < w6.heap.size := by have := HXr.out.size; have := Hbr_6.out.size; omega
    obtain ⟨w7, hw7⟩ : ∃ z, z = w6.alloc (V.rbox r1 r2) := ⟨_, rfl⟩
    have HXq : Hid (V.Boxed w6 w7 r1 r2) := by show V.Boxed _ _ _ _; rw [hw7]; exact V.boxed _ _ _
    have HA_7 := Lib.hid (HA_6.out.below HXq.out.below)
    have HX_7 := Lib.hid (HX_6.out.below HXq.out.below)
    have Hbr_7 := Lib.hid (V.thn Hbr_6.out HXq.out.below)
    have HP_7 := Lib.hid (V.bnext HP_6.out HXq.out.below)
    clear HA_6 HX_6 Hbr_6 HP_6
    have Hbq_7 : Hid (Below w7.heap.size w7 w7) := Below.refl _ _
    have HPz : Hid (Below w.heap.size w (w6.alloc (V.rbox r1 r2))) := by show Below _ _ _; rw [← hw7]; exact HP_7.out
    by_cases hd0 : d = 0
    · subst hd0
      obtain ⟨i, e, hi, hc, hse, hie, he, hor, hln, hsh, hrt⟩ := HLaw.out _ _ _ _ _ rfl rfl
      subst hi
      obtain ⟨L, hL⟩ : ∃ L, L = M.orbL R l (e + 1) := ⟨_, rfl⟩
      rw [← hL] at hor hln hsh
      clear hL
      have HOr := Lib.hid hor
      have HLn := Lib.hid hln
      have HSh := Lib.hid hsh
      have HRt2 := Lib.hid hrt
      have HSe := Lib.hid hse
      have HC0 : Hid (1 ≤ c0 ∧ c0 ≤ 100) := Lib.hid ⟨by omega, by omega⟩
      clear hor hln hsh hrt hse hc
      have hsum : IntKind.i64.wrap ((i : Int) + c0) = (e : Int) := by rw [HSe.out]; exact IntWalk.i64_in _ (by omega)
      clear HLaw HOV HRV HD
      clear Hbq_7
      go_wp2_with fail
      change Calls _ _ _ (w6.alloc (V.rbox r1 r2)) _
      rw [← hw7]
      clear hw7
      refine (V.orbitOf _ _ _ R _ _ _ l (e : Int) _ HA_7.out HX_7.out).mono ?_
      rintro e w8 ⟨la, ln, lc, rfl, ho, hb⟩
      rw [HOr.out] at ho ⊢
      have ho : V.OwnM w8 w7.heap.size (.slice la ln lc) L := ho
      have HLl := Lib.hid (ho.len.trans HLn.out)
      clear cr0 cr1 lr HPz
      have HL_8 := Lib.hid (ho)
      have HA_8 := Lib.hid (HA_7.out.below hb)
      have HX_8 := Lib.hid (HX_7.out.below hb)
      have Hbr_8 := Lib.hid (V.thn Hbr_7.out hb)
      have HP_8 := Lib.hid (V.bnext HP_7.out hb)
      clear HA_7 HX_7 Hbr_7 HP_7
      clear hb ho
      clear HA_8 HX_8
      have hln2 : ln = e + 1 := HLl.out
      subst hln2
      obtain ⟨q, ra, rc, hqa, cr, hro⟩ := HL_8.out.row i (by omega)
      subst hqa
      obtain ⟨q2, rb, rd, hqb, cs, hrs⟩ := HL_8.out.row e (by omega)
      have hqq : q = q2 := by simpa using hqb
      subst hqq
      have hie2 : (i : Int) < (e : Int) + 1 := by omega
      obtain ⟨y, hy⟩ : ∃ r, r = L.getD i [] := ⟨_, rfl⟩
      obtain ⟨z, hz⟩ : ∃ r, r = L.getD e [] := ⟨_, rfl⟩
      have hsh := HSh.out
      rw [← hy, ← hz] at hsh
      rw [← hy] at cr hro
      rw [← hz] at cs hrs
      have hql : q < w8.heap.size := V.cell_lt cr
      have HRo := Lib.hid hro.ints'
      have HRs := Lib.hid hrs.ints'
      have HVr := Lib.hid hsh
      have HCs := Lib.hid cs
      clear hro hrs hsh hy hz cs HSh
      clear HL_8
      go_wp2_with fail
      refine (V.shiftVector _ _ _ y g _ HRo.out).mono ?_
      rintro e w9 ⟨va, vn, vcap, rfl, ho, hb⟩
      rw [HVr.out] at ho ⊢
      have cs : w9.cell? ⟨q, e, none⟩ = some (.slice rb z.length rd) := (hb.cell (p := ⟨q, e, none⟩) hql).trans HCs.out
      have HRt := Lib.hid (HRs.out.below hb)
      clear cr HRo HRs HCs
      have HV_9 := Lib.hid (ho.ints')
      have Hbr_9 := Lib.hid (V.thn Hbr_8.out hb)
      have HP_9 := Lib.hid (V.bnext HP_8.out hb)
      clear Hbr_8 HP_8
      clear hb ho
      have hee : (e : Int) < (e : Int) + 1 := by omega
      go_wp2_with fail
      refine (V.likeV _ _ _ z _ _ _ _ HV_9.out HRt.out).mono ?_
      rintro e w10 ⟨rfl, hb⟩
      clear cs HRt
      have Hbr_10 := Lib.hid (V.thn Hbr_9.out hb)
      have HV_10 := Lib.hid (HV_9.out.below hb)
      have HP_10 := Lib.hid (V.bnext HP_9.out hb)
      clear Hbr_9 HV_9 HP_9
      clear hb 
      clear HV_10
      obtain ⟨cr0, cr1⟩ := HXr.out.cells Hbr_10.out
      have lr : w4.heap.size < w10.heap.size := by have := HXr.out.size; have := Hbr_10.out.size; omega
      by_cases h1 : one = 0
      · obtain ⟨e1, e2, e3, e4, e5, e6, e7⟩ := HRt2.out h1
        subst h1
        have m1 : IntKind.i64.wrap (r1 * c0) = r1 * c0 := IntWalk.i64_in _ (mul_in9 e2 e3 HC0.out.1 HC0.out.2)
        have m2 : IntKind.i64.wrap (g * r2) = r1 * c0 := by rw [← e1]; exact m1
        clear e1 e2 e3 e4 e5 e6 e7
        go_wp2
        go_ret
        exact ⟨by first | rfl | simp, HP_10.out⟩
      · have h1b : (one != 0) = true := by simpa using h1
        go_wp2
        go_ret
        exact ⟨rfl, HP_10.out⟩
    · have hd0b : (d != 0) = true := by simpa using hd0
      clear HLaw HOV HRV HD
      go_wp2
      go_ret
      exact ⟨rfl, HPz.out⟩
end Go.Proofs.Ytcofjjipjcekjab.fnOrbitRates
