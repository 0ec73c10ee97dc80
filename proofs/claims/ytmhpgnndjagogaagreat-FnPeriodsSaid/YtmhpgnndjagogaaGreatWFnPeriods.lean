/- The walk through the law: it returns true and writes nothing that was there. For every code: PeriodAt, Cyclicity and CriticalComponents answer as their models, the period of a critical component divides the number of nodes of the best cycle in it, and the cyclicity is a multiple of it. -/
import Derived.Test.YtmhpgnndjagogaaGreatRows
import Derived.Test.YtmhpgnndjagogaaGreatQz1
import Derived.Test.YtmhpgnndjagogaaGreatQz2
import Derived.Test.YtmhpgnndjagogaaGreatQz24
import Derived.Test.YtmhpgnndjagogaaGreatQz19
import Derived.Test.YtmhpgnndjagogaaGreatQz17
import Derived.Test.YtmhpgnndjagogaaGreatQz22
import Derived.Test.YtmhpgnndjagogaaGreatQz12
import Derived.Test.YtmhpgnndjagogaaGreatQz15
import Derived.WalkKit
import Derived.ProofKit
import Derived.OpenShut
import Derived.ShutString
import Derived.ChangeOld
import Derived.Below
import Derived.Lib.SmallJoins
import Derived.Lib.Hide
import Derived.WalkSmall
import Derived.Deep.Draws
import Derived.Deep.QuietTactic
import Derived.BigQuiet
import Derived.Deep.OwnRows
import Derived.Deep.RegionWith
import Derived.Deep.RegionHeld3
set_option linter.unusedSimpArgs false
set_option linter.unusedVariables false
set_option linter.unusedSectionVars false
namespace Go.Proofs.YtmhpgnndjagogaaGreat.fnPeriods
open Go.ChangeShapes Go.WideShapes Go.ChangeAt Go.RowKit
open Go.ChangeMaps (open_string shut_string)
set_option linter.unusedVariables false

set_option maxRecDepth 100000 in
set_option maxHeartbeats 4000000 in
theorem walk (a0 : Option Addr) (len0 cap0 : Nat) (z0 : List Int) (w : World) (w0 : V.IsRow .u8 w a0 len0 cap0 z0) :
    Calls Tryz.prog 5 #[.slice a0 len0 cap0] w fun e w' => e = .returned (.bool true) ∧ Below w.heap.size w w' := by
  have hB := w0.bytes
  have hm := hB.1
  by_cases hbig : 4096 < len0
  · have hd : decide (4096 < len0) = true := by simpa using hbig
    clear hB w0
    go_enter Tryz.func5, Tryz.ntmps5
    go_wp2_with (first | (go_at_call 11; refine (V.big _ _ _ _ hm).mono ?_; rintro e w' ⟨rfl, rfl⟩))
    go_ret
    exact ⟨rfl, Below.refl _ _⟩
  · have hd : decide (4096 < len0) = false := by simpa using hbig
    clear w0
    have HB := Lib.hid hB
    clear hB
    go_enter Tryz.func5, Tryz.ntmps5
    go_wp2_with (go_at_call 11; refine (V.big _ _ _ _ hm).mono ?_; rintro e w' ⟨rfl, rfl⟩)
    refine (V.drawPeriodAt _ _ _ _ HB.out).mono ?_
    rintro e w1 ⟨a, n, cap, R, x, rfl, hA, hb⟩
    have HA := Lib.hid hA
    have HB1 := Lib.hid hb
    clear hb hA
    obtain ⟨pv, hpv⟩ : ∃ pv, pv = M.perRes R x := ⟨_, rfl⟩
    have HPV := Lib.hid hpv
    obtain ⟨cv, hcv⟩ : ∃ cv, cv = M.cycloRes R := ⟨_, rfl⟩
    have HCV := Lib.hid hcv
    obtain ⟨lv, hlv⟩ : ∃ lv, lv = M.compRes R := ⟨_, rfl⟩
    have HLV := Lib.hid hlv
    have HC0 : Hid (cv.2 = 0 → M.crCode R = 0 ∧ cv.1 = M.cycP R (M.crComps R).length) := fun h => by
      rw [hcv] at h ⊢
      unfold M.cycloRes at h ⊢
      by_cases q : M.crCode R = 0
      · rw [if_pos q]; exact ⟨q, rfl⟩
      · rw [if_neg q] at h; exact absurd h q
    clear hpv hcv hlv
    obtain ⟨p1, p2⟩ := pv
    obtain ⟨c1, c2⟩ := cv
    go_wp2_with fail
    refine (V.periodAt _ _ _ R x _ HA.out).mono ?_
    rintro e w2 ⟨rfl, hb⟩
    rw [← HPV.out]
    have HD2 := Lib.hid hb
    clear hb
    go_wp2_with fail
    refine (V.sPeriodAt _ _ _ R x _ (HA.out.below HD2.out)).mono ?_
    rintro e w3 ⟨rfl, hb⟩
    rw [← HPV.out]
    have HD3 := Lib.hid (HD2.out.trans (hb.mono HD2.out.size))
    clear hb
    go_wp2_with fail
    refine (V.cyclicity _ _ _ R _ (HA.out.below HD3.out)).mono ?_
    rintro e w4 ⟨rfl, hb⟩
    rw [← HCV.out]
    have HD4 := Lib.hid (HD3.out.trans (hb.mono HD3.out.size))
    clear hb
    go_wp2_with fail
    refine (V.sCyclicity _ _ _ R _ (HA.out.below HD4.out)).mono ?_
    rintro e w5 ⟨rfl, hb⟩
    rw [← HCV.out]
    have HD5 := Lib.hid (HD4.out.trans (hb.mono HD4.out.size))
    clear hb
    go_wp2_with fail
    refine (V.criticalComponentsX _ _ _ R _ (HA.out.below HD5.out)).mono ?_
    rintro e w6 ⟨ga, gn, gc, rfl, ho, hb⟩
    rw [← HLV.out] at ho ⊢
    have hgl : gn = lv.1.length := ho.len
    have HG6 := Lib.hid ho.mat
    have HD6 := Lib.hid (HD5.out.trans (hb.mono HD5.out.size))
    clear ho hb
    subst hgl
    go_wp2_with fail
    refine (V.sCriticalComponents _ _ _ R _ (HA.out.below HD6.out)).mono ?_
    rintro e w7 ⟨sa, sn, sc, rfl, ho, hb⟩
    rw [← HLV.out] at ho ⊢
    have hsl : sn = lv.1.length := ho.len
    have HS7 := Lib.hid ho.mat
    have HG7 := Lib.hid (HG6.out.below hb)
    have HD7 := Lib.hid (HD6.out.trans (hb.mono HD6.out.size))
    clear ho hb
    subst hsl
    go_wp2_with fail
    refine (V.likeM _ _ _ lv.1 _ _ _ _ HG7.out HS7.out).mono ?_
    rintro e w8 ⟨rfl, hb⟩
    have HD8 := Lib.hid (HD7.out.trans (hb.mono HD7.out.size))
    have HB8 := Lib.hid (HB1.out.trans (HD8.out.mono HB1.out.size))
    clear hb
    by_cases hc2 : c2 = 0
    · subst hc2
      obtain ⟨hk, hc1⟩ := HC0.out rfl
      obtain ⟨q, hq, q1, q2, q3, q4⟩ := M.per_best hk
      obtain ⟨h1, h2⟩ := M.cr_code hk
      have hbr : M.bestRes R = (M.bestCyc R, 0) := by unfold M.bestRes; rw [if_pos h1, if_pos h2]
      have hln := (M.best_cyc h1 h2).2.2
      have hany := fun h => M.per_any (x := x) hk h
      rw [← HPV.out] at hany
      rw [← hc1] at q4 hany
      have HQ := Lib.hid hq
      have HBr := Lib.hid hbr
      have HLn := Lib.hid hln
      have HAny := Lib.hid hany
      clear hq hbr hln hany hc1 hk h1 h2 HC0
      go_wp2_with fail
      refine (V.bestCycle _ _ _ R _ (HA.out.below HD8.out)).mono ?_
      rintro e w9 ⟨ba, bn, bc, rfl, ho, hb⟩
      rw [HBr.out] at ho ⊢
      have hbn : bn = (M.bestCyc R).length := ho.len
      rw [← hbn] at q3
      obtain ⟨cb, co, y0, rfl, -, hy0, cy0⟩ := ho.ints'.at 0 (by have := HLn.out; omega)
      have hn0 : 0 < bn := by have := HLn.out; omega
      have hn1 : bn ≤ 10 := by have := HLn.out; omega
      rw [Nat.add_zero] at cy0
      have HY0 := Lib.hid hy0
      have HD9 := Lib.hid (HD8.out.trans (hb.mono HD8.out.size))
      clear ho hb hbn hy0
      go_wp2_with fail
      refine (V.periodAt _ _ _ R y0 _ (HA.out.below HD9.out)).mono ?_
      rintro e w10 ⟨rfl, hb⟩
      rw [HY0.out, HQ.out]
      have HD10 := Lib.hid (HD9.out.trans (hb.mono HD9.out.size))
      have HB10 := Lib.hid (HB1.out.trans (HD10.out.mono HB1.out.size))
      have qne : (q == 0) = false := by simp; omega
      clear hb cy0
      by_cases hp2 : p2 = 0
      · subst hp2
        obtain ⟨t1, t2, t3⟩ := HAny.out rfl
        have t1' : 0 < p1 := t1
        have t2' : p1 ≤ 10 := t2
        have t3' : c1.tmod p1 = 0 := t3
        have pne : (p1 == 0) = false := by simp; omega
        clear t1 t2 t3
        go_wp2
        go_ret
        exact ⟨rfl, HB10.out⟩
      · have hp2b : (p2 != 0) = true := by simpa using hp2
        go_wp2
        go_ret
        exact ⟨rfl, HB10.out⟩
    · have hc2b : (c2 != 0) = true := by simpa using hc2
      go_wp2
      go_ret
      exact ⟨rfl, HB8.out⟩
end Go.Proofs.YtmhpgnndjagogaaGreat.fnPeriods
