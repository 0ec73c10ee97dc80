/- The walk through the law: it returns true and writes nothing that was there. For every code: CycleMean, TableMean and MeanOf answer as their models, the table mean is the cycle mean, and no cycle has a greater one. -/
import Derived.Test.YtnnajlehhfmjfaaRows
import Derived.Test.YtnnajlehhfmjfaaQe1
import Derived.Test.YtnnajlehhfmjfaaQe2
import Derived.Test.YtnnajlehhfmjfaaQe10
import Derived.Test.YtnnajlehhfmjfaaQe11
import Derived.Test.YtnnajlehhfmjfaaQe15
import Derived.Test.YtnnajlehhfmjfaaQe7
import Derived.Test.YtnnajlehhfmjfaaQe17
import Derived.Test.YtnnajlehhfmjfaaQe9
import Derived.WalkKit
import Derived.ProofKit
import Derived.OpenShut
import Derived.ShutString
import Derived.ChangeOld
import Derived.Below
import Derived.Lib.SmallJoins
import Derived.Lib.Hide
import Derived.WalkSmall
import Derived.Deep.Draws
import Derived.Deep.QuietTactic
import Derived.BigQuiet
import Derived.Deep.OwnRows
import Derived.Deep.RegionWith
import Derived.Deep.RegionHeld3
set_option linter.unusedSimpArgs false
set_option linter.unusedVariables false
set_option linter.unusedSectionVars false
namespace Go.Proofs.Ytnnajlehhfmjfaa.fnMeans
open Go.ChangeShapes Go.WideShapes Go.ChangeAt Go.RowKit
open Go.ChangeMaps (open_string shut_string)
set_option linter.unusedVariables false

set_option maxRecDepth 100000 in
set_option maxHeartbeats 4000000 in
theorem walk (a0 : Option Addr) (len0 cap0 : Nat) (z0 : List Int) (w : World) (w0 : V.IsRow .u8 w a0 len0 cap0 z0) :
    Calls Try.prog 3 #[.slice a0 len0 cap0] w fun e w' => e = .returned (.bool true) ∧ Below w.heap.size w w' := by
  have hB := w0.bytes
  have hm := hB.1
  by_cases hbig : 4096 < len0
  · have hd : decide (4096 < len0) = true := by simpa using hbig
    clear hB w0
    go_enter Try.func3, Try.ntmps3
    go_wp2_with (first | (go_at_call 13; refine (V.big _ _ _ _ hm).mono ?_; rintro e w' ⟨rfl, rfl⟩))
    go_ret
    exact ⟨rfl, Below.refl _ _⟩
  · have hd : decide (4096 < len0) = false := by simpa using hbig
    clear w0
    have HB := Lib.hid hB
    clear hB
    go_enter Try.func3, Try.ntmps3
    go_wp2_with (go_at_call 13; refine (V.big _ _ _ _ hm).mono ?_; rintro e w' ⟨rfl, rfl⟩)
    refine (V.drawCycleMean _ _ _ _ HB.out).mono ?_
    rintro e w1 ⟨a, n, cap, R, rfl, hA, hb⟩
    have HA := Lib.hid hA
    have HP0 := Lib.hid hb
    clear hb hA
    obtain ⟨cv, hcv⟩ : ∃ cv, cv = M.cycMeanRes R := ⟨_, rfl⟩
    have HCV := Lib.hid hcv
    have HTV : Hid (cv = M.tabRes R) := by show _ = _; rw [hcv, M.tab_same]
    clear hcv
    obtain ⟨⟨c1, c2⟩, c3⟩ := cv
    have HA0 : Hid (Below w1.heap.size w1 w1) := Below.refl _ _
    go_wp2_with fail
    refine (V.cycleMean _ _ _ R _ (HA.out.below HA0.out)).mono ?_
    rintro e w2 ⟨rfl, hb⟩
    rw [← HCV.out]
    have HP1 := Lib.hid (V.thn HP0.out hb)
    have HA1 := Lib.hid (V.thn HA0.out hb)
    clear HP0 HA0
    clear hb
    obtain ⟨xr, hxr⟩ : ∃ z, z = w2.alloc (V.rbox c1 c2) := ⟨_, rfl⟩
    have HXr : Hid (V.Boxed w2 xr c1 c2) := by show V.Boxed _ _ _ _; rw [hxr]; exact V.boxed _ _ _
    have HP2 := Lib.hid (V.thn HP1.out HXr.out.below)
    have HA2 := Lib.hid (V.thn HA1.out HXr.out.below)
    clear HP1 HA1
    have Hr2 : Hid (Below xr.heap.size xr xr) := Below.refl _ _
    go_wp2_with fail
    change Calls _ _ _ (w2.alloc (V.rbox c1 c2)) _
    rw [← hxr]
    clear hxr
    refine (V.sCycleMean _ _ _ R _ (HA.out.below HA2.out)).mono ?_
    rintro e w3 ⟨rfl, hb⟩
    rw [← HCV.out]
    have HP3 := Lib.hid (V.thn HP2.out hb)
    have HA3 := Lib.hid (V.thn HA2.out hb)
    have Hr3 := Lib.hid (V.thn Hr2.out hb)
    clear HP2 HA2 Hr2
    clear hb
    obtain ⟨xm, hxm⟩ : ∃ z, z = w3.alloc (V.rbox c1 c2) := ⟨_, rfl⟩
    have HXm : Hid (V.Boxed w3 xm c1 c2) := by show V.Boxed _ _ _ _; rw [hxm]; exact V.boxed _ _ _
    have HP4 := Lib.hid (V.thn HP3.out HXm.out.below)
    have HA4 := Lib.hid (V.thn HA3.out HXm.out.below)
    have Hr4 := Lib.hid (V.thn Hr3.out HXm.out.below)
    clear HP3 HA3 Hr3
    have Hm4 : Hid (Below xm.heap.size xm xm) := Below.refl _ _
    go_wp2_with fail
    change Calls _ _ _ (w3.alloc (V.rbox c1 c2)) _
    rw [← hxm]
    clear hxm
    refine (V.tableMean _ _ _ R _ (HA.out.below HA4.out)).mono ?_
    rintro e w4 ⟨rfl, hb⟩
    rw [← HTV.out]
    have HP5 := Lib.hid (V.thn HP4.out hb)
    have HA5 := Lib.hid (V.thn HA4.out hb)
    have Hr5 := Lib.hid (V.thn Hr4.out hb)
    have Hm5 := Lib.hid (V.thn Hm4.out hb)
    clear HP4 HA4 Hr4 Hm4
    clear hb
    obtain ⟨xt, hxt⟩ : ∃ z, z = w4.alloc (V.rbox c1 c2) := ⟨_, rfl⟩
    have HXt : Hid (V.Boxed w4 xt c1 c2) := by show V.Boxed _ _ _ _; rw [hxt]; exact V.boxed _ _ _
    have HP6 := Lib.hid (V.thn HP5.out HXt.out.below)
    have HA6 := Lib.hid (V.thn HA5.out HXt.out.below)
    have Hr6 := Lib.hid (V.thn Hr5.out HXt.out.below)
    have Hm6 := Lib.hid (V.thn Hm5.out HXt.out.below)
    clear HP5 HA5 Hr5 Hm5
    have Ht6 : Hid (Below xt.heap.size xt xt) := Below.refl _ _
    go_wp2_with fail
    change Calls _ _ _ (w4.alloc (V.rbox c1 c2)) _
    rw [← hxt]
    clear hxt
    refine (V.sTableMean _ _ _ R _ (HA.out.below HA6.out)).mono ?_
    rintro e w5 ⟨rfl, hb⟩
    rw [← HTV.out]
    have HP7 := Lib.hid (V.thn HP6.out hb)
    have HA7 := Lib.hid (V.thn HA6.out hb)
    have Hr7 := Lib.hid (V.thn Hr6.out hb)
    have Hm7 := Lib.hid (V.thn Hm6.out hb)
    have Ht7 := Lib.hid (V.thn Ht6.out hb)
    clear HP6 HA6 Hr6 Hm6 Ht6
    clear hb
    obtain ⟨xs, hxs⟩ : ∃ z, z = w5.alloc (V.rbox c1 c2) := ⟨_, rfl⟩
    have HXs : Hid (V.Boxed w5 xs c1 c2) := by show V.Boxed _ _ _ _; rw [hxs]; exact V.boxed _ _ _
    have HP8 := Lib.hid (V.thn HP7.out HXs.out.below)
    have HA8 := Lib.hid (V.thn HA7.out HXs.out.below)
    have Hr8 := Lib.hid (V.thn Hr7.out HXs.out.below)
    have Hm8 := Lib.hid (V.thn Hm7.out HXs.out.below)
    have Ht8 := Lib.hid (V.thn Ht7.out HXs.out.below)
    clear HP7 HA7 Hr7 Hm7 Ht7
    have Hs8 : Hid (Below xs.heap.size xs xs) := Below.refl _ _
    go_wp2_with fail
    change Calls _ _ _ (w5.alloc (V.rbox c1 c2)) _
    rw [← hxs]
    clear hxs
    refine (V.drawMeanOf _ _ _ _ (HB.out.below HP8.out)).mono ?_
    rintro e w6 ⟨ba, bn, bc, Rb, la, ln, lc, l, rfl, hM, hI, hc1, hc2, hb⟩
    have HP9 := Lib.hid (V.thn HP8.out hb)
    have HA9 := Lib.hid (V.thn HA8.out hb)
    have Hr9 := Lib.hid (V.thn Hr8.out hb)
    have Hm9 := Lib.hid (V.thn Hm8.out hb)
    have Ht9 := Lib.hid (V.thn Ht8.out hb)
    have Hs9 := Lib.hid (V.thn Hs8.out hb)
    clear HP8 HA8 Hr8 Hm8 Ht8 Hs8
    have HM := Lib.hid hM
    have HI := Lib.hid hI
    have HCp := Lib.hid (And.intro hc1 hc2)
    have HM9 : Hid (Below w6.heap.size w6 w6) := Below.refl _ _
    clear hb hM hI hc1 hc2 HA HA9
    obtain ⟨mv, hmv⟩ : ∃ mv, mv = M.meanRes Rb l := ⟨_, rfl⟩
    have HMV := Lib.hid hmv
    clear hmv
    obtain ⟨⟨m1, m2⟩, m3⟩ := mv
    go_wp2_with fail
    refine (V.meanOf _ _ _ Rb _ _ _ l _ (HM.out.below HM9.out) (HI.out.below HM9.out) HCp.out.1 HCp.out.2).mono ?_
    rintro e w7 ⟨rfl, hb⟩
    rw [← HMV.out]
    have HP10 := Lib.hid (V.thn HP9.out hb)
    have Hr10 := Lib.hid (V.thn Hr9.out hb)
    have Hm10 := Lib.hid (V.thn Hm9.out hb)
    have Ht10 := Lib.hid (V.thn Ht9.out hb)
    have Hs10 := Lib.hid (V.thn Hs9.out hb)
    have HM10 := Lib.hid (V.thn HM9.out hb)
    clear HP9 Hr9 Hm9 Ht9 Hs9 HM9
    clear hb
    obtain ⟨xk, hxk⟩ : ∃ z, z = w7.alloc (V.rbox m1 m2) := ⟨_, rfl⟩
    have HXk : Hid (V.Boxed w7 xk m1 m2) := by show V.Boxed _ _ _ _; rw [hxk]; exact V.boxed _ _ _
    have HP11 := Lib.hid (V.thn HP10.out HXk.out.below)
    have Hr11 := Lib.hid (V.thn Hr10.out HXk.out.below)
    have Hm11 := Lib.hid (V.thn Hm10.out HXk.out.below)
    have Ht11 := Lib.hid (V.thn Ht10.out HXk.out.below)
    have Hs11 := Lib.hid (V.thn Hs10.out HXk.out.below)
    have HM11 := Lib.hid (V.thn HM10.out HXk.out.below)
    clear HP10 Hr10 Hm10 Ht10 Hs10 HM10
    have Hk11 : Hid (Below xk.heap.size xk xk) := Below.refl _ _
    go_wp2_with fail
    change Calls _ _ _ (w7.alloc (V.rbox m1 m2)) _
    rw [← hxk]
    clear hxk
    refine (V.sMeanOf _ _ _ Rb _ _ _ l _ (HM.out.below HM11.out) (HI.out.below HM11.out) HCp.out.1 HCp.out.2).mono ?_
    rintro e w8 ⟨rfl, hb⟩
    rw [← HMV.out]
    have HP12 := Lib.hid (V.thn HP11.out hb)
    have Hr12 := Lib.hid (V.thn Hr11.out hb)
    have Hm12 := Lib.hid (V.thn Hm11.out hb)
    have Ht12 := Lib.hid (V.thn Ht11.out hb)
    have Hs12 := Lib.hid (V.thn Hs11.out hb)
    have HM12 := Lib.hid (V.thn HM11.out hb)
    have Hk12 := Lib.hid (V.thn Hk11.out hb)
    clear HP11 Hr11 Hm11 Ht11 Hs11 HM11 Hk11
    clear hb
    obtain ⟨xq, hxq⟩ : ∃ z, z = w8.alloc (V.rbox m1 m2) := ⟨_, rfl⟩
    have HXq : Hid (V.Boxed w8 xq m1 m2) := by show V.Boxed _ _ _ _; rw [hxq]; exact V.boxed _ _ _
    have HP13 := Lib.hid (V.thn HP12.out HXq.out.below)
    have Hr13 := Lib.hid (V.thn Hr12.out HXq.out.below)
    have Hm13 := Lib.hid (V.thn Hm12.out HXq.out.below)
    have Ht13 := Lib.hid (V.thn Ht12.out HXq.out.below)
    have Hs13 := Lib.hid (V.thn Hs12.out HXq.out.below)
    have HM13 := Lib.hid (V.thn HM12.out HXq.out.below)
    have Hk13 := Lib.hid (V.thn Hk12.out HXq.out.below)
    clear HP12 Hr12 Hm12 Ht12 Hs12 HM12 Hk12
    have Hq13 : Hid (Below xq.heap.size xq xq) := Below.refl _ _
    have yr := HXr.out.cells Hr13.out
    have lr : w2.heap.size < xq.heap.size := by have := Hr13.out.size; have := HXr.out.size; omega
    have ym := HXm.out.cells Hm13.out
    have lm : w3.heap.size < xq.heap.size := by have := Hm13.out.size; have := HXm.out.size; omega
    have yt := HXt.out.cells Ht13.out
    have lt : w4.heap.size < xq.heap.size := by have := Ht13.out.size; have := HXt.out.size; omega
    have ys := HXs.out.cells Hs13.out
    have ls : w5.heap.size < xq.heap.size := by have := Hs13.out.size; have := HXs.out.size; omega
    have yk := HXk.out.cells Hk13.out
    have lk : w7.heap.size < xq.heap.size := by have := Hk13.out.size; have := HXk.out.size; omega
    have yq := HXq.out.cells Hq13.out
    have lq : w8.heap.size < xq.heap.size := by have := Hq13.out.size; have := HXq.out.size; omega
    rw [hxq] at yr lr ym lm yt lt ys ls yk lk yq lq
    obtain ⟨yr0, yr1⟩ := yr
    obtain ⟨ym0, ym1⟩ := ym
    obtain ⟨yt0, yt1⟩ := yt
    obtain ⟨ys0, ys1⟩ := ys
    obtain ⟨yk0, yk1⟩ := yk
    obtain ⟨yq0, yq1⟩ := yq
    have HPz : Hid (Below w.heap.size w (w8.alloc (V.rbox m1 m2))) := by show Below _ _ _; rw [← hxq]; exact HP13.out
    by_cases hm3 : m3 = 0
    · subst hm3
      have hmm := M.mean_most (R := Rb) (l := l) (by rw [← HMV.out])
      rw [← HMV.out] at hmm
      obtain ⟨dv, hdv⟩ : ∃ dv, dv = M.cycMeanRes Rb := ⟨_, rfl⟩
      rw [← hdv] at hmm
      have HDV := Lib.hid hdv
      have HMM := Lib.hid hmm
      clear hmm hdv
      obtain ⟨⟨d1, d2⟩, d3⟩ := dv
      go_wp2_with fail
      change Calls _ _ _ (w8.alloc (V.rbox m1 m2)) _
      clear yr0 yr1 lr ym0 ym1 lm yt0 yt1 lt ys0 ys1 ls yk0 yk1 lk yq0 yq1 lq HPz
      rw [← hxq]
      clear hxq
      refine (V.cycleMean _ _ _ Rb _ (HM.out.below HM13.out)).mono ?_
      rintro e w9 ⟨rfl, hb⟩
      rw [← HDV.out]
      have HP14 := Lib.hid (V.thn HP13.out hb)
      have Hk14 := Lib.hid (V.thn Hk13.out hb)
      clear HP13 Hk13
      clear hb
      obtain ⟨xd, hxd⟩ : ∃ z, z = w9.alloc (V.rbox d1 d2) := ⟨_, rfl⟩
      have HXd : Hid (V.Boxed w9 xd d1 d2) := by show V.Boxed _ _ _ _; rw [hxd]; exact V.boxed _ _ _
      have HP15 := Lib.hid (V.thn HP14.out HXd.out.below)
      have Hk15 := Lib.hid (V.thn Hk14.out HXd.out.below)
      clear HP14 Hk14
      obtain ⟨yk0, yk1⟩ := HXk.out.cells Hk15.out
      have lk : w7.heap.size < xd.heap.size := by have := Hk15.out.size; have := HXk.out.size; omega
      rw [hxd] at yk0 yk1 lk
      obtain ⟨⟨k0, k2⟩, hk0⟩ : ∃ k0, k0 = M.cmpOf m1 m2 d1 d2 := ⟨_, rfl⟩
      have HK0 := Lib.hid hk0
      have HMM2 : Hid (d3 = 3 ∨ d3 = 0 ∧ k2 = 0 ∧ k0 ≤ 0) := by
        show _; have h := HMM.out
        have e1 : k0 = (M.cmpOf m1 m2 d1 d2).1 := by rw [← hk0]
        have e2 : k2 = (M.cmpOf m1 m2 d1 d2).2 := by rw [← hk0]
        rw [e1, e2]; exact h
      clear hk0 HMM
      go_wp2_with fail
      change Calls _ _ _ (w9.alloc (V.rbox d1 d2)) _
      rw [← hxd]
      clear hxd yk0 yk1 lk
      refine (V.compareRatios m1 m2 d1 d2 _).mono ?_
      rintro e w10 ⟨rfl, hb⟩
      rw [← HK0.out]
      have HP16 := Lib.hid (V.thn HP15.out hb)
      clear HP15
      clear hb
      have hcase := HMM2.out
      rcases hcase with hcase | ⟨h0, h1, h2⟩
      · subst hcase
        go_wp2
        go_ret
        exact ⟨rfl, HP16.out⟩
      · subst h0 h1
        go_wp2
        go_ret
        exact ⟨rfl, HP16.out⟩
    · have hm3b : (m3 != 0) = true := by simpa using hm3
      go_wp2
      go_ret
      exact ⟨rfl, HPz.out⟩
end Go.Proofs.Ytnnajlehhfmjfaa.fnMeans
