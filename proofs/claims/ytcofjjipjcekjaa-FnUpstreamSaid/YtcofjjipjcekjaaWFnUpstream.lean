/- The walk through the law: it returns true and writes nothing that was there. For every code: no upstream mean is greater than the cycle mean, that of a node of the best cycle is equal to it, and UpstreamMean answers as its model. -/
import Derived.Test.YtcofjjipjcekjaaRows
import Derived.Test.YtcofjjipjcekjaaQa1
import Derived.Test.YtcofjjipjcekjaaQa2
import Derived.Test.YtcofjjipjcekjaaQa17
import Derived.Test.YtcofjjipjcekjaaQa14
import Derived.Test.YtcofjjipjcekjaaQa11
import Derived.Test.YtcofjjipjcekjaaQa6
import Derived.Test.YtcofjjipjcekjaaQa16
import Derived.WalkKit
import Derived.ProofKit
import Derived.OpenShut
import Derived.ShutString
import Derived.ChangeOld
import Derived.Below
import Derived.Lib.SmallJoins
import Derived.Lib.Hide
import Derived.WalkSmall
import Derived.Deep.Draws
import Derived.Deep.QuietTactic
import Derived.BigQuiet
import Derived.Deep.OwnRows
import Derived.Deep.RegionWith
import Derived.Deep.RegionHeld3
set_option linter.unusedSimpArgs false
set_option linter.unusedVariables false
set_option linter.unusedSectionVars false
namespace Go.Proofs.Ytcofjjipjcekjaa.fnUpstream
open Go.ChangeShapes Go.WideShapes Go.ChangeAt Go.RowKit
open Go.ChangeMaps (open_string shut_string)
set_option linter.unusedVariables false

set_option maxRecDepth 100000 in
set_option maxHeartbeats 4000000 in
theorem walk (a0 : Option Addr) (len0 cap0 : Nat) (z0 : List Int) (w : World) (w0 : V.IsRow .u8 w a0 len0 cap0 z0) :
    Calls Try.prog 4 #[.slice a0 len0 cap0] w fun e w' => e = .returned (.bool true) ∧ Below w.heap.size w w' := by
  have hB := w0.bytes
  have hm := hB.1
  by_cases hbig : 4096 < len0
  · have hd : decide (4096 < len0) = true := by simpa using hbig
    clear hB w0
    go_enter Try.func4, Try.ntmps4
    go_wp2_with (first | (go_at_call 14; refine (V.big _ _ _ _ hm).mono ?_; rintro e w' ⟨rfl, rfl⟩))
    go_ret
    exact ⟨rfl, Below.refl _ _⟩
  · have hd : decide (4096 < len0) = false := by simpa using hbig
    clear w0
    have HB := Lib.hid hB
    clear hB
    go_enter Try.func4, Try.ntmps4
    go_wp2_with (go_at_call 14; refine (V.big _ _ _ _ hm).mono ?_; rintro e w' ⟨rfl, rfl⟩)
    refine (V.drawUpstreamMean _ _ _ _ HB.out).mono ?_
    rintro e w1 ⟨a, n, cap, R, x, rfl, hA, hb⟩
    have HA := Lib.hid hA
    have HB1 := Lib.hid hb
    clear hb hA
    obtain ⟨rv, hrv⟩ : ∃ rv, rv = M.upRes R x := ⟨_, rfl⟩
    have HRV := Lib.hid hrv
    clear hrv
    obtain ⟨cv, hcv⟩ : ∃ cv, cv = M.cycMeanRes R := ⟨_, rfl⟩
    have HCV := Lib.hid hcv
    clear hcv
    obtain ⟨⟨r1, r2⟩, r3⟩ := rv
    obtain ⟨⟨c1, c2⟩, c3⟩ := cv
    go_wp2_with fail
    refine (V.upstreamMean _ _ _ R x _ HA.out).mono ?_
    rintro e w2 ⟨rfl, hb⟩
    rw [← HRV.out]
    obtain ⟨wx, hwx⟩ : ∃ z, z = w2.alloc (V.rbox r1 r2) := ⟨_, rfl⟩
    have HX : Hid (V.Boxed w2 wx r1 r2) := by show V.Boxed _ _ _ _; rw [hwx]; exact V.boxed _ _ _
    have HD2 := Lib.hid (hb.trans (HX.out.below.mono hb.size))
    clear hb
    go_wp2_with fail
    change Calls _ _ _ (w2.alloc (V.rbox r1 r2)) _
    rw [← hwx]
    clear hwx
    refine (V.sUpstreamMean _ _ _ R x _ (HA.out.below HD2.out)).mono ?_
    rintro e w3 ⟨rfl, hb⟩
    rw [← HRV.out]
    have HXy := Lib.hid hb
    obtain ⟨x0, x1⟩ := HX.out.cells hb
    have hlt : w2.heap.size < w3.heap.size := by have := hb.size; have := HX.out.size; omega
    obtain ⟨wy, hwy⟩ : ∃ z, z = w3.alloc (V.rbox r1 r2) := ⟨_, rfl⟩
    have HY : Hid (V.Boxed w3 wy r1 r2) := by show V.Boxed _ _ _ _; rw [hwy]; exact V.boxed _ _ _
    have HD3 := Lib.hid (HD2.out.trans ((hb.trans (HY.out.below.mono hb.size)).mono HD2.out.size))
    clear hb
    go_wp2_with fail
    change Calls _ _ _ (w3.alloc (V.rbox r1 r2)) _
    rw [← hwy]
    clear hwy x0 x1 hlt
    refine (V.cycleMean _ _ _ R _ (HA.out.below HD3.out)).mono ?_
    rintro e w4 ⟨rfl, hb⟩
    rw [← HCV.out]
    have HXz := Lib.hid (HXy.out.trans ((HY.out.below.trans (hb.mono HY.out.below.size)).mono HXy.out.size))
    have HD4 := Lib.hid (HD3.out.trans (hb.mono HD3.out.size))
    obtain ⟨x0, x1⟩ := HX.out.cells HXz.out
    have hlt : w2.heap.size < w4.heap.size := by have := HXz.out.size; have := HX.out.size; omega
    obtain ⟨wz, hwz⟩ : ∃ z, z = w4.alloc (V.rbox c1 c2) := ⟨_, rfl⟩
    have HZ : Hid (V.Boxed w4 wz c1 c2) := by show V.Boxed _ _ _ _; rw [hwz]; exact V.boxed _ _ _
    have HD5 := Lib.hid (HD4.out.trans (HZ.out.below.mono HD4.out.size))
    have HB5 : Hid (Below w.heap.size w (w4.alloc (V.rbox c1 c2))) := by show Below _ _ _; rw [← hwz]; exact HB1.out.trans (HD5.out.mono HB1.out.size)
    clear hb
    by_cases hr3 : r3 = 0
    · subst hr3
      by_cases hc3 : c3 = 0
      · subst hc3
        have hup := M.up_cmp (R := R) (x := x) (by rw [← HRV.out]) (by rw [← HCV.out])
        have hbs := M.up_best (R := R) (by rw [← HCV.out])
        have hbr : M.bestRes R = (M.bestCyc R, 0) := by
          obtain ⟨k1, k2, -, -⟩ := M.cyc_t (R := R) (by rw [← HCV.out])
          unfold M.bestRes; rw [if_pos k1, if_pos k2]
        have hln : 1 ≤ (M.bestCyc R).length := by
          obtain ⟨k1, k2, -, -⟩ := M.cyc_t (R := R) (by rw [← HCV.out])
          exact (M.best_cyc k1 k2).2.2.1
        rw [← HRV.out, ← HCV.out] at hup
        rw [← HCV.out] at hbs
        obtain ⟨k0, hk0⟩ : ∃ k0, k0 = (M.cmpOf r1 r2 c1 c2).1 := ⟨_, rfl⟩
        have HC2 : Hid ((M.cmpOf r1 r2 c1 c2).2 = 0) := hup.1
        have hk : k0 ≤ 0 := by rw [hk0]; exact hup.2
        have HK0 := Lib.hid hk0.symm
        have HBs := Lib.hid hbs
        have HBr := Lib.hid hbr
        have HLn := Lib.hid hln
        clear hup hbs hbr hln hk0
        go_wp2_with fail
        change Calls _ _ _ (w4.alloc (V.rbox c1 c2)) _
        rw [← hwz] at HB5 ⊢
        clear hwz
        refine (V.compareRatios r1 r2 c1 c2 _).mono ?_
        rintro e w5 ⟨rfl, hb⟩
        rw [HC2.out, HK0.out]
        have HZ5 := Lib.hid hb
        have HD6 := Lib.hid (HD5.out.trans (hb.mono HD5.out.size))
        clear hb x0 x1 hlt
        go_wp2_with fail
        refine (V.bestCycle _ _ _ R _ (HA.out.below HD6.out)).mono ?_
        rintro e w6 ⟨ba, bn, bc, rfl, ho, hb⟩
        rw [HBr.out] at ho ⊢
        have HZ6 := Lib.hid (HZ5.out.trans (hb.mono HZ5.out.size))
        have HD7 := Lib.hid (HD6.out.trans (hb.mono HD6.out.size))
        have hbn : bn = (M.bestCyc R).length := ho.len
        obtain ⟨cb, co, y0, rfl, -, hy0, cy0⟩ := ho.ints'.at 0 (by have := HLn.out; omega)
        have hn0 : 0 < bn := by have := HLn.out; omega
        rw [Nat.add_zero] at cy0
        have HY0 := Lib.hid hy0
        clear ho hb hbn hy0
        go_wp2_with fail
        refine (V.upstreamMean _ _ _ R y0 _ (HA.out.below HD7.out)).mono ?_
        rintro e w7 ⟨rfl, hb⟩
        rw [HY0.out, HBs.out]
        have HZ7 := Lib.hid (HZ6.out.trans (hb.mono HZ6.out.size))
        obtain ⟨z0, z1⟩ := HZ.out.cells HZ7.out
        have hlt : w4.heap.size < w7.heap.size := by have := HZ7.out.size; have := HZ.out.size; omega
        have HD8 := Lib.hid (HD7.out.trans (hb.mono HD7.out.size))
        have HB8 := Lib.hid (HB1.out.trans (HD8.out.mono HB1.out.size))
        clear hb cy0
        go_wp2
        go_ret
        exact ⟨rfl, by first | exact HB8.out.alloc HB8.out.size _ | exact HB8.out⟩
      · have hc3b : (c3 != 0) = true := by simpa using hc3
        go_wp2
        go_ret
        exact ⟨rfl, HB5.out⟩
    · have hr3b : (r3 != 0) = true := by simpa using hr3
      go_wp2
      go_ret
      exact ⟨rfl, HB5.out⟩
end Go.Proofs.Ytcofjjipjcekjaa.fnUpstream
