/- The walk through the law: it returns true and writes nothing that was there. For every code: StartedTimes answers as its model for the drawn graph, number and starts, no firing is earlier than its start or than without starts, and none is later by more than the greatest start. -/
import Derived.Test.YtjbffpmelglegaaRows
import Derived.Test.YtjbffpmelglegaaQa1
import Derived.Test.YtjbffpmelglegaaQa2
import Derived.Test.YtjbffpmelglegaaQa94
import Derived.Test.YtjbffpmelglegaaQa96
import Derived.Test.YtjbffpmelglegaaQa7
import Derived.WalkKit
import Derived.ProofKit
import Derived.OpenShut
import Derived.ShutString
import Derived.ChangeOld
import Derived.Below
import Derived.Lib.SmallJoins
import Derived.Lib.Hide
import Derived.WalkSmall
import Derived.Deep.Draws
import Derived.Deep.QuietTactic
import Derived.BigQuiet
import Derived.Deep.OwnRows
import Derived.Deep.RegionWith
import Derived.Deep.RegionHeld3
set_option linter.unusedSimpArgs false
set_option linter.unusedVariables false
set_option linter.unusedSectionVars false
namespace Go.Proofs.Ytjbffpmelglegaa.fnStarted
open Go.ChangeShapes Go.WideShapes Go.ChangeAt Go.RowKit
open Go.ChangeMaps (open_string shut_string)
set_option linter.unusedVariables false

set_option maxRecDepth 100000 in
set_option maxHeartbeats 4000000 in
theorem walk (a0 : Option Addr) (len0 cap0 : Nat) (z0 : List Int) (w : World) (w0 : V.IsRow .u8 w a0 len0 cap0 z0) :
    Calls Try.prog 11 #[.slice a0 len0 cap0] w fun e w' => e = .returned (.bool true) ∧ Below w.heap.size w w' := by
  have hB := w0.bytes
  have hm := hB.1
  by_cases hbig : 4096 < len0
  · have hd : decide (4096 < len0) = true := by simpa using hbig
    clear hB w0
    go_enter Try.func11, Try.ntmps11
    go_wp2_with (first | (go_at_call 35; refine (V.big _ _ _ _ hm).mono ?_; rintro e w' ⟨rfl, rfl⟩))
    go_ret
    exact ⟨rfl, Below.refl _ _⟩
  · have hd : decide (4096 < len0) = false := by simpa using hbig
    clear w0
    have HB := Lib.hid hB
    clear hB
    go_enter Try.func11, Try.ntmps11
    go_wp2_with (go_at_call 35; refine (V.big _ _ _ _ hm).mono ?_; rintro e w' ⟨rfl, rfl⟩)
    refine (V.drawStartedTimes _ _ _ _ HB.out).mono ?_
    rintro e wd ⟨x, q, n, c, l, yI, fa, mm, c2, S, rfl, hpl, hfr, hn60, hmm, hbd⟩
    have hGb := V.gBox_new wd x (some ⟨q, 0, none⟩) n c 41
    have hpl0 := hpl.below (V.b_alloc wd (.cells #[.int .i64 x, .slice (some ⟨q, 0, none⟩) n c] 41))
    have hfr0 := hfr.below (V.b_alloc wd (.cells #[.int .i64 x, .slice (some ⟨q, 0, none⟩) n c] 41))
    have hw0b : Below w.heap.size w (wd.alloc (.cells #[.int .i64 x, .slice (some ⟨q, 0, none⟩) n c] 41)) := hbd.trans ((V.b_alloc wd _).mono hbd.size)
    obtain ⟨w_0, hw0⟩ : ∃ z, z = wd.alloc (.cells #[.int .i64 x, .slice (some ⟨q, 0, none⟩) n c] 41) := ⟨_, rfl⟩
    rw [← hw0] at hGb hpl0 hfr0 hw0b
    obtain ⟨gb, hgb⟩ : ∃ b, b = wd.heap.size := ⟨_, rfl⟩
    rw [← hgb] at hGb
    have HWd := Lib.hid hw0.symm
    have HGbd := Lib.hid hgb.symm
    have HGb := Lib.hid hGb
    have HPl0 := Lib.hid hpl0
    have HFr0 := Lib.hid hfr0
    have HW := Lib.hid hw0b
    have HP_0 := Lib.hid (Below.refl w_0.heap.size w_0)
    obtain ⟨⟨TX, c1⟩, h1⟩ : ∃ r, r = M.stRes x l yI S := ⟨_, rfl⟩
    have HX1 : Hid (∀ w, V.Pls w (some ⟨q, 0, none⟩) n l → V.Ints .i64 w fa mm S → Calls Try.prog 57 #[.agg #[.int .i64 x, .slice (some ⟨q, 0, none⟩) n c], .int .i64 yI, .slice fa mm c2] w (V.MRes (TX, c1) w)) := fun w h hf => by rw [h1]; exact V.startedTimes x _ n c l yI fa mm c2 S w h hf
    have HX2 : Hid (∀ w, V.Pls w (some ⟨q, 0, none⟩) n l → V.Ints .i64 w fa mm S → Calls Try.prog 58 #[.agg #[.int .i64 x, .slice (some ⟨q, 0, none⟩) n c], .int .i64 yI, .slice fa mm c2] w (V.MRes (TX, c1) w)) := fun w h hf => by rw [h1]; exact V.sStartedTimes x _ n c l yI fa mm c2 S w h hf
    have H1 := Lib.hid h1.symm
    have HY : Hid (∀ TY cy, M.ftRes x l yI = (TY, cy) → ∀ w, V.Pls w (some ⟨q, 0, none⟩) n l → Calls Try.prog 45 #[.agg #[.int .i64 x, .slice (some ⟨q, 0, none⟩) n c], .int .i64 yI] w (V.MRes (TY, cy) w)) := fun TY cy hy w h => by rw [← hy]; exact V.firingTimes x _ n c l yI w h
    clear h1 hpl hfr hbd hw0 hgb hGb hpl0 hfr0 hw0b
    have hal := HGb.out
    rw [← HWd.out] at hal
    obtain ⟨g0, g1⟩ := hal
    rw [← HGbd.out] at g0 g1
    go_wp2_with fail
    rw [HWd.out, HGbd.out]
    refine (HX1.out _ (HPl0.out.below HP_0.out) (HFr0.out.below HP_0.out)).mono ?_
    rintro e w_1 ⟨bX, nX, kX, rfl, ho, hb⟩
    clear g0 g1
    have HP_1 := Lib.hid (HP_0.out.trans (hb.mono HP_0.out.size))
    have IX_1 : Hid (V.Mat w_1 bX nX TX) := ho.mat
    clear ho hb
    obtain ⟨g0, g1⟩ := HGb.out.below HP_1.out
    go_wp2_with fail
    refine (HX2.out _ (HPl0.out.below HP_1.out) (HFr0.out.below HP_1.out)).mono ?_
    rintro e w_2 ⟨bZ, nZ, kZ, rfl, ho, hb⟩
    clear g0 g1
    have HP_2 := Lib.hid (HP_1.out.trans (hb.mono HP_1.out.size))
    have IX_2 := Lib.hid (IX_1.out.below hb)
    have IZ_2 : Hid (V.Mat w_2 bZ nZ TX) := ho.mat
    have hcc : (c1 != c1) = false := by simp
    clear ho hb IX_1 HX1 HX2
    go_wp2_with fail
    refine (V.likeIntss _ _ _ TX _ _ _ TX _ IX_2.out IZ_2.out rfl).mono ?_
    rintro e w_3 ⟨rfl, qd, hq⟩
    have hb : Below w_2.heap.size w_2 w_3 := by rw [hq]; exact V.b_draws _ _
    have HP_3 := Lib.hid (HP_2.out.trans (hb.mono HP_2.out.size))
    have IX_3 := Lib.hid (IX_2.out.below hb)
    clear hq hb IX_2 IZ_2
    by_cases hc0 : c1 = 0
    · subst hc0
      obtain ⟨N, nn, TY, rfl, hN10, rfl, hnn, hSl, hS6, hTX, hTY, hft, hcell⟩ := M.started_facts H1.out
      have HCell := Lib.hid hcell
      have HS6 := Lib.hid hS6
      have HTXl := Lib.hid hTX
      have HTYl := Lib.hid hTY
      have HYc := Lib.hid (HY.out TY 0 hft)
      have hmN : mm = N := by rw [← HFr0.out.1, hSl]
      subst hmN
      have hnX : nX = nn := by have := IX_3.out.1; rw [hTX] at this; exact this.symm
      subst hnX
      clear hcell hS6 hTX hTY hft hSl HY
      obtain ⟨g0, g1⟩ := HGb.out.below HP_3.out
      go_wp2_with fail
      refine (HYc.out _ (HPl0.out.below HP_3.out)).mono ?_
      rintro e w_4 ⟨bY, nY, kY, rfl, ho, hb⟩
      have HP_4 := Lib.hid (HP_3.out.trans (hb.mono HP_3.out.size))
      have IX_4 := Lib.hid (IX_3.out.below hb)
      have IY_4 : Hid (V.Mat w_4 bY nY TY) := ho.mat
      have hnY : nY = nX := by have := IY_4.out.1; rw [HTYl.out] at this; exact this.symm
      subst hnY
      have JS := Lib.hid (HFr0.out.below HP_4.out)
      clear ho hb g0 g1 IX_3 HYc
      go_wp2
      go_loopw [12, 13] (fun mv iv wr => ∃ i : Nat, i ≤ mm ∧ iv = .int .i64 i ∧ mv = .int .i64 (M.mxK S i) ∧ wr = w_4) (fun _ iv _ => mm - (intOf iv).toNat)
      case atStart => exact ⟨0, Nat.zero_le _, rfl, rfl, rfl⟩
      case round =>
        obtain ⟨i, hi, rfl, rfl, rfl⟩ := hrel
        obtain ⟨z4, rfl⟩ : ∃ x, x = wr := ⟨_, rfl⟩
        by_cases him : i < mm
        · have hii : (i : Int) < (mm : Int) := by omega
          obtain ⟨sb, so, s, hse, -, hs, hsc⟩ := JS.out.at i him
          subst hse
          obtain ⟨m, hm⟩ : ∃ m, m = M.mxK S i := ⟨_, rfl⟩
          have HN : Hid (M.mxK S (i + 1) = max m s) := by show max (M.mxK S i) (S.getD i 0) = _; rw [hs, hm]
          rw [← hm]
          clear hm hs
          go_wp2
          go_roundw
          case rel =>
            refine ⟨i + 1, by omega, by go_num, ?_, by first | rfl | trivial⟩
            rw [HN.out]
            first
              | rfl
              | (congr 1; split <;> omega)
              | (congr 1; omega)
          case measure => simp [intOf]; omega
        · obtain rfl : i = mm := by omega
          obtain ⟨D, hD⟩ : ∃ D, D = M.mxK S i := ⟨_, rfl⟩
          have HD := Lib.hid hD
          have hD0 : 0 ≤ D := by rw [hD]; exact M.mxK_nn S i
          have hD6 : D ≤ 1000000 := by rw [hD]; exact M.mxK_le S (by decide) (fun e => (HS6.out e).2) i
          rw [← hD]
          clear hD
          go_wp2
          go_loopw [14, 15] (fun kv _ wr => ∃ k : Nat, k ≤ nY ∧ kv = .int .i64 k ∧ Hid (Below z4.heap.size z4 wr)) (fun kv _ _ => nY - (intOf kv).toNat)
          case atStart => exact ⟨0, Nat.zero_le _, rfl, Below.refl _ _⟩
          case round =>
            obtain ⟨k, hk, rfl, HB5⟩ := hrel
            obtain ⟨z5, rfl⟩ : ∃ x, x = wr := ⟨_, rfl⟩
            by_cases hkn : k < nY
            · have hki : (k : Int) < (nY : Int) := by omega
              go_wp2
              go_loopw [15] (fun ev wr => ∃ e : Nat, e ≤ i ∧ ev = .int .i64 e ∧ Hid (Below z5.heap.size z5 wr)) (fun ev _ => i - (intOf ev).toNat)
              case atStart => exact ⟨0, Nat.zero_le _, rfl, Below.refl _ _⟩
              case round =>
                obtain ⟨e, he, rfl, HB6⟩ := hrel
                obtain ⟨z6, rfl⟩ : ∃ x, x = wr := ⟨_, rfl⟩
                by_cases hem : e < i
                · have hei : (e : Int) < (i : Int) := by omega
                  have HB7 := Lib.hid (HB5.out.trans (HB6.out.mono HB5.out.size))
                  obtain ⟨l1, l2, f1, f2, f3, f4, f5⟩ := HCell.out k e hkn hem
                  obtain ⟨xb, xo, rb, ro, LX, rc, xv, hxe, hLX, hxv, cx1, cx2⟩ := (IX_4.out.below HB7.out).ent k e hkn (by rw [l1]; exact hem)
                  obtain ⟨yb, yo, rb', ro', LY, rc', yv, hye, hLY, hyv, cy1, cy2⟩ := (IY_4.out.below HB7.out).ent k e hkn (by rw [l2]; exact hem)
                  obtain ⟨sb, so, sv, hse, -, hsv, cs⟩ := (JS.out.below HB7.out).at e hem
                  subst hxe hye hse
                  rw [l1] at hLX
                  rw [l2] at hLY
                  subst hLX hLY
                  rw [← hxv, ← hsv] at f1
                  rw [← hyv, ← hxv] at f2
                  rw [← hxv, ← hyv, ← HD.out] at f3
                  rw [← hyv] at f4 f5
                  have n1 : ¬ xv < sv := by omega
                  have n2 : ¬ xv < yv := by omega
                  have hw : wrap64 (yv + D) = yv + D := IntWalk.wrap64_in _ ⟨by omega, by omega⟩
                  have hw' : IntKind.i64.wrap (yv + D) = yv + D := IntWalk.i64_in _ (by omega)
                  have n3 : ¬ xv > yv + D := by omega
                  have n3' : ¬ yv + D < xv := by omega
                  clear l1 l2 f1 f2 f3 f4 f5 hxv hyv hsv
                  go_wp2
                  go_quiet (fail)
                  go_wp2
                  go_roundw
                  case rel => exact ⟨e + 1, by omega, by go_num, HB6.out.trans ((V.b_draws _ _).mono HB6.out.size)⟩
                  case measure => simp [intOf]; omega
                · obtain rfl : e = i := by omega
                  have HB7 := Lib.hid (HB5.out.trans (HB6.out.mono HB5.out.size))
                  go_wp2
                  go_roundw
                  case rel => exact ⟨k + 1, by omega, by go_num, HB7⟩
                  case measure => simp [intOf]; omega
            · obtain rfl : k = nY := by omega
              go_wp2
              go_ret
              exact ⟨rfl, (HW.out.trans (HP_4.out.mono HW.out.size)).trans (HB5.out.mono (Nat.le_trans HW.out.size HP_4.out.size))⟩
    · have hcb : (c1 != 0) = true := by simpa using hc0
      clear hc0
      go_wp2
      go_ret
      exact ⟨rfl, HW.out.trans (HP_3.out.mono HW.out.size)⟩
end Go.Proofs.Ytjbffpmelglegaa.fnStarted
