/- The walk through the law: it returns true and writes nothing that was there. For every code: FiringOrder, DeadCycle, LevelsOf, IsLive, SourcesOf and IsStrong answer as their models, there is either a firing order, in which each event comes behind those it waits for, or a dead cycle. -/
import Derived.Test.YtobdgboejbbfiaaRows
import Derived.Test.YtobdgboejbbfiaaQa1
import Derived.Test.YtobdgboejbbfiaaQa3
import Derived.Test.YtobdgboejbbfiaaQa38
import Derived.Test.YtobdgboejbbfiaaQa36
import Derived.WalkKit
import Derived.ProofKit
import Derived.OpenShut
import Derived.ShutString
import Derived.ChangeOld
import Derived.Below
import Derived.Lib.SmallJoins
import Derived.Lib.Hide
import Derived.WalkSmall
import Derived.Deep.Draws
import Derived.Deep.QuietTactic
import Derived.BigQuiet
import Derived.Deep.OwnRows
import Derived.Deep.RegionWith
import Derived.Deep.RegionHeld3
set_option linter.unusedSimpArgs false
set_option linter.unusedVariables false
set_option linter.unusedSectionVars false
namespace Go.Proofs.Ytobdgboejbbfiaa.fnOrders
open Go.ChangeShapes Go.WideShapes Go.ChangeAt Go.RowKit
open Go.ChangeMaps (open_string shut_string)
set_option linter.unusedVariables false

set_option maxRecDepth 100000 in
set_option maxHeartbeats 4000000 in
theorem walk (a0 : Option Addr) (len0 cap0 : Nat) (z0 : List Int) (w : World) (w0 : V.IsRow .u8 w a0 len0 cap0 z0) :
    Calls Try.prog 3 #[.slice a0 len0 cap0] w fun e w' => e = .returned (.bool true) ∧ Below w.heap.size w w' := by
  have hB := w0.bytes
  have hm := hB.1
  by_cases hbig : 4096 < len0
  · have hd : decide (4096 < len0) = true := by simpa using hbig
    clear hB w0
    go_enter Try.func3, Try.ntmps3
    go_wp2_with (first | (go_at_call 15; refine (V.big _ _ _ _ hm).mono ?_; rintro e w' ⟨rfl, rfl⟩))
    go_ret
    exact ⟨rfl, Below.refl _ _⟩
  · have hd : decide (4096 < len0) = false := by simpa using hbig
    clear w0
    have HB := Lib.hid hB
    clear hB
    go_enter Try.func3, Try.ntmps3
    go_wp2_with (go_at_call 15; refine (V.big _ _ _ _ hm).mono ?_; rintro e w' ⟨rfl, rfl⟩)
    refine (V.drawFiringOrder _ _ _ _ HB.out).mono ?_
    rintro e wd ⟨x, q, n, c, l, rfl, ho, hn60, hbd⟩
    have hGb := V.gBox_new wd x (some ⟨q, 0, none⟩) n c 26
    have hpl0 := ho.pls.below (V.b_alloc wd (.cells #[.int .i64 x, .slice (some ⟨q, 0, none⟩) n c] 26))
    have hw0b : Below w.heap.size w (wd.alloc (.cells #[.int .i64 x, .slice (some ⟨q, 0, none⟩) n c] 26)) := hbd.trans ((V.b_alloc wd _).mono hbd.size)
    obtain ⟨w_0, hw0⟩ : ∃ z, z = wd.alloc (.cells #[.int .i64 x, .slice (some ⟨q, 0, none⟩) n c] 26) := ⟨_, rfl⟩
    rw [← hw0] at hGb hpl0 hw0b
    obtain ⟨gb, hgb⟩ : ∃ b, b = wd.heap.size := ⟨_, rfl⟩
    rw [← hgb] at hGb
    have HWd := Lib.hid hw0.symm
    have HGbd := Lib.hid hgb.symm
    have HGb := Lib.hid hGb
    have HPl0 := Lib.hid hpl0
    have HW := Lib.hid hw0b
    have HLl : Hid (l.length = n) := hpl0.1
    have HP_0 := Lib.hid (Below.refl w_0.heap.size w_0)
    obtain ⟨⟨LS, cs⟩, hS⟩ : ∃ r, r = M.srcRes x l := ⟨_, rfl⟩
    obtain ⟨⟨bs, ct⟩, hT⟩ : ∃ r, r = M.strRes x l := ⟨_, rfl⟩
    have HS1 : Hid (∀ w, V.Pls w (some ⟨q, 0, none⟩) n l → Calls Try.prog 24 #[.agg #[.int .i64 x, .slice (some ⟨q, 0, none⟩) n c]] w (V.VL LS cs w)) := fun w h => by have := V.sourcesOf x _ n c l w h; rw [← hS] at this; exact this
    have HS2 : Hid (∀ w, V.Pls w (some ⟨q, 0, none⟩) n l → Calls Try.prog 25 #[.agg #[.int .i64 x, .slice (some ⟨q, 0, none⟩) n c]] w (V.VL LS cs w)) := fun w h => by have := V.sSourcesOf x _ n c l w h; rw [← hS] at this; exact this
    have HT1 : Hid (∀ w, V.Pls w (some ⟨q, 0, none⟩) n l → Calls Try.prog 26 #[.agg #[.int .i64 x, .slice (some ⟨q, 0, none⟩) n c]] w (V.BL bs ct w)) := fun w h => by have := V.isStrong x _ n c l w h; rw [← hT] at this; exact this
    have HT2 : Hid (∀ w, V.Pls w (some ⟨q, 0, none⟩) n l → Calls Try.prog 27 #[.agg #[.int .i64 x, .slice (some ⟨q, 0, none⟩) n c]] w (V.BL bs ct w)) := fun w h => by have := V.sIsStrong x _ n c l w h; rw [← hT] at this; exact this
    clear hS hT ho hbd hw0 hgb hGb hpl0 hw0b
    rcases M.ord_cases x l with ⟨e1, e2, e3, e4⟩ | ⟨N, hxN, hgr, hN10, hnp, e1, e2, e3, e4⟩ | ⟨e1, ⟨Q, e2⟩, e3, e4⟩
    · obtain ⟨L1, hL1⟩ : ∃ L : List Int, L = [] := ⟨_, rfl⟩
      obtain ⟨L2, hL2⟩ : ∃ L : List Int, L = [] := ⟨_, rfl⟩
      obtain ⟨L3, hL3⟩ : ∃ L : List Int, L = [] := ⟨_, rfl⟩
      have HCO : Hid (∀ w, V.Pls w (some ⟨q, 0, none⟩) n l → Calls Try.prog 17 #[.agg #[.int .i64 x, .slice (some ⟨q, 0, none⟩) n c]] w (V.VL L1 1 w)) := fun w h => by have := V.firingOrderX x _ n c l w h; rw [e1, ← hL1] at this; exact this
      have HCO2 : Hid (∀ w, V.Pls w (some ⟨q, 0, none⟩) n l → Calls Try.prog 18 #[.agg #[.int .i64 x, .slice (some ⟨q, 0, none⟩) n c]] w (V.VL L1 1 w)) := fun w h => by have := V.sFiringOrder x _ n c l w h; rw [e1, ← hL1] at this; exact this
      have HCD : Hid (∀ w, V.Pls w (some ⟨q, 0, none⟩) n l → Calls Try.prog 19 #[.agg #[.int .i64 x, .slice (some ⟨q, 0, none⟩) n c]] w (V.VL L2 1 w)) := fun w h => by have := V.deadCycle x _ n c l w h; rw [e2, ← hL2] at this; exact this
      have HCD2 : Hid (∀ w, V.Pls w (some ⟨q, 0, none⟩) n l → Calls Try.prog 20 #[.agg #[.int .i64 x, .slice (some ⟨q, 0, none⟩) n c]] w (V.VL L2 1 w)) := fun w h => by have := V.sDeadCycle x _ n c l w h; rw [e2, ← hL2] at this; exact this
      have HCV : Hid (∀ w, V.Pls w (some ⟨q, 0, none⟩) n l → Calls Try.prog 21 #[.agg #[.int .i64 x, .slice (some ⟨q, 0, none⟩) n c]] w (V.VL L3 1 w)) := fun w h => by have := V.levelsOf x _ n c l w h; rw [e3, ← hL3] at this; exact this
      have HCV2 : Hid (∀ w, V.Pls w (some ⟨q, 0, none⟩) n l → Calls Try.prog 22 #[.agg #[.int .i64 x, .slice (some ⟨q, 0, none⟩) n c]] w (V.VL L3 1 w)) := fun w h => by have := V.sLevelsOf x _ n c l w h; rw [e3, ← hL3] at this; exact this
      have HCB : Hid (∀ w, V.Pls w (some ⟨q, 0, none⟩) n l → Calls Try.prog 23 #[.agg #[.int .i64 x, .slice (some ⟨q, 0, none⟩) n c]] w (V.BL false 1 w)) := fun w h => by have := V.isLive x _ n c l w h; rw [e4] at this; exact this
      have HEL1 := Lib.hid hL1
      have HEL2 := Lib.hid hL2
      have HEL3 := Lib.hid hL3
      clear e1 e2 e3 e4 hL1 hL2 hL3
      have hal := HGb.out
      rw [← HWd.out] at hal
      obtain ⟨g0, g1⟩ := hal
      rw [← HGbd.out] at g0 g1
      go_wp2_with fail
      rw [HWd.out, HGbd.out]
      refine (HCO.out _ (HPl0.out.below HP_0.out)).mono ?_
      rintro e w_1 ⟨bO, nO, cO, rfl, ho, hb⟩
      clear g0 g1
      have HP_1 := Lib.hid (HP_0.out.trans (hb.mono HP_0.out.size))
      clear HP_0 
      have IO_1 : Hid (V.Ints .i64 w_1 bO nO L1) := ho.ints'
      clear ho
      clear hb
      obtain ⟨g0, g1⟩ := HGb.out.below HP_1.out
      go_wp2_with fail
      refine (HCO2.out _ (HPl0.out.below HP_1.out)).mono ?_
      rintro e w_2 ⟨bO2, nO2, cO2, rfl, ho, hb⟩
      clear g0 g1
      have HP_2 := Lib.hid (HP_1.out.trans (hb.mono HP_1.out.size))
      have IO_2 := Lib.hid (IO_1.out.below hb)
      clear HP_1 IO_1
      have IO2_2 : Hid (V.Ints .i64 w_2 bO2 nO2 L1) := ho.ints'
      clear ho
      clear hb
      obtain ⟨g0, g1⟩ := HGb.out.below HP_2.out
      go_wp2_with fail
      refine (HCD.out _ (HPl0.out.below HP_2.out)).mono ?_
      rintro e w_3 ⟨bD, nD, cD, rfl, ho, hb⟩
      clear g0 g1
      have HP_3 := Lib.hid (HP_2.out.trans (hb.mono HP_2.out.size))
      have IO_3 := Lib.hid (IO_2.out.below hb)
      have IO2_3 := Lib.hid (IO2_2.out.below hb)
      clear HP_2 IO_2 IO2_2
      have ID_3 : Hid (V.Ints .i64 w_3 bD nD L2) := ho.ints'
      clear ho
      clear hb
      obtain ⟨g0, g1⟩ := HGb.out.below HP_3.out
      go_wp2_with fail
      refine (HCD2.out _ (HPl0.out.below HP_3.out)).mono ?_
      rintro e w_4 ⟨bD2, nD2, cD2, rfl, ho, hb⟩
      clear g0 g1
      have HP_4 := Lib.hid (HP_3.out.trans (hb.mono HP_3.out.size))
      have IO_4 := Lib.hid (IO_3.out.below hb)
      have IO2_4 := Lib.hid (IO2_3.out.below hb)
      have ID_4 := Lib.hid (ID_3.out.below hb)
      clear HP_3 IO_3 IO2_3 ID_3
      have ID2_4 : Hid (V.Ints .i64 w_4 bD2 nD2 L2) := ho.ints'
      clear ho
      clear hb
      obtain ⟨g0, g1⟩ := HGb.out.below HP_4.out
      go_wp2_with fail
      refine (HCV.out _ (HPl0.out.below HP_4.out)).mono ?_
      rintro e w_5 ⟨bV, nV, cV, rfl, ho, hb⟩
      clear g0 g1
      have HP_5 := Lib.hid (HP_4.out.trans (hb.mono HP_4.out.size))
      have IO_5 := Lib.hid (IO_4.out.below hb)
      have IO2_5 := Lib.hid (IO2_4.out.below hb)
      have ID_5 := Lib.hid (ID_4.out.below hb)
      have ID2_5 := Lib.hid (ID2_4.out.below hb)
      clear HP_4 IO_4 IO2_4 ID_4 ID2_4
      have IV_5 : Hid (V.Ints .i64 w_5 bV nV L3) := ho.ints'
      clear ho
      clear hb
      obtain ⟨g0, g1⟩ := HGb.out.below HP_5.out
      go_wp2_with fail
      refine (HCV2.out _ (HPl0.out.below HP_5.out)).mono ?_
      rintro e w_6 ⟨bV2, nV2, cV2, rfl, ho, hb⟩
      clear g0 g1
      have HP_6 := Lib.hid (HP_5.out.trans (hb.mono HP_5.out.size))
      have IO_6 := Lib.hid (IO_5.out.below hb)
      have IO2_6 := Lib.hid (IO2_5.out.below hb)
      have ID_6 := Lib.hid (ID_5.out.below hb)
      have ID2_6 := Lib.hid (ID2_5.out.below hb)
      have IV_6 := Lib.hid (IV_5.out.below hb)
      clear HP_5 IO_5 IO2_5 ID_5 ID2_5 IV_5
      have IV2_6 : Hid (V.Ints .i64 w_6 bV2 nV2 L3) := ho.ints'
      clear ho
      clear hb
      obtain ⟨g0, g1⟩ := HGb.out.below HP_6.out
      go_wp2_with fail
      refine (HCB.out _ (HPl0.out.below HP_6.out)).mono ?_
      rintro e w_7 ⟨rfl, hb⟩
      clear g0 g1
      have HP_7 := Lib.hid (HP_6.out.trans (hb.mono HP_6.out.size))
      have IO_7 := Lib.hid (IO_6.out.below hb)
      have IO2_7 := Lib.hid (IO2_6.out.below hb)
      have ID_7 := Lib.hid (ID_6.out.below hb)
      have ID2_7 := Lib.hid (ID2_6.out.below hb)
      have IV_7 := Lib.hid (IV_6.out.below hb)
      have IV2_7 := Lib.hid (IV2_6.out.below hb)
      clear HP_6 IO_6 IO2_6 ID_6 ID2_6 IV_6 IV2_6
      clear hb
      obtain ⟨g0, g1⟩ := HGb.out.below HP_7.out
      go_wp2_with fail
      refine (HS1.out _ (HPl0.out.below HP_7.out)).mono ?_
      rintro e w_8 ⟨bS, nS, cS, rfl, ho, hb⟩
      clear g0 g1
      have HP_8 := Lib.hid (HP_7.out.trans (hb.mono HP_7.out.size))
      have IO_8 := Lib.hid (IO_7.out.below hb)
      have IO2_8 := Lib.hid (IO2_7.out.below hb)
      have ID_8 := Lib.hid (ID_7.out.below hb)
      have ID2_8 := Lib.hid (ID2_7.out.below hb)
      have IV_8 := Lib.hid (IV_7.out.below hb)
      have IV2_8 := Lib.hid (IV2_7.out.below hb)
      clear HP_7 IO_7 IO2_7 ID_7 ID2_7 IV_7 IV2_7
      have IS_8 : Hid (V.Ints .i64 w_8 bS nS LS) := ho.ints'
      clear ho
      clear hb
      obtain ⟨g0, g1⟩ := HGb.out.below HP_8.out
      go_wp2_with fail
      refine (HS2.out _ (HPl0.out.below HP_8.out)).mono ?_
      rintro e w_9 ⟨bS2, nS2, cS2, rfl, ho, hb⟩
      clear g0 g1
      have HP_9 := Lib.hid (HP_8.out.trans (hb.mono HP_8.out.size))
      have IO_9 := Lib.hid (IO_8.out.below hb)
      have IO2_9 := Lib.hid (IO2_8.out.below hb)
      have ID_9 := Lib.hid (ID_8.out.below hb)
      have ID2_9 := Lib.hid (ID2_8.out.below hb)
      have IV_9 := Lib.hid (IV_8.out.below hb)
      have IV2_9 := Lib.hid (IV2_8.out.below hb)
      have IS_9 := Lib.hid (IS_8.out.below hb)
      clear HP_8 IO_8 IO2_8 ID_8 ID2_8 IV_8 IV2_8 IS_8
      have IS2_9 : Hid (V.Ints .i64 w_9 bS2 nS2 LS) := ho.ints'
      clear ho
      clear hb
      obtain ⟨g0, g1⟩ := HGb.out.below HP_9.out
      go_wp2_with fail
      refine (HT1.out _ (HPl0.out.below HP_9.out)).mono ?_
      rintro e w_10 ⟨rfl, hb⟩
      clear g0 g1
      have HP_10 := Lib.hid (HP_9.out.trans (hb.mono HP_9.out.size))
      have IO_10 := Lib.hid (IO_9.out.below hb)
      have IO2_10 := Lib.hid (IO2_9.out.below hb)
      have ID_10 := Lib.hid (ID_9.out.below hb)
      have ID2_10 := Lib.hid (ID2_9.out.below hb)
      have IV_10 := Lib.hid (IV_9.out.below hb)
      have IV2_10 := Lib.hid (IV2_9.out.below hb)
      have IS_10 := Lib.hid (IS_9.out.below hb)
      have IS2_10 := Lib.hid (IS2_9.out.below hb)
      clear HP_9 IO_9 IO2_9 ID_9 ID2_9 IV_9 IV2_9 IS_9 IS2_9
      clear hb
      obtain ⟨g0, g1⟩ := HGb.out.below HP_10.out
      go_wp2_with fail
      refine (HT2.out _ (HPl0.out.below HP_10.out)).mono ?_
      rintro e w_11 ⟨rfl, hb⟩
      clear g0 g1
      have HP_11 := Lib.hid (HP_10.out.trans (hb.mono HP_10.out.size))
      have IO_11 := Lib.hid (IO_10.out.below hb)
      have IO2_11 := Lib.hid (IO2_10.out.below hb)
      have ID_11 := Lib.hid (ID_10.out.below hb)
      have ID2_11 := Lib.hid (ID2_10.out.below hb)
      have IV_11 := Lib.hid (IV_10.out.below hb)
      have IV2_11 := Lib.hid (IV2_10.out.below hb)
      have IS_11 := Lib.hid (IS_10.out.below hb)
      have IS2_11 := Lib.hid (IS2_10.out.below hb)
      clear HP_10 IO_10 IO2_10 ID_10 ID2_10 IV_10 IV2_10 IS_10 IS2_10
      clear hb
      go_wp2_with fail
      refine (V.likeInts _ _ _ L1 _ _ _ L1 _ IO_11.out IO2_11.out rfl).mono ?_
      rintro e w_12 ⟨rfl, qd, hq⟩
      have hb : Below w_11.heap.size w_11 w_12 := by rw [hq]; exact V.b_draws _ _
      clear hq
      have HP_12 := Lib.hid (HP_11.out.trans (hb.mono HP_11.out.size))
      have IO_12 := Lib.hid (IO_11.out.below hb)
      have IO2_12 := Lib.hid (IO2_11.out.below hb)
      have ID_12 := Lib.hid (ID_11.out.below hb)
      have ID2_12 := Lib.hid (ID2_11.out.below hb)
      have IV_12 := Lib.hid (IV_11.out.below hb)
      have IV2_12 := Lib.hid (IV2_11.out.below hb)
      have IS_12 := Lib.hid (IS_11.out.below hb)
      have IS2_12 := Lib.hid (IS2_11.out.below hb)
      clear HP_11 IO_11 IO2_11 ID_11 ID2_11 IV_11 IV2_11 IS_11 IS2_11
      clear hb
      go_wp2_with fail
      refine (V.likeInts _ _ _ L2 _ _ _ L2 _ ID_12.out ID2_12.out rfl).mono ?_
      rintro e w_13 ⟨rfl, qd, hq⟩
      have hb : Below w_12.heap.size w_12 w_13 := by rw [hq]; exact V.b_draws _ _
      clear hq
      have HP_13 := Lib.hid (HP_12.out.trans (hb.mono HP_12.out.size))
      have IO_13 := Lib.hid (IO_12.out.below hb)
      have IO2_13 := Lib.hid (IO2_12.out.below hb)
      have ID_13 := Lib.hid (ID_12.out.below hb)
      have ID2_13 := Lib.hid (ID2_12.out.below hb)
      have IV_13 := Lib.hid (IV_12.out.below hb)
      have IV2_13 := Lib.hid (IV2_12.out.below hb)
      have IS_13 := Lib.hid (IS_12.out.below hb)
      have IS2_13 := Lib.hid (IS2_12.out.below hb)
      clear HP_12 IO_12 IO2_12 ID_12 ID2_12 IV_12 IV2_12 IS_12 IS2_12
      clear hb
      go_wp2_with fail
      refine (V.likeInts _ _ _ L3 _ _ _ L3 _ IV_13.out IV2_13.out rfl).mono ?_
      rintro e w_14 ⟨rfl, qd, hq⟩
      have hb : Below w_13.heap.size w_13 w_14 := by rw [hq]; exact V.b_draws _ _
      clear hq
      have HP_14 := Lib.hid (HP_13.out.trans (hb.mono HP_13.out.size))
      have IO_14 := Lib.hid (IO_13.out.below hb)
      have IO2_14 := Lib.hid (IO2_13.out.below hb)
      have ID_14 := Lib.hid (ID_13.out.below hb)
      have ID2_14 := Lib.hid (ID2_13.out.below hb)
      have IV_14 := Lib.hid (IV_13.out.below hb)
      have IV2_14 := Lib.hid (IV2_13.out.below hb)
      have IS_14 := Lib.hid (IS_13.out.below hb)
      have IS2_14 := Lib.hid (IS2_13.out.below hb)
      clear HP_13 IO_13 IO2_13 ID_13 ID2_13 IV_13 IV2_13 IS_13 IS2_13
      clear hb
      go_wp2_with fail
      refine (V.likeInts _ _ _ LS _ _ _ LS _ IS_14.out IS2_14.out rfl).mono ?_
      rintro e w_15 ⟨rfl, qd, hq⟩
      have hb : Below w_14.heap.size w_14 w_15 := by rw [hq]; exact V.b_draws _ _
      clear hq
      have HP_15 := Lib.hid (HP_14.out.trans (hb.mono HP_14.out.size))
      have IO_15 := Lib.hid (IO_14.out.below hb)
      have IO2_15 := Lib.hid (IO2_14.out.below hb)
      have ID_15 := Lib.hid (ID_14.out.below hb)
      have ID2_15 := Lib.hid (ID2_14.out.below hb)
      have IV_15 := Lib.hid (IV_14.out.below hb)
      have IV2_15 := Lib.hid (IV2_14.out.below hb)
      have IS_15 := Lib.hid (IS_14.out.below hb)
      have IS2_15 := Lib.hid (IS2_14.out.below hb)
      clear HP_14 IO_14 IO2_14 ID_14 ID2_14 IV_14 IV2_14 IS_14 IS2_14
      clear hb
      go_wp2
      go_ret
      exact ⟨rfl, HW.out.trans (HP_15.out.mono HW.out.size)⟩
    · obtain ⟨L1, hL1⟩ : ∃ L : List Int, L = M.ordL (M.wtF M.fOne l) N N := ⟨_, rfl⟩
      obtain ⟨L2, hL2⟩ : ∃ L : List Int, L = [] := ⟨_, rfl⟩
      obtain ⟨L3, hL3⟩ : ∃ L : List Int, L = M.levL (M.wtF M.fOne l) N := ⟨_, rfl⟩
      have HCO : Hid (∀ w, V.Pls w (some ⟨q, 0, none⟩) n l → Calls Try.prog 17 #[.agg #[.int .i64 x, .slice (some ⟨q, 0, none⟩) n c]] w (V.VL L1 0 w)) := fun w h => by have := V.firingOrderX x _ n c l w h; rw [e1, ← hL1] at this; exact this
      have HCO2 : Hid (∀ w, V.Pls w (some ⟨q, 0, none⟩) n l → Calls Try.prog 18 #[.agg #[.int .i64 x, .slice (some ⟨q, 0, none⟩) n c]] w (V.VL L1 0 w)) := fun w h => by have := V.sFiringOrder x _ n c l w h; rw [e1, ← hL1] at this; exact this
      have HCD : Hid (∀ w, V.Pls w (some ⟨q, 0, none⟩) n l → Calls Try.prog 19 #[.agg #[.int .i64 x, .slice (some ⟨q, 0, none⟩) n c]] w (V.VL L2 4 w)) := fun w h => by have := V.deadCycle x _ n c l w h; rw [e2, ← hL2] at this; exact this
      have HCD2 : Hid (∀ w, V.Pls w (some ⟨q, 0, none⟩) n l → Calls Try.prog 20 #[.agg #[.int .i64 x, .slice (some ⟨q, 0, none⟩) n c]] w (V.VL L2 4 w)) := fun w h => by have := V.sDeadCycle x _ n c l w h; rw [e2, ← hL2] at this; exact this
      have HCV : Hid (∀ w, V.Pls w (some ⟨q, 0, none⟩) n l → Calls Try.prog 21 #[.agg #[.int .i64 x, .slice (some ⟨q, 0, none⟩) n c]] w (V.VL L3 0 w)) := fun w h => by have := V.levelsOf x _ n c l w h; rw [e3, ← hL3] at this; exact this
      have HCV2 : Hid (∀ w, V.Pls w (some ⟨q, 0, none⟩) n l → Calls Try.prog 22 #[.agg #[.int .i64 x, .slice (some ⟨q, 0, none⟩) n c]] w (V.VL L3 0 w)) := fun w h => by have := V.sLevelsOf x _ n c l w h; rw [e3, ← hL3] at this; exact this
      have HCB : Hid (∀ w, V.Pls w (some ⟨q, 0, none⟩) n l → Calls Try.prog 23 #[.agg #[.int .i64 x, .slice (some ⟨q, 0, none⟩) n c]] w (V.BL true 0 w)) := fun w h => by have := V.isLive x _ n c l w h; rw [e4] at this; exact this
      have HxN := Lib.hid hxN
      clear hxN
      have HEL1 := Lib.hid hL1
      have HEL2 := Lib.hid hL2
      have HEL3 := Lib.hid hL3
      clear e1 e2 e3 e4 hL1 hL2 hL3
      have hal := HGb.out
      rw [← HWd.out] at hal
      obtain ⟨g0, g1⟩ := hal
      rw [← HGbd.out] at g0 g1
      go_wp2_with fail
      rw [HWd.out, HGbd.out]
      refine (HCO.out _ (HPl0.out.below HP_0.out)).mono ?_
      rintro e w_1 ⟨bO, nO, cO, rfl, ho, hb⟩
      clear g0 g1
      have HP_1 := Lib.hid (HP_0.out.trans (hb.mono HP_0.out.size))
      clear HP_0 
      have IO_1 : Hid (V.Ints .i64 w_1 bO nO L1) := ho.ints'
      clear ho
      clear hb
      obtain ⟨g0, g1⟩ := HGb.out.below HP_1.out
      go_wp2_with fail
      refine (HCO2.out _ (HPl0.out.below HP_1.out)).mono ?_
      rintro e w_2 ⟨bO2, nO2, cO2, rfl, ho, hb⟩
      clear g0 g1
      have HP_2 := Lib.hid (HP_1.out.trans (hb.mono HP_1.out.size))
      have IO_2 := Lib.hid (IO_1.out.below hb)
      clear HP_1 IO_1
      have IO2_2 : Hid (V.Ints .i64 w_2 bO2 nO2 L1) := ho.ints'
      clear ho
      clear hb
      obtain ⟨g0, g1⟩ := HGb.out.below HP_2.out
      go_wp2_with fail
      refine (HCD.out _ (HPl0.out.below HP_2.out)).mono ?_
      rintro e w_3 ⟨bD, nD, cD, rfl, ho, hb⟩
      clear g0 g1
      have HP_3 := Lib.hid (HP_2.out.trans (hb.mono HP_2.out.size))
      have IO_3 := Lib.hid (IO_2.out.below hb)
      have IO2_3 := Lib.hid (IO2_2.out.below hb)
      clear HP_2 IO_2 IO2_2
      have ID_3 : Hid (V.Ints .i64 w_3 bD nD L2) := ho.ints'
      clear ho
      clear hb
      obtain ⟨g0, g1⟩ := HGb.out.below HP_3.out
      go_wp2_with fail
      refine (HCD2.out _ (HPl0.out.below HP_3.out)).mono ?_
      rintro e w_4 ⟨bD2, nD2, cD2, rfl, ho, hb⟩
      clear g0 g1
      have HP_4 := Lib.hid (HP_3.out.trans (hb.mono HP_3.out.size))
      have IO_4 := Lib.hid (IO_3.out.below hb)
      have IO2_4 := Lib.hid (IO2_3.out.below hb)
      have ID_4 := Lib.hid (ID_3.out.below hb)
      clear HP_3 IO_3 IO2_3 ID_3
      have ID2_4 : Hid (V.Ints .i64 w_4 bD2 nD2 L2) := ho.ints'
      clear ho
      clear hb
      obtain ⟨g0, g1⟩ := HGb.out.below HP_4.out
      go_wp2_with fail
      refine (HCV.out _ (HPl0.out.below HP_4.out)).mono ?_
      rintro e w_5 ⟨bV, nV, cV, rfl, ho, hb⟩
      clear g0 g1
      have HP_5 := Lib.hid (HP_4.out.trans (hb.mono HP_4.out.size))
      have IO_5 := Lib.hid (IO_4.out.below hb)
      have IO2_5 := Lib.hid (IO2_4.out.below hb)
      have ID_5 := Lib.hid (ID_4.out.below hb)
      have ID2_5 := Lib.hid (ID2_4.out.below hb)
      clear HP_4 IO_4 IO2_4 ID_4 ID2_4
      have IV_5 : Hid (V.Ints .i64 w_5 bV nV L3) := ho.ints'
      clear ho
      clear hb
      obtain ⟨g0, g1⟩ := HGb.out.below HP_5.out
      go_wp2_with fail
      refine (HCV2.out _ (HPl0.out.below HP_5.out)).mono ?_
      rintro e w_6 ⟨bV2, nV2, cV2, rfl, ho, hb⟩
      clear g0 g1
      have HP_6 := Lib.hid (HP_5.out.trans (hb.mono HP_5.out.size))
      have IO_6 := Lib.hid (IO_5.out.below hb)
      have IO2_6 := Lib.hid (IO2_5.out.below hb)
      have ID_6 := Lib.hid (ID_5.out.below hb)
      have ID2_6 := Lib.hid (ID2_5.out.below hb)
      have IV_6 := Lib.hid (IV_5.out.below hb)
      clear HP_5 IO_5 IO2_5 ID_5 ID2_5 IV_5
      have IV2_6 : Hid (V.Ints .i64 w_6 bV2 nV2 L3) := ho.ints'
      clear ho
      clear hb
      obtain ⟨g0, g1⟩ := HGb.out.below HP_6.out
      go_wp2_with fail
      refine (HCB.out _ (HPl0.out.below HP_6.out)).mono ?_
      rintro e w_7 ⟨rfl, hb⟩
      clear g0 g1
      have HP_7 := Lib.hid (HP_6.out.trans (hb.mono HP_6.out.size))
      have IO_7 := Lib.hid (IO_6.out.below hb)
      have IO2_7 := Lib.hid (IO2_6.out.below hb)
      have ID_7 := Lib.hid (ID_6.out.below hb)
      have ID2_7 := Lib.hid (ID2_6.out.below hb)
      have IV_7 := Lib.hid (IV_6.out.below hb)
      have IV2_7 := Lib.hid (IV2_6.out.below hb)
      clear HP_6 IO_6 IO2_6 ID_6 ID2_6 IV_6 IV2_6
      clear hb
      obtain ⟨g0, g1⟩ := HGb.out.below HP_7.out
      go_wp2_with fail
      refine (HS1.out _ (HPl0.out.below HP_7.out)).mono ?_
      rintro e w_8 ⟨bS, nS, cS, rfl, ho, hb⟩
      clear g0 g1
      have HP_8 := Lib.hid (HP_7.out.trans (hb.mono HP_7.out.size))
      have IO_8 := Lib.hid (IO_7.out.below hb)
      have IO2_8 := Lib.hid (IO2_7.out.below hb)
      have ID_8 := Lib.hid (ID_7.out.below hb)
      have ID2_8 := Lib.hid (ID2_7.out.below hb)
      have IV_8 := Lib.hid (IV_7.out.below hb)
      have IV2_8 := Lib.hid (IV2_7.out.below hb)
      clear HP_7 IO_7 IO2_7 ID_7 ID2_7 IV_7 IV2_7
      have IS_8 : Hid (V.Ints .i64 w_8 bS nS LS) := ho.ints'
      clear ho
      clear hb
      obtain ⟨g0, g1⟩ := HGb.out.below HP_8.out
      go_wp2_with fail
      refine (HS2.out _ (HPl0.out.below HP_8.out)).mono ?_
      rintro e w_9 ⟨bS2, nS2, cS2, rfl, ho, hb⟩
      clear g0 g1
      have HP_9 := Lib.hid (HP_8.out.trans (hb.mono HP_8.out.size))
      have IO_9 := Lib.hid (IO_8.out.below hb)
      have IO2_9 := Lib.hid (IO2_8.out.below hb)
      have ID_9 := Lib.hid (ID_8.out.below hb)
      have ID2_9 := Lib.hid (ID2_8.out.below hb)
      have IV_9 := Lib.hid (IV_8.out.below hb)
      have IV2_9 := Lib.hid (IV2_8.out.below hb)
      have IS_9 := Lib.hid (IS_8.out.below hb)
      clear HP_8 IO_8 IO2_8 ID_8 ID2_8 IV_8 IV2_8 IS_8
      have IS2_9 : Hid (V.Ints .i64 w_9 bS2 nS2 LS) := ho.ints'
      clear ho
      clear hb
      obtain ⟨g0, g1⟩ := HGb.out.below HP_9.out
      go_wp2_with fail
      refine (HT1.out _ (HPl0.out.below HP_9.out)).mono ?_
      rintro e w_10 ⟨rfl, hb⟩
      clear g0 g1
      have HP_10 := Lib.hid (HP_9.out.trans (hb.mono HP_9.out.size))
      have IO_10 := Lib.hid (IO_9.out.below hb)
      have IO2_10 := Lib.hid (IO2_9.out.below hb)
      have ID_10 := Lib.hid (ID_9.out.below hb)
      have ID2_10 := Lib.hid (ID2_9.out.below hb)
      have IV_10 := Lib.hid (IV_9.out.below hb)
      have IV2_10 := Lib.hid (IV2_9.out.below hb)
      have IS_10 := Lib.hid (IS_9.out.below hb)
      have IS2_10 := Lib.hid (IS2_9.out.below hb)
      clear HP_9 IO_9 IO2_9 ID_9 ID2_9 IV_9 IV2_9 IS_9 IS2_9
      clear hb
      obtain ⟨g0, g1⟩ := HGb.out.below HP_10.out
      go_wp2_with fail
      refine (HT2.out _ (HPl0.out.below HP_10.out)).mono ?_
      rintro e w_11 ⟨rfl, hb⟩
      clear g0 g1
      have HP_11 := Lib.hid (HP_10.out.trans (hb.mono HP_10.out.size))
      have IO_11 := Lib.hid (IO_10.out.below hb)
      have IO2_11 := Lib.hid (IO2_10.out.below hb)
      have ID_11 := Lib.hid (ID_10.out.below hb)
      have ID2_11 := Lib.hid (ID2_10.out.below hb)
      have IV_11 := Lib.hid (IV_10.out.below hb)
      have IV2_11 := Lib.hid (IV2_10.out.below hb)
      have IS_11 := Lib.hid (IS_10.out.below hb)
      have IS2_11 := Lib.hid (IS2_10.out.below hb)
      clear HP_10 IO_10 IO2_10 ID_10 ID2_10 IV_10 IV2_10 IS_10 IS2_10
      clear hb
      go_wp2_with fail
      refine (V.likeInts _ _ _ L1 _ _ _ L1 _ IO_11.out IO2_11.out rfl).mono ?_
      rintro e w_12 ⟨rfl, qd, hq⟩
      have hb : Below w_11.heap.size w_11 w_12 := by rw [hq]; exact V.b_draws _ _
      clear hq
      have HP_12 := Lib.hid (HP_11.out.trans (hb.mono HP_11.out.size))
      have IO_12 := Lib.hid (IO_11.out.below hb)
      have IO2_12 := Lib.hid (IO2_11.out.below hb)
      have ID_12 := Lib.hid (ID_11.out.below hb)
      have ID2_12 := Lib.hid (ID2_11.out.below hb)
      have IV_12 := Lib.hid (IV_11.out.below hb)
      have IV2_12 := Lib.hid (IV2_11.out.below hb)
      have IS_12 := Lib.hid (IS_11.out.below hb)
      have IS2_12 := Lib.hid (IS2_11.out.below hb)
      clear HP_11 IO_11 IO2_11 ID_11 ID2_11 IV_11 IV2_11 IS_11 IS2_11
      clear hb
      go_wp2_with fail
      refine (V.likeInts _ _ _ L2 _ _ _ L2 _ ID_12.out ID2_12.out rfl).mono ?_
      rintro e w_13 ⟨rfl, qd, hq⟩
      have hb : Below w_12.heap.size w_12 w_13 := by rw [hq]; exact V.b_draws _ _
      clear hq
      have HP_13 := Lib.hid (HP_12.out.trans (hb.mono HP_12.out.size))
      have IO_13 := Lib.hid (IO_12.out.below hb)
      have IO2_13 := Lib.hid (IO2_12.out.below hb)
      have ID_13 := Lib.hid (ID_12.out.below hb)
      have ID2_13 := Lib.hid (ID2_12.out.below hb)
      have IV_13 := Lib.hid (IV_12.out.below hb)
      have IV2_13 := Lib.hid (IV2_12.out.below hb)
      have IS_13 := Lib.hid (IS_12.out.below hb)
      have IS2_13 := Lib.hid (IS2_12.out.below hb)
      clear HP_12 IO_12 IO2_12 ID_12 ID2_12 IV_12 IV2_12 IS_12 IS2_12
      clear hb
      go_wp2_with fail
      refine (V.likeInts _ _ _ L3 _ _ _ L3 _ IV_13.out IV2_13.out rfl).mono ?_
      rintro e w_14 ⟨rfl, qd, hq⟩
      have hb : Below w_13.heap.size w_13 w_14 := by rw [hq]; exact V.b_draws _ _
      clear hq
      have HP_14 := Lib.hid (HP_13.out.trans (hb.mono HP_13.out.size))
      have IO_14 := Lib.hid (IO_13.out.below hb)
      have IO2_14 := Lib.hid (IO2_13.out.below hb)
      have ID_14 := Lib.hid (ID_13.out.below hb)
      have ID2_14 := Lib.hid (ID2_13.out.below hb)
      have IV_14 := Lib.hid (IV_13.out.below hb)
      have IV2_14 := Lib.hid (IV2_13.out.below hb)
      have IS_14 := Lib.hid (IS_13.out.below hb)
      have IS2_14 := Lib.hid (IS2_13.out.below hb)
      clear HP_13 IO_13 IO2_13 ID_13 ID2_13 IV_13 IV2_13 IS_13 IS2_13
      clear hb
      go_wp2_with fail
      refine (V.likeInts _ _ _ LS _ _ _ LS _ IS_14.out IS2_14.out rfl).mono ?_
      rintro e w_15 ⟨rfl, qd, hq⟩
      have hb : Below w_14.heap.size w_14 w_15 := by rw [hq]; exact V.b_draws _ _
      clear hq
      have HP_15 := Lib.hid (HP_14.out.trans (hb.mono HP_14.out.size))
      have IO_15 := Lib.hid (IO_14.out.below hb)
      have IO2_15 := Lib.hid (IO2_14.out.below hb)
      have ID_15 := Lib.hid (ID_14.out.below hb)
      have ID2_15 := Lib.hid (ID2_14.out.below hb)
      have IV_15 := Lib.hid (IV_14.out.below hb)
      have IV2_15 := Lib.hid (IV2_14.out.below hb)
      have IS_15 := Lib.hid (IS_14.out.below hb)
      have IS2_15 := Lib.hid (IS2_14.out.below hb)
      clear HP_14 IO_14 IO2_14 ID_14 ID2_14 IV_14 IV2_14 IS_14 IS2_14
      clear hb
      have hxN := HxN.out
      clear HxN
      subst hxN
      have hU := M.uz_graph l
      have hON : nO = N := by have := IO_15.out.1; rw [HEL1.out, M.ord_full hU hN10 hnp (Nat.le_refl _)] at this; exact this.symm
      have hVN : nV = N := by have := IV_15.out.1; rw [HEL3.out, M.levL_len] at this; exact this.symm
      subst hON hVN
      obtain ⟨g0, g1⟩ := HGb.out.below HP_15.out
      have HGr := Lib.hid hgr
      have HAt : Hid (∀ t, t < nV → ∃ e : Nat, e < nV ∧ L1.getD t 0 = (e : Int) ∧ M.ordL (M.wtF M.fOne l) nV (t + 1) = M.ordL (M.wtF M.fOne l) nV t ++ [(e : Int)] ∧ ∀ k, k < nV → M.wtF M.fOne l e k ≠ -1000000000000000 → M.hasB (M.ordL (M.wtF M.fOne l) nV t) (k : Int) = true ∧ L3.getD k 0 < L3.getD e 0) := fun t ht => by
        obtain ⟨e, he, h1, h2, -, h4⟩ := M.ord_at hU hN10 hnp ht
        refine ⟨e, he, by rw [HEL1.out]; exact h1, h2, fun k hk ha => ⟨h4 k hk ha, ?_⟩⟩
        have := M.lev_up hU hN10 hnp he hk ha
        rw [HEL3.out, M.levL_at hk, M.levL_at he]; omega
      have HLen : Hid (∀ t, t ≤ nV → (M.ordL (M.wtF M.fOne l) nV t).length = t) := fun t ht => M.ord_full hU hN10 hnp ht
      have HO0 : Hid (V.Own (w_15.alloc (.cells #[] 2)) w_15.heap.size (.slice (some ⟨w_15.heap.size, 0, none⟩) 0 0) (M.ordL (M.wtF M.fOne l) nV 0)) := V.own_lit0 _ _ (Nat.le_refl _)
      have HB0 : Hid (Below w_15.heap.size w_15 (w_15.alloc (.cells #[] 2))) := V.b_alloc _ _
      have hn60i : (n : Int) ≤ 60 := by omega
      clear hgr hnp hU
      go_wp2
      clear g0 g1
      go_loopw [26, 27, 28, 29] (fun sv kv _ _ wr => ∃ (t : Nat) (b : Option Addr) (cc : Nat), t ≤ nV ∧ kv = .int .i64 t ∧ sv = .slice b t cc ∧ Hid (V.Own wr w_15.heap.size sv (M.ordL (M.wtF M.fOne l) nV t)) ∧ Hid (Below w_15.heap.size w_15 wr)) (fun _ kv _ _ _ => nV - (intOf kv).toNat)
      case atStart => exact ⟨0, _, _, Nat.zero_le _, rfl, rfl, HO0, HB0⟩
      case round =>
        clear HO0 HB0
        obtain ⟨t, sb, sc, ht, rfl, rfl, HO, HBk⟩ := hrel
        obtain ⟨wo, rfl⟩ : ∃ x, x = wr := ⟨_, rfl⟩
        by_cases htN : t < nV
        · have hti : (t : Int) < (nV : Int) := by omega
          obtain ⟨ev, hev, hoe, hox, hpre⟩ := HAt.out t htN
          have HPre := Lib.hid hpre
          have HOx := Lib.hid hox
          have HTl := Lib.hid (HLen.out t ht)
          obtain ⟨ob, oo, y, hbo, hol, hy, hoc⟩ := IO_15.out.at t htN
          rw [hoe] at hy
          subst hy
          subst hbo
          have HOc := Lib.hid hoc
          have HOl := Lib.hid hol
          clear hpre hox hoe hoc hol
          go_wp2
          go_loopw [28, 29] (fun iv _ wi => ∃ i : Nat, i ≤ n ∧ iv = .int .i64 i ∧ Hid (Below wo.heap.size wo wi)) (fun iv _ _ => n - (intOf iv).toNat)
          case atStart => exact ⟨0, Nat.zero_le _, rfl, Below.refl _ _⟩
          case round =>
            obtain ⟨i, hi, rfl, HBi⟩ := hrel
            obtain ⟨wi, rfl⟩ : ∃ x, x = wr := ⟨_, rfl⟩
            have HBw := Lib.hid (HBk.out.trans (HBi.out.mono HBk.out.size))
            obtain ⟨g0, g1⟩ := (HGb.out.below HP_15.out).below HBw.out
            by_cases hin : i < n
            · have hii : (i : Int) < (n : Int) := by omega
              obtain ⟨pb, off, p0, p1, p2, p3, hbb, -, hp, c0, c1, c2, c3⟩ := ((HPl0.out.below HP_15.out).below HBw.out).at i hin
              injection hbb with hbb
              injection hbb with e1 e2
              subst e1 e2
              rw [Nat.zero_add] at c0 c1 c2 c3
              have hba : Below wi.heap.size wi (wi.alloc (.cells #[.int .i64 p0, .int .i64 p1, .int .i64 p2, .int .i64 p3] 35)) := V.b_alloc wi _
              have hbt := HBw.out.trans (hba.mono HBw.out.size)
              have hoc' := (hbt.cell (p := ⟨ob, oo + t, none⟩) HOl.out).trans HOc.out
              obtain ⟨ii, jj, hiN, hjN, q1, q0, -, -, t3, t3'⟩ := V.gr_at HGr.out (by rw [HLl.out]; exact hin) hp
              subst q1 q0
              have HSe : Hid (V.Ints .i64 (wi.alloc (.cells #[.int .i64 jj, .int .i64 ii, .int .i64 p2, .int .i64 p3] 35)) sb t (M.ordL (M.wtF M.fOne l) nV t)) := ((HO.out.below HBi.out).below hba).ints'
              obtain ⟨lb, lo, yl, hlb, hll, hyl, hlc⟩ := IV_15.out.at jj hjN
              obtain ⟨lb', lo', yk, hlb', -, hyk, hlc'⟩ := IV_15.out.at ii hiN
              subst hlb
              injection hlb' with hlb'
              injection hlb' with z1 z2
              subst z1 z2
              have hld := (hbt.cell (p := ⟨lb, lo + jj, none⟩) hll).trans hlc
              have hld' := (hbt.cell (p := ⟨lb, lo + ii, none⟩) hll).trans hlc'
              have hjj : (jj : Int) < (nV : Int) := by omega
              have hiii : (ii : Int) < (nV : Int) := by omega
              have HBn := Lib.hid (HBi.out.trans (hba.mono HBi.out.size))
              have HQ : Hid (ii = ev → p3 = 0 → (jj : Int) ∈ M.ordL (M.wtF M.fOne l) nV t ∧ yl < yk) := fun a b => by
                subst a b
                obtain ⟨k1, k2⟩ := HPre.out jj hjN (M.wt_arc (by rw [HLl.out]; exact hin) hp)
                exact ⟨M.hasB_iff.1 k1, by rw [hyl, hyk]; exact k2⟩
              clear hba hbt hlc hlc' hp hyl hyk hll
              by_cases hto : ii = ev
              · have hte : ((ii : Int) == (ev : Int)) = true := by simp [hto]
                by_cases htk : p3 = 0
                · subst htk
                  obtain ⟨k1, k2⟩ := HQ.out hto rfl
                  have HHas : Hid (∀ k, Calls Try.prog 29 #[.slice sb t sc, .int .i64 jj] ((wi.alloc (.cells #[.int .i64 jj, .int .i64 ii, .int .i64 p2, .int .i64 0] 35)).drewN k) fun e w' => e = .returned (.bool true) ∧ (wi.alloc (.cells #[.int .i64 jj, .int .i64 ii, .int .i64 p2, .int .i64 0] 35)).drewN k = w') := fun k => V.hasInt _ _ _ _ _ _ (HSe.out.below (V.b_draws _ k)) k1
                  have hk2 : ¬ yl ≥ yk := by omega
                  clear hto k1
                  go_wp2
                  go_quiet ((go_at_call 29; first | exact V.q_one_s (HHas.out _) | exact V.q_more_s (HHas.out _)))
                  go_wp2
                  go_roundw
                  case rel => exact ⟨i + 1, by omega, by go_num, (HBn.out.trans ((V.b_draws _ _).mono HBn.out.size))⟩
                  case measure => simp [intOf]; omega
                · have hk3 : (p3 == 0) = false := by simpa using htk
                  clear hto
                  go_wp2
                  go_quiet (fail)
                  go_wp2
                  go_roundw
                  case rel => exact ⟨i + 1, by omega, by go_num, (HBn.out.trans ((V.b_draws _ _).mono HBn.out.size))⟩
                  case measure => simp [intOf]; omega
              · have hte : ((ii : Int) == (ev : Int)) = false := by simp; omega
                clear hto
                go_wp2
                go_quiet (fail)
                go_wp2
                go_roundw
                case rel => exact ⟨i + 1, by omega, by go_num, (HBn.out.trans ((V.b_draws _ _).mono HBn.out.size))⟩
                case measure => simp [intOf]; omega
            · obtain rfl : i = n := by omega
              have hoc' := (HBw.out.cell (p := ⟨ob, oo + t, none⟩) HOl.out).trans HOc.out
              have HOi := Lib.hid (HO.out.below HBi.out)
              have hsz := HBw.out.size
              have hn10 : t ≤ 10 := by omega
              go_wp2_with (at_builtin; refine V.append1 _ rfl (.tmp 211) (.tmp 216) rfl w_15.heap.size _ _ _ t HTl.out rfl HOi.out rfl (by rw [HTl.out]; omega) hsz ?_)
              intro b2 c2 w2 hO2 hb2 _
              rw [← HOx.out] at hO2
              have HO2 := Lib.hid hO2
              have HB2 := Lib.hid (HBw.out.trans hb2)
              clear hO2 hb2
              go_wp2
              go_roundw
              case rel => exact ⟨t + 1, _, _, by omega, by go_num, rfl, HO2, HB2⟩
              case measure => simp [intOf]; omega
        · obtain rfl : t = nV := by omega
          obtain ⟨g0, g1⟩ := (HGb.out.below HP_15.out).below HBk.out
          go_wp2
          go_ret
          exact ⟨rfl, (HW.out.trans (HP_15.out.mono HW.out.size)).trans (HBk.out.mono (Nat.le_trans HW.out.size HP_15.out.size))⟩
    · obtain ⟨L1, hL1⟩ : ∃ L : List Int, L = [] := ⟨_, rfl⟩
      obtain ⟨L2, hL2⟩ : ∃ L : List Int, L = Q := ⟨_, rfl⟩
      obtain ⟨L3, hL3⟩ : ∃ L : List Int, L = [] := ⟨_, rfl⟩
      have HCO : Hid (∀ w, V.Pls w (some ⟨q, 0, none⟩) n l → Calls Try.prog 17 #[.agg #[.int .i64 x, .slice (some ⟨q, 0, none⟩) n c]] w (V.VL L1 5 w)) := fun w h => by have := V.firingOrderX x _ n c l w h; rw [e1, ← hL1] at this; exact this
      have HCO2 : Hid (∀ w, V.Pls w (some ⟨q, 0, none⟩) n l → Calls Try.prog 18 #[.agg #[.int .i64 x, .slice (some ⟨q, 0, none⟩) n c]] w (V.VL L1 5 w)) := fun w h => by have := V.sFiringOrder x _ n c l w h; rw [e1, ← hL1] at this; exact this
      have HCD : Hid (∀ w, V.Pls w (some ⟨q, 0, none⟩) n l → Calls Try.prog 19 #[.agg #[.int .i64 x, .slice (some ⟨q, 0, none⟩) n c]] w (V.VL L2 0 w)) := fun w h => by have := V.deadCycle x _ n c l w h; rw [e2, ← hL2] at this; exact this
      have HCD2 : Hid (∀ w, V.Pls w (some ⟨q, 0, none⟩) n l → Calls Try.prog 20 #[.agg #[.int .i64 x, .slice (some ⟨q, 0, none⟩) n c]] w (V.VL L2 0 w)) := fun w h => by have := V.sDeadCycle x _ n c l w h; rw [e2, ← hL2] at this; exact this
      have HCV : Hid (∀ w, V.Pls w (some ⟨q, 0, none⟩) n l → Calls Try.prog 21 #[.agg #[.int .i64 x, .slice (some ⟨q, 0, none⟩) n c]] w (V.VL L3 5 w)) := fun w h => by have := V.levelsOf x _ n c l w h; rw [e3, ← hL3] at this; exact this
      have HCV2 : Hid (∀ w, V.Pls w (some ⟨q, 0, none⟩) n l → Calls Try.prog 22 #[.agg #[.int .i64 x, .slice (some ⟨q, 0, none⟩) n c]] w (V.VL L3 5 w)) := fun w h => by have := V.sLevelsOf x _ n c l w h; rw [e3, ← hL3] at this; exact this
      have HCB : Hid (∀ w, V.Pls w (some ⟨q, 0, none⟩) n l → Calls Try.prog 23 #[.agg #[.int .i64 x, .slice (some ⟨q, 0, none⟩) n c]] w (V.BL false 0 w)) := fun w h => by have := V.isLive x _ n c l w h; rw [e4] at this; exact this
      have HEL1 := Lib.hid hL1
      have HEL2 := Lib.hid hL2
      have HEL3 := Lib.hid hL3
      clear e1 e2 e3 e4 hL1 hL2 hL3
      have hal := HGb.out
      rw [← HWd.out] at hal
      obtain ⟨g0, g1⟩ := hal
      rw [← HGbd.out] at g0 g1
      go_wp2_with fail
      rw [HWd.out, HGbd.out]
      refine (HCO.out _ (HPl0.out.below HP_0.out)).mono ?_
      rintro e w_1 ⟨bO, nO, cO, rfl, ho, hb⟩
      clear g0 g1
      have HP_1 := Lib.hid (HP_0.out.trans (hb.mono HP_0.out.size))
      clear HP_0 
      have IO_1 : Hid (V.Ints .i64 w_1 bO nO L1) := ho.ints'
      clear ho
      clear hb
      obtain ⟨g0, g1⟩ := HGb.out.below HP_1.out
      go_wp2_with fail
      refine (HCO2.out _ (HPl0.out.below HP_1.out)).mono ?_
      rintro e w_2 ⟨bO2, nO2, cO2, rfl, ho, hb⟩
      clear g0 g1
      have HP_2 := Lib.hid (HP_1.out.trans (hb.mono HP_1.out.size))
      have IO_2 := Lib.hid (IO_1.out.below hb)
      clear HP_1 IO_1
      have IO2_2 : Hid (V.Ints .i64 w_2 bO2 nO2 L1) := ho.ints'
      clear ho
      clear hb
      obtain ⟨g0, g1⟩ := HGb.out.below HP_2.out
      go_wp2_with fail
      refine (HCD.out _ (HPl0.out.below HP_2.out)).mono ?_
      rintro e w_3 ⟨bD, nD, cD, rfl, ho, hb⟩
      clear g0 g1
      have HP_3 := Lib.hid (HP_2.out.trans (hb.mono HP_2.out.size))
      have IO_3 := Lib.hid (IO_2.out.below hb)
      have IO2_3 := Lib.hid (IO2_2.out.below hb)
      clear HP_2 IO_2 IO2_2
      have ID_3 : Hid (V.Ints .i64 w_3 bD nD L2) := ho.ints'
      clear ho
      clear hb
      obtain ⟨g0, g1⟩ := HGb.out.below HP_3.out
      go_wp2_with fail
      refine (HCD2.out _ (HPl0.out.below HP_3.out)).mono ?_
      rintro e w_4 ⟨bD2, nD2, cD2, rfl, ho, hb⟩
      clear g0 g1
      have HP_4 := Lib.hid (HP_3.out.trans (hb.mono HP_3.out.size))
      have IO_4 := Lib.hid (IO_3.out.below hb)
      have IO2_4 := Lib.hid (IO2_3.out.below hb)
      have ID_4 := Lib.hid (ID_3.out.below hb)
      clear HP_3 IO_3 IO2_3 ID_3
      have ID2_4 : Hid (V.Ints .i64 w_4 bD2 nD2 L2) := ho.ints'
      clear ho
      clear hb
      obtain ⟨g0, g1⟩ := HGb.out.below HP_4.out
      go_wp2_with fail
      refine (HCV.out _ (HPl0.out.below HP_4.out)).mono ?_
      rintro e w_5 ⟨bV, nV, cV, rfl, ho, hb⟩
      clear g0 g1
      have HP_5 := Lib.hid (HP_4.out.trans (hb.mono HP_4.out.size))
      have IO_5 := Lib.hid (IO_4.out.below hb)
      have IO2_5 := Lib.hid (IO2_4.out.below hb)
      have ID_5 := Lib.hid (ID_4.out.below hb)
      have ID2_5 := Lib.hid (ID2_4.out.below hb)
      clear HP_4 IO_4 IO2_4 ID_4 ID2_4
      have IV_5 : Hid (V.Ints .i64 w_5 bV nV L3) := ho.ints'
      clear ho
      clear hb
      obtain ⟨g0, g1⟩ := HGb.out.below HP_5.out
      go_wp2_with fail
      refine (HCV2.out _ (HPl0.out.below HP_5.out)).mono ?_
      rintro e w_6 ⟨bV2, nV2, cV2, rfl, ho, hb⟩
      clear g0 g1
      have HP_6 := Lib.hid (HP_5.out.trans (hb.mono HP_5.out.size))
      have IO_6 := Lib.hid (IO_5.out.below hb)
      have IO2_6 := Lib.hid (IO2_5.out.below hb)
      have ID_6 := Lib.hid (ID_5.out.below hb)
      have ID2_6 := Lib.hid (ID2_5.out.below hb)
      have IV_6 := Lib.hid (IV_5.out.below hb)
      clear HP_5 IO_5 IO2_5 ID_5 ID2_5 IV_5
      have IV2_6 : Hid (V.Ints .i64 w_6 bV2 nV2 L3) := ho.ints'
      clear ho
      clear hb
      obtain ⟨g0, g1⟩ := HGb.out.below HP_6.out
      go_wp2_with fail
      refine (HCB.out _ (HPl0.out.below HP_6.out)).mono ?_
      rintro e w_7 ⟨rfl, hb⟩
      clear g0 g1
      have HP_7 := Lib.hid (HP_6.out.trans (hb.mono HP_6.out.size))
      have IO_7 := Lib.hid (IO_6.out.below hb)
      have IO2_7 := Lib.hid (IO2_6.out.below hb)
      have ID_7 := Lib.hid (ID_6.out.below hb)
      have ID2_7 := Lib.hid (ID2_6.out.below hb)
      have IV_7 := Lib.hid (IV_6.out.below hb)
      have IV2_7 := Lib.hid (IV2_6.out.below hb)
      clear HP_6 IO_6 IO2_6 ID_6 ID2_6 IV_6 IV2_6
      clear hb
      obtain ⟨g0, g1⟩ := HGb.out.below HP_7.out
      go_wp2_with fail
      refine (HS1.out _ (HPl0.out.below HP_7.out)).mono ?_
      rintro e w_8 ⟨bS, nS, cS, rfl, ho, hb⟩
      clear g0 g1
      have HP_8 := Lib.hid (HP_7.out.trans (hb.mono HP_7.out.size))
      have IO_8 := Lib.hid (IO_7.out.below hb)
      have IO2_8 := Lib.hid (IO2_7.out.below hb)
      have ID_8 := Lib.hid (ID_7.out.below hb)
      have ID2_8 := Lib.hid (ID2_7.out.below hb)
      have IV_8 := Lib.hid (IV_7.out.below hb)
      have IV2_8 := Lib.hid (IV2_7.out.below hb)
      clear HP_7 IO_7 IO2_7 ID_7 ID2_7 IV_7 IV2_7
      have IS_8 : Hid (V.Ints .i64 w_8 bS nS LS) := ho.ints'
      clear ho
      clear hb
      obtain ⟨g0, g1⟩ := HGb.out.below HP_8.out
      go_wp2_with fail
      refine (HS2.out _ (HPl0.out.below HP_8.out)).mono ?_
      rintro e w_9 ⟨bS2, nS2, cS2, rfl, ho, hb⟩
      clear g0 g1
      have HP_9 := Lib.hid (HP_8.out.trans (hb.mono HP_8.out.size))
      have IO_9 := Lib.hid (IO_8.out.below hb)
      have IO2_9 := Lib.hid (IO2_8.out.below hb)
      have ID_9 := Lib.hid (ID_8.out.below hb)
      have ID2_9 := Lib.hid (ID2_8.out.below hb)
      have IV_9 := Lib.hid (IV_8.out.below hb)
      have IV2_9 := Lib.hid (IV2_8.out.below hb)
      have IS_9 := Lib.hid (IS_8.out.below hb)
      clear HP_8 IO_8 IO2_8 ID_8 ID2_8 IV_8 IV2_8 IS_8
      have IS2_9 : Hid (V.Ints .i64 w_9 bS2 nS2 LS) := ho.ints'
      clear ho
      clear hb
      obtain ⟨g0, g1⟩ := HGb.out.below HP_9.out
      go_wp2_with fail
      refine (HT1.out _ (HPl0.out.below HP_9.out)).mono ?_
      rintro e w_10 ⟨rfl, hb⟩
      clear g0 g1
      have HP_10 := Lib.hid (HP_9.out.trans (hb.mono HP_9.out.size))
      have IO_10 := Lib.hid (IO_9.out.below hb)
      have IO2_10 := Lib.hid (IO2_9.out.below hb)
      have ID_10 := Lib.hid (ID_9.out.below hb)
      have ID2_10 := Lib.hid (ID2_9.out.below hb)
      have IV_10 := Lib.hid (IV_9.out.below hb)
      have IV2_10 := Lib.hid (IV2_9.out.below hb)
      have IS_10 := Lib.hid (IS_9.out.below hb)
      have IS2_10 := Lib.hid (IS2_9.out.below hb)
      clear HP_9 IO_9 IO2_9 ID_9 ID2_9 IV_9 IV2_9 IS_9 IS2_9
      clear hb
      obtain ⟨g0, g1⟩ := HGb.out.below HP_10.out
      go_wp2_with fail
      refine (HT2.out _ (HPl0.out.below HP_10.out)).mono ?_
      rintro e w_11 ⟨rfl, hb⟩
      clear g0 g1
      have HP_11 := Lib.hid (HP_10.out.trans (hb.mono HP_10.out.size))
      have IO_11 := Lib.hid (IO_10.out.below hb)
      have IO2_11 := Lib.hid (IO2_10.out.below hb)
      have ID_11 := Lib.hid (ID_10.out.below hb)
      have ID2_11 := Lib.hid (ID2_10.out.below hb)
      have IV_11 := Lib.hid (IV_10.out.below hb)
      have IV2_11 := Lib.hid (IV2_10.out.below hb)
      have IS_11 := Lib.hid (IS_10.out.below hb)
      have IS2_11 := Lib.hid (IS2_10.out.below hb)
      clear HP_10 IO_10 IO2_10 ID_10 ID2_10 IV_10 IV2_10 IS_10 IS2_10
      clear hb
      go_wp2_with fail
      refine (V.likeInts _ _ _ L1 _ _ _ L1 _ IO_11.out IO2_11.out rfl).mono ?_
      rintro e w_12 ⟨rfl, qd, hq⟩
      have hb : Below w_11.heap.size w_11 w_12 := by rw [hq]; exact V.b_draws _ _
      clear hq
      have HP_12 := Lib.hid (HP_11.out.trans (hb.mono HP_11.out.size))
      have IO_12 := Lib.hid (IO_11.out.below hb)
      have IO2_12 := Lib.hid (IO2_11.out.below hb)
      have ID_12 := Lib.hid (ID_11.out.below hb)
      have ID2_12 := Lib.hid (ID2_11.out.below hb)
      have IV_12 := Lib.hid (IV_11.out.below hb)
      have IV2_12 := Lib.hid (IV2_11.out.below hb)
      have IS_12 := Lib.hid (IS_11.out.below hb)
      have IS2_12 := Lib.hid (IS2_11.out.below hb)
      clear HP_11 IO_11 IO2_11 ID_11 ID2_11 IV_11 IV2_11 IS_11 IS2_11
      clear hb
      go_wp2_with fail
      refine (V.likeInts _ _ _ L2 _ _ _ L2 _ ID_12.out ID2_12.out rfl).mono ?_
      rintro e w_13 ⟨rfl, qd, hq⟩
      have hb : Below w_12.heap.size w_12 w_13 := by rw [hq]; exact V.b_draws _ _
      clear hq
      have HP_13 := Lib.hid (HP_12.out.trans (hb.mono HP_12.out.size))
      have IO_13 := Lib.hid (IO_12.out.below hb)
      have IO2_13 := Lib.hid (IO2_12.out.below hb)
      have ID_13 := Lib.hid (ID_12.out.below hb)
      have ID2_13 := Lib.hid (ID2_12.out.below hb)
      have IV_13 := Lib.hid (IV_12.out.below hb)
      have IV2_13 := Lib.hid (IV2_12.out.below hb)
      have IS_13 := Lib.hid (IS_12.out.below hb)
      have IS2_13 := Lib.hid (IS2_12.out.below hb)
      clear HP_12 IO_12 IO2_12 ID_12 ID2_12 IV_12 IV2_12 IS_12 IS2_12
      clear hb
      go_wp2_with fail
      refine (V.likeInts _ _ _ L3 _ _ _ L3 _ IV_13.out IV2_13.out rfl).mono ?_
      rintro e w_14 ⟨rfl, qd, hq⟩
      have hb : Below w_13.heap.size w_13 w_14 := by rw [hq]; exact V.b_draws _ _
      clear hq
      have HP_14 := Lib.hid (HP_13.out.trans (hb.mono HP_13.out.size))
      have IO_14 := Lib.hid (IO_13.out.below hb)
      have IO2_14 := Lib.hid (IO2_13.out.below hb)
      have ID_14 := Lib.hid (ID_13.out.below hb)
      have ID2_14 := Lib.hid (ID2_13.out.below hb)
      have IV_14 := Lib.hid (IV_13.out.below hb)
      have IV2_14 := Lib.hid (IV2_13.out.below hb)
      have IS_14 := Lib.hid (IS_13.out.below hb)
      have IS2_14 := Lib.hid (IS2_13.out.below hb)
      clear HP_13 IO_13 IO2_13 ID_13 ID2_13 IV_13 IV2_13 IS_13 IS2_13
      clear hb
      go_wp2_with fail
      refine (V.likeInts _ _ _ LS _ _ _ LS _ IS_14.out IS2_14.out rfl).mono ?_
      rintro e w_15 ⟨rfl, qd, hq⟩
      have hb : Below w_14.heap.size w_14 w_15 := by rw [hq]; exact V.b_draws _ _
      clear hq
      have HP_15 := Lib.hid (HP_14.out.trans (hb.mono HP_14.out.size))
      have IO_15 := Lib.hid (IO_14.out.below hb)
      have IO2_15 := Lib.hid (IO2_14.out.below hb)
      have ID_15 := Lib.hid (ID_14.out.below hb)
      have ID2_15 := Lib.hid (ID2_14.out.below hb)
      have IV_15 := Lib.hid (IV_14.out.below hb)
      have IV2_15 := Lib.hid (IV2_14.out.below hb)
      have IS_15 := Lib.hid (IS_14.out.below hb)
      have IS2_15 := Lib.hid (IS2_14.out.below hb)
      clear HP_14 IO_14 IO2_14 ID_14 ID2_14 IV_14 IV2_14 IS_14 IS2_14
      clear hb
      have hO0 : nO = 0 := by have := IO_15.out.1; rw [HEL1.out] at this; exact this.symm
      subst hO0
      obtain ⟨g0, g1⟩ := HGb.out.below HP_15.out
      go_wp2
      go_loopw [26, 27, 28, 29] (fun _ kv _ _ wr => kv = .int .i64 0 ∧ Hid (Below w_15.heap.size w_15 wr)) (fun _ _ _ _ _ => 0)
      case atStart => exact ⟨rfl, V.b_alloc _ _⟩
      case round =>
        obtain ⟨rfl, HZ⟩ := hrel
        go_wp2
        go_ret
        exact ⟨rfl, (HW.out.trans (HP_15.out.mono HW.out.size)).trans (HZ.out.mono (Nat.le_trans HW.out.size HP_15.out.size))⟩
end Go.Proofs.Ytobdgboejbbfiaa.fnOrders
