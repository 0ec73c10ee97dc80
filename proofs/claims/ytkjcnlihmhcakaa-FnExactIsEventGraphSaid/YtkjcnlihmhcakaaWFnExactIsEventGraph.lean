/- The walk through the law: it returns true and writes nothing that was there. The function IsEventGraph answers as its model, for all arguments, and leaves the graph as it was. -/
import Derived.Test.YtkjcnlihmhcakaaRows
import Derived.Test.YtkjcnlihmhcakaaQb1
import Derived.Test.YtkjcnlihmhcakaaQb2
import Derived.Test.YtkjcnlihmhcakaaQb4
import Derived.WalkKit
import Derived.ProofKit
import Derived.OpenShut
import Derived.ShutString
import Derived.ChangeOld
import Derived.Below
import Derived.Lib.SmallJoins
import Derived.Lib.Hide
import Derived.WalkSmall
import Derived.Deep.Draws
import Derived.Deep.QuietTactic
import Derived.BigQuiet
import Derived.Deep.OwnRows
import Derived.Deep.RegionWith
import Derived.Deep.RegionHeld3
set_option linter.unusedSimpArgs false
set_option linter.unusedVariables false
set_option linter.unusedSectionVars false
namespace Go.Proofs.Ytkjcnlihmhcakaa.fnExactIsEventGraph
open Go.ChangeShapes Go.WideShapes Go.ChangeAt Go.RowKit
open Go.ChangeMaps (open_string shut_string)
set_option linter.unusedVariables false

theorem keepG {w0 w1 w2 : World} {G X : Nat} {p q r s : Value} (h : w1.cell? ⟨G, 0, none⟩ = some p ∧ w1.cell? ⟨G, 1, none⟩ = some q ∧ w1.cell? ⟨X, 0, none⟩ = some r ∧ w1.cell? ⟨X, 1, none⟩ = some s ∧ Below w0.heap.size w0 w1) (hb : Below w1.heap.size w1 w2) :
    w2.cell? ⟨G, 0, none⟩ = some p ∧ w2.cell? ⟨G, 1, none⟩ = some q ∧ w2.cell? ⟨X, 0, none⟩ = some r ∧ w2.cell? ⟨X, 1, none⟩ = some s ∧ Below w0.heap.size w0 w2 := by
  obtain ⟨h1, h2, h3, h4, h5⟩ := h
  exact ⟨(hb.cell (V.cell_lt h1)).trans h1, (hb.cell (V.cell_lt h2)).trans h2, (hb.cell (V.cell_lt h3)).trans h3, (hb.cell (V.cell_lt h4)).trans h4, h5.trans (hb.mono h5.size)⟩
theorem bt {a b c : World} (h1 : Below a.heap.size a b) (h2 : Below b.heap.size b c) : Below a.heap.size a c := h1.trans (h2.mono h1.size)

set_option maxRecDepth 100000 in
set_option maxHeartbeats 4000000 in
theorem walk (x0 : Int) (a0 : Option Addr) (len0 cap0 : Nat) (l0 : List M.Pc) (w : World) (wx0 : (Lit.int .i64 x0).wf = true) (w0 : V.Pls w a0 len0 l0) :
    Calls Try.prog 4 #[.agg #[.int .i64 x0, .slice a0 len0 cap0]] w fun e w' => e = .returned (.bool true) ∧ Below w.heap.size w w' := by
  have HA := Lib.hid w0
  have hlm := w0.2.1
  clear w0
  by_cases hbig : 1048576 < len0
  · go_enter Try.func4, Try.ntmps4
    go_wp2_with fail
    refine (V.szGr_f x0 a0 len0 cap0 _ hbig hlm).mono ?_
    rintro e w1 ⟨rfl, hb1⟩
    have HB1 := Lib.hid ((V.b_alloc w (.cells #[.int .i64 x0, .slice a0 len0 cap0] 42)).trans (hb1.mono (by simp)))
    clear hb1
    go_wp2
    go_ret
    exact ⟨rfl, HB1.out⟩
  · have hn : len0 ≤ 1048576 := by omega
    have hG0 := V.gBox_new w x0 a0 len0 cap0 42
    obtain ⟨wb, hwb⟩ : ∃ z, z = w.alloc (.cells #[.int .i64 x0, .slice a0 len0 cap0] 42) := ⟨_, rfl⟩
    have HP_0 : Hid (Below w.heap.size w wb) := by show Below _ _ _; rw [hwb]; exact V.b_alloc w _
    rw [← hwb] at hG0
    have HG_0 := Lib.hid hG0
    clear hG0 hlm hbig
    go_enter Try.func4, Try.ntmps4
    go_wp2_with fail
    rw [← hwb]
    clear hwb
    refine (V.szGr_t x0 a0 len0 cap0 _ hn).mono ?_
    rintro e w1 ⟨rfl, hb1⟩
    have HP_1 := Lib.hid (bt HP_0.out hb1)
    have HG_1 := Lib.hid (HG_0.out.below hb1)
    obtain ⟨g0, g1⟩ := HG_1.out
    have hl0 : ¬ (1048576 - (len0 : Int) < 0) := by omega
    clear hb1 HP_0 HG_0
    go_wp2_with fail
    refine (V.toGraph x0 a0 len0 cap0 l0 _ (HA.out.below HP_1.out) hn).mono ?_
    rintro e w2 ⟨b2, rfl, ho2, hb2⟩
    have HP_2 := Lib.hid (bt HP_1.out hb2)
    have HG_2 := Lib.hid (HG_1.out.below hb2)
    have HC := Lib.hid ho2.pls
    clear ho2 hb2 HP_1 HG_1 g0 g1
    go_wp2_with fail
    refine (V.sIsEventGraph x0 _ _ _ l0 _ HC.out).mono ?_
    rintro e w3 ⟨rfl, hb3⟩
    have HP_3 := Lib.hid (bt HP_2.out hb3)
    have HG_3 := Lib.hid (HG_2.out.below hb3)
    obtain ⟨g0, g1⟩ := HG_3.out
    clear hb3 HP_2 HG_2 HC
    go_wp2_with fail
    refine (V.toGraph x0 a0 len0 cap0 l0 _ (HA.out.below HP_3.out) hn).mono ?_
    rintro e w4 ⟨b4, rfl, ho4, hb4⟩
    have HP_4 := Lib.hid (bt HP_3.out hb4)
    have HG_4 := Lib.hid (HG_3.out.below hb4)
    have HX_4 := Lib.hid ho4.pls
    clear ho4 hb4 HP_3 HG_3 g0 g1
    have hXb := V.gBox_new w4 x0 b4 len0 len0 26
    obtain ⟨w5, hw5⟩ : ∃ z, z = w4.alloc (.cells #[.int .i64 x0, .slice b4 len0 len0] 26) := ⟨_, rfl⟩
    have hb5 : Below w4.heap.size w4 w5 := by rw [hw5]; exact V.b_alloc w4 _
    rw [← hw5] at hXb
    have HXb_5 := Lib.hid hXb
    have HP_5 := Lib.hid (bt HP_4.out hb5)
    have HG_5 := Lib.hid (HG_4.out.below hb5)
    have HX_5 := Lib.hid (HX_4.out.below hb5)
    clear hXb HP_4 HG_4 HX_4 hb5
    go_wp2_with fail
    rw [← hw5]
    clear hw5
    refine (V.isEventGraph x0 _ _ _ l0 _ HX_5.out).mono ?_
    rintro e w6 ⟨rfl, hb6⟩
    have HP_6 := Lib.hid (bt HP_5.out hb6)
    have hG := HG_5.out.below hb6
    have hXb := HXb_5.out.below hb6
    have HX_6 := Lib.hid (HX_5.out.below hb6)
    obtain ⟨g0, g1⟩ := hG
    obtain ⟨k0, k1⟩ := hXb
    clear hb6 HP_5 HG_5 HX_5 HXb_5
    go_wp2
    go_region_held3 (fun w' => w'.cell? ⟨w.heap.size, 0, none⟩ = some (.int .i64 x0) ∧ w'.cell? ⟨w.heap.size, 1, none⟩ = some (.slice a0 len0 cap0) ∧ w'.cell? ⟨w4.heap.size, 0, none⟩ = some (.int .i64 x0) ∧ w'.cell? ⟨w4.heap.size, 1, none⟩ = some (.slice b4 len0 len0) ∧ Below w6.heap.size w6 w')
      (first | exact ⟨g0, g1, k0, k1, (Below.refl _ _).drew⟩ | exact keepG ‹_ ∧ _ ∧ _ ∧ _ ∧ Below _ _ _› hb)
      (first
        | (go_at_call 27; refine (V.toGraph x0 a0 len0 cap0 l0 _ ?hp hn).mono ?_; (case hp => exact HA.out.below (bt HP_6.out (‹_ ∧ _ ∧ _ ∧ _ ∧ Below _ _ _›).2.2.2.2)); rintro e wy ⟨b7, rfl, ho7, hb⟩; have HD := Lib.hid ho7.pls; have HBw := Lib.hid (bt (‹_ ∧ _ ∧ _ ∧ _ ∧ Below _ _ _›).2.2.2.2 hb); clear ho7)
        | (go_at_call 29; refine (V.eqGraph x0 _ _ _ _ _ _ l0 _ ?h1 ?h2).mono ?_; (case h1 => exact HX_6.out.below HBw.out); (case h2 => exact HD.out); rintro e wz ⟨rfl, hb⟩; have HBz := Lib.hid (bt HBw.out hb)))
    all_goals
      go_wp2
      go_ret
      exact ⟨rfl, bt HP_6.out HBz.out⟩
end Go.Proofs.Ytkjcnlihmhcakaa.fnExactIsEventGraph
