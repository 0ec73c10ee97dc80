/- The walk through the law: it returns true and writes nothing that was there. The function BestCircuit answers as its model, for all arguments, leaves the graph as it was, and its answer owns its memory. -/
import Derived.Test.YtlofnadpgnbmdaaRows
import Derived.Test.YtlofnadpgnbmdaaQa1
import Derived.Test.YtlofnadpgnbmdaaQa2
import Derived.Test.YtlofnadpgnbmdaaQa8
import Derived.Test.YtlofnadpgnbmdaaQa3
import Derived.Test.YtlofnadpgnbmdaaQa66
import Derived.WalkKit
import Derived.ProofKit
import Derived.OpenShut
import Derived.ShutString
import Derived.ChangeOld
import Derived.Below
import Derived.Lib.SmallJoins
import Derived.Lib.Hide
import Derived.WalkSmall
import Derived.Deep.Draws
import Derived.Deep.QuietTactic
import Derived.BigQuiet
import Derived.Deep.OwnRows
import Derived.Deep.RegionWith
import Derived.Deep.RegionHeld3
set_option linter.unusedSimpArgs false
set_option linter.unusedVariables false
set_option linter.unusedSectionVars false
namespace Go.Proofs.Ytlofnadpgnbmdaa.fnExactBestCircuit
open Go.ChangeShapes Go.WideShapes Go.ChangeAt Go.RowKit
open Go.ChangeMaps (open_string shut_string)
set_option linter.unusedVariables false

theorem keepG {w0 w1 w2 : World} {G X : Nat} {p q r s : Value} (h : w1.cell? ⟨G, 0, none⟩ = some p ∧ w1.cell? ⟨G, 1, none⟩ = some q ∧ w1.cell? ⟨X, 0, none⟩ = some r ∧ w1.cell? ⟨X, 1, none⟩ = some s ∧ Below w0.heap.size w0 w1) (hb : Below w1.heap.size w1 w2) :
    w2.cell? ⟨G, 0, none⟩ = some p ∧ w2.cell? ⟨G, 1, none⟩ = some q ∧ w2.cell? ⟨X, 0, none⟩ = some r ∧ w2.cell? ⟨X, 1, none⟩ = some s ∧ Below w0.heap.size w0 w2 := by
  obtain ⟨h1, h2, h3, h4, h5⟩ := h
  exact ⟨(hb.cell (V.cell_lt h1)).trans h1, (hb.cell (V.cell_lt h2)).trans h2, (hb.cell (V.cell_lt h3)).trans h3, (hb.cell (V.cell_lt h4)).trans h4, h5.trans (hb.mono h5.size)⟩
theorem bt {a b c : World} (h1 : Below a.heap.size a b) (h2 : Below b.heap.size b c) : Below a.heap.size a c := h1.trans (h2.mono h1.size)
theorem gsame {w w' : World} {g : Nat} {x : Int} {a : Option Addr} {n cap : Nat} (h : V.GBox w g x a n cap) (e : w'.heap[g]? = w.heap[g]?) : V.GBox w' g x a n cap :=
  ⟨(World.cell?_of_block (a := ⟨g, 0, none⟩) e).trans h.1, (World.cell?_of_block (a := ⟨g, 1, none⟩) e).trans h.2⟩

set_option maxRecDepth 100000 in
set_option maxHeartbeats 4000000 in
theorem walk (x0 : Int) (a0 : Option Addr) (len0 cap0 : Nat) (l0 : List M.Pc) (w : World) (wx0 : (Lit.int .i64 x0).wf = true) (w0 : V.Pls w a0 len0 l0) :
    Calls Try.prog 10 #[.agg #[.int .i64 x0, .slice a0 len0 cap0]] w fun e w' => e = .returned (.bool true) ∧ Below w.heap.size w w' := by
  have HA := Lib.hid w0
  have hlm := w0.2.1
  clear w0
  by_cases hbig : 1048576 < len0
  · go_enter Try.func10, Try.ntmps10
    go_wp2_with fail
    refine (V.szGr_f x0 a0 len0 cap0 _ hbig hlm).mono ?_
    rintro e w1 ⟨rfl, hb1⟩
    have HB1 := Lib.hid ((V.b_alloc w (.cells #[.int .i64 x0, .slice a0 len0 cap0] 54)).trans (hb1.mono (by simp)))
    clear hb1
    go_wp2
    go_ret
    exact ⟨rfl, HB1.out⟩
  · have hn : len0 ≤ 1048576 := by omega
    obtain ⟨r, hr⟩ : ∃ r, r = (M.bcRes x0 l0) := ⟨_, rfl⟩
    have hok := M.bcRes_len x0 l0
    rw [← hr] at hok
    have HR := Lib.hid hr
    clear hr
    have hGb := V.gBox_new w x0 a0 len0 cap0 54
    obtain ⟨w_0, hwb⟩ : ∃ z, z = w.alloc (.cells #[.int .i64 x0, .slice a0 len0 cap0] 54) := ⟨_, rfl⟩
    have HW : Hid (Below w.heap.size w w_0) := by show Below _ _ _; rw [hwb]; exact V.b_alloc w _
    rw [← hwb] at hGb
    have HGb := Lib.hid hGb
    have zb : w.heap.size < w_0.heap.size := V.cell_lt hGb.1
    have HP_0 := Lib.hid (Below.refl w_0.heap.size w_0)
    clear hGb hlm hbig
    go_enter Try.func10, Try.ntmps10
    go_wp2_with fail
    rw [← hwb]
    clear hwb
    refine (V.szGr_t x0 a0 len0 cap0 _ hn).mono ?_
    rintro e w_1 ⟨rfl, hb⟩
    have z1 : w_0.heap.size ≤ w_1.heap.size := hb.size
    have HP_1 := Lib.hid (HP_0.out.trans (hb.mono (by omega)))
    clear HP_0
    clear hb
    have hl0 : ¬ (1048576 - (len0 : Int) < 0) := by omega
    obtain ⟨g0, g1⟩ := HGb.out.below HP_1.out
    go_wp2_with fail
    clear g0 g1
    refine (V.toGraph x0 a0 len0 cap0 l0 _ (HA.out.below (bt HW.out HP_1.out)) hn).mono ?_
    rintro e w_2 ⟨bc, rfl, ho, hb⟩
    have z2 : w_1.heap.size ≤ w_2.heap.size := hb.size
    have HP_2 := Lib.hid (HP_1.out.trans (hb.mono (by omega)))
    clear HP_1
    have HOc := Lib.hid ho
    clear ho hb
    have Sc_2 : Hid (V.Same w_1.heap.size w_2.heap.size w_2 w_2) := V.Same.refl _ _ _
    go_wp2_with fail
    refine (V.sBestCircuitS x0 _ _ _ l0  _ ((HOc.out.keep Sc_2.out).pls)).mono ?_
    rintro e w_3 ⟨sa, sn, sc, rfl, ho, hb⟩
    rw [← HR.out] at ho ⊢
    have z3 : w_2.heap.size ≤ w_3.heap.size := hb.size
    have HP_3 := Lib.hid (HP_2.out.trans (hb.mono (by omega)))
    have Sc_3 : Hid (V.Same w_1.heap.size w_2.heap.size w_2 w_3) := Sc_2.out.below hb (by omega)
    clear HP_2 Sc_2
    have HOs := Lib.hid ho
    clear ho hb
    have Ss_3 : Hid (V.Same w_2.heap.size w_3.heap.size w_3 w_3) := V.Same.refl _ _ _
    clear Sc_3 HOc
    obtain ⟨g0, g1⟩ := HGb.out.below HP_3.out
    go_wp2_with fail
    clear g0 g1
    refine (V.toGraph x0 a0 len0 cap0 l0 _ (HA.out.below (bt HW.out HP_3.out)) hn).mono ?_
    rintro e w_4 ⟨bx, rfl, ho, hb⟩
    have z4 : w_3.heap.size ≤ w_4.heap.size := hb.size
    have HP_4 := Lib.hid (HP_3.out.trans (hb.mono (by omega)))
    have Ss_4 : Hid (V.Same w_2.heap.size w_3.heap.size w_3 w_4) := Ss_3.out.below hb (by omega)
    clear HP_3 Ss_3
    have HOx := Lib.hid ho
    clear ho hb
    have Sx_4 : Hid (V.Same w_3.heap.size w_4.heap.size w_4 w_4) := V.Same.refl _ _ _
    have hXb := V.gBox_new w_4 x0 bx len0 len0 26
    obtain ⟨w_5, hwx⟩ : ∃ z, z = w_4.alloc (.cells #[.int .i64 x0, .slice bx len0 len0] 26) := ⟨_, rfl⟩
    have hb : Below w_4.heap.size w_4 w_5 := by rw [hwx]; exact V.b_alloc w_4 _
    rw [← hwx] at hXb
    have zx : w_4.heap.size < w_5.heap.size := V.cell_lt hXb.1
    have z5 : w_4.heap.size ≤ w_5.heap.size := hb.size
    have HP_5 := Lib.hid (HP_4.out.trans (hb.mono (by omega)))
    have Ss_5 : Hid (V.Same w_2.heap.size w_3.heap.size w_3 w_5) := Ss_4.out.below hb (by omega)
    have Sx_5 : Hid (V.Same w_3.heap.size w_4.heap.size w_4 w_5) := Sx_4.out.below hb (by omega)
    clear HP_4 Ss_4 Sx_4
    have HOX := Lib.hid hXb
    clear hXb hb
    have SX_5 : Hid (V.Same w_4.heap.size w_5.heap.size w_5 w_5) := V.Same.refl _ _ _
    go_wp2_with fail
    rw [← hwx]
    clear hwx
    refine (V.bestCircuitI x0 _ _ _ l0  _ ((HOx.out.keep Sx_5.out).pls)).mono ?_
    rintro e w_6 ⟨ga, gn, gc, rfl, ho, hb⟩
    rw [← HR.out] at ho ⊢
    have z6 : w_5.heap.size ≤ w_6.heap.size := hb.size
    have HP_6 := Lib.hid (HP_5.out.trans (hb.mono (by omega)))
    have Ss_6 : Hid (V.Same w_2.heap.size w_3.heap.size w_3 w_6) := Ss_5.out.below hb (by omega)
    have Sx_6 : Hid (V.Same w_3.heap.size w_4.heap.size w_4 w_6) := Sx_5.out.below hb (by omega)
    have SX_6 : Hid (V.Same w_4.heap.size w_5.heap.size w_5 w_6) := SX_5.out.below hb (by omega)
    clear HP_5 Ss_5 Sx_5 SX_5
    have HOg := Lib.hid ho
    clear ho hb
    have Sg_6 : Hid (V.Same w_5.heap.size w_6.heap.size w_6 w_6) := V.Same.refl _ _ _
    have hgn : gn ≤ 30 := by have := HOg.out.len; omega
    go_wp2_with fail
    refine (V.eqV _ _ _ _ _ _ _ _ ((HOg.out.keep Sg_6.out).ints') ((HOs.out.keep Ss_6.out).ints')).mono ?_
    rintro e w_7 ⟨rfl, hb⟩
    have z7 : w_6.heap.size ≤ w_7.heap.size := hb.size
    have HP_7 := Lib.hid (HP_6.out.trans (hb.mono (by omega)))
    have Ss_7 : Hid (V.Same w_2.heap.size w_3.heap.size w_3 w_7) := Ss_6.out.below hb (by omega)
    have Sx_7 : Hid (V.Same w_3.heap.size w_4.heap.size w_4 w_7) := Sx_6.out.below hb (by omega)
    have SX_7 : Hid (V.Same w_4.heap.size w_5.heap.size w_5 w_7) := SX_6.out.below hb (by omega)
    have Sg_7 : Hid (V.Same w_5.heap.size w_6.heap.size w_6 w_7) := Sg_6.out.below hb (by omega)
    clear HP_6 Ss_6 Sx_6 SX_6 Sg_6
    clear hb
    obtain ⟨g0, g1⟩ := HGb.out.below HP_7.out
    obtain ⟨k0, k1⟩ := gsame HOX.out (SX_7.out w_4.heap.size (by omega) (by omega))
    go_wp2
    go_region_held3 (fun w' => w'.cell? ⟨w.heap.size, 0, none⟩ = some (.int .i64 x0) ∧ w'.cell? ⟨w.heap.size, 1, none⟩ = some (.slice a0 len0 cap0) ∧ w'.cell? ⟨w_4.heap.size, 0, none⟩ = some (.int .i64 x0) ∧ w'.cell? ⟨w_4.heap.size, 1, none⟩ = some (.slice bx len0 len0) ∧ Below w_7.heap.size w_7 w')
      (first | exact ⟨g0, g1, k0, k1, (Below.refl _ _).drew⟩ | exact keepG ‹_ ∧ _ ∧ _ ∧ _ ∧ Below _ _ _› hb)
      (first
        | (go_at_call 34; refine (V.toGraph x0 a0 len0 cap0 l0 _ ?hp hn).mono ?_; (case hp => exact HA.out.below (bt (bt HW.out HP_7.out) (‹_ ∧ _ ∧ _ ∧ _ ∧ Below _ _ _›).2.2.2.2)); rintro e wy ⟨b7, rfl, ho7, hb⟩; have HD := Lib.hid ho7.pls; have HBw := Lib.hid (bt (‹_ ∧ _ ∧ _ ∧ _ ∧ Below _ _ _›).2.2.2.2 hb); clear ho7)
        | (go_at_call 35; refine (V.eqGraph x0 _ _ _ _ _ _ l0 _ ?h1 ?h2).mono ?_; (case h1 => exact ((HOx.out.keep Sx_7.out).pls).below HBw.out); (case h2 => exact HD.out); rintro e w_8 ⟨rfl, hb⟩; have HBz := Lib.hid (bt HBw.out hb)))
    all_goals
      have z8 : w_7.heap.size ≤ w_8.heap.size := HBz.out.size
      have HP_8 := Lib.hid (HP_7.out.trans (HBz.out.mono (by omega)))
      have Ss_8 : Hid (V.Same w_2.heap.size w_3.heap.size w_3 w_8) := Ss_7.out.below HBz.out (by omega)
      have Sx_8 : Hid (V.Same w_3.heap.size w_4.heap.size w_4 w_8) := Sx_7.out.below HBz.out (by omega)
      have SX_8 : Hid (V.Same w_4.heap.size w_5.heap.size w_5 w_8) := SX_7.out.below HBz.out (by omega)
      have Sg_8 : Hid (V.Same w_5.heap.size w_6.heap.size w_6 w_8) := Sg_7.out.below HBz.out (by omega)
      clear HP_7 Ss_7 Sx_7 SX_7 Sg_7
      obtain ⟨k0, k1⟩ := gsame HOX.out (SX_8.out w_4.heap.size (by omega) (by omega))
      go_wp2_with fail
      refine (V.markGraph x0 _ _ _ w_3.heap.size l0 1 w_4 w_8 HOx.out Sx_8.out (by omega) hn (by omega) (by omega)).mono ?_
      rintro e w_9 ⟨y, rfl, hy, HY, ho, hk, hsz, hBl⟩
      have hBl := hBl (by omega)
      have z9 := hsz
      have HP_9 := Lib.hid (HP_8.out.trans (hBl.mono (by omega)))
      have Ss_9 : Hid (V.Same w_2.heap.size w_3.heap.size w_3 w_9) := fun k q1 q2 => (hk k (by omega) (by omega)).trans (Ss_8.out k q1 q2)
      have SX_9 : Hid (V.Same w_4.heap.size w_5.heap.size w_5 w_9) := fun k q1 q2 => (hk k (by omega) (by omega)).trans (SX_8.out k q1 q2)
      have Sg_9 : Hid (V.Same w_5.heap.size w_6.heap.size w_6 w_9) := fun k q1 q2 => (hk k (by omega) (by omega)).trans (Sg_8.out k q1 q2)
      clear HP_8 hk hsz hBl ho HOx k0 k1 Ss_8 Sx_8 SX_8 Sg_8
      clear SX_9 HOX
      go_wp2_with fail
      refine (V.eqV _ _ _ _ _ _ _ _ ((HOg.out.keep Sg_9.out).ints') ((HOs.out.keep Ss_9.out).ints')).mono ?_
      rintro e w_10 ⟨rfl, hb⟩
      have z10 : w_9.heap.size ≤ w_10.heap.size := hb.size
      have HP_10 := Lib.hid (HP_9.out.trans (hb.mono (by omega)))
      have Ss_10 : Hid (V.Same w_2.heap.size w_3.heap.size w_3 w_10) := Ss_9.out.below hb (by omega)
      have Sg_10 : Hid (V.Same w_5.heap.size w_6.heap.size w_6 w_10) := Sg_9.out.below hb (by omega)
      clear HP_9 Ss_9 Sg_9
      clear hb
      go_wp2_with fail
      refine (V.markV _ _ _ _ r.1 _ w_6 _ HOg.out Sg_10.out (by omega) (by omega) (by omega)).mono ?_
      rintro e w_11 ⟨m, rfl, hm, HM, ho, hc⟩
      have z11 : w_10.heap.size ≤ w_11.heap.size := Nat.le_of_eq hc.size.symm
      have HP_11 := Lib.hid (HP_10.out.trans (hc.below (fun k hk => Nat.le_trans (by omega) hk.1)))
      have Ss_11 := Lib.hid (Ss_10.out.chg hc (fun k h1 h2 h3 => by omega))
      have HOm := Lib.hid ho
      clear HP_10 Ss_10 Sg_10 HOg ho hc
      have HOg := HOm
      clear HOm
      have Sg_11 : Hid (V.Same w_5.heap.size w_11.heap.size w_11 w_11) := V.Same.refl _ _ _
      have hmb : m ≤ 3000 := by have := HM.out; omega
      go_wp2_with fail
      refine (V.heldV _ _ _ _ m _ ((HOg.out.keep Sg_11.out).ints') (by omega) (by omega) (by omega) HM.out).mono ?_
      rintro e w' ⟨rfl, rfl⟩
      obtain ⟨g0, g1⟩ := HGb.out.below HP_11.out
      go_wp2_with fail
      clear g0 g1
      refine (V.toGraph x0 a0 len0 cap0 l0 _ (HA.out.below (bt HW.out HP_11.out)) hn).mono ?_
      rintro e w_12 ⟨bc, rfl, ho, hb⟩
      have z12 : w_11.heap.size ≤ w_12.heap.size := hb.size
      have HP_12 := Lib.hid (HP_11.out.trans (hb.mono (by omega)))
      have Ss_12 : Hid (V.Same w_2.heap.size w_3.heap.size w_3 w_12) := Ss_11.out.below hb (by omega)
      have Sg_12 : Hid (V.Same w_5.heap.size w_11.heap.size w_11 w_12) := Sg_11.out.below hb (by omega)
      clear HP_11 Ss_11 Sg_11
      have HOc := Lib.hid ho
      clear ho hb
      have Sc_12 : Hid (V.Same w_11.heap.size w_12.heap.size w_12 w_12) := V.Same.refl _ _ _
      go_wp2_with fail
      refine (V.bestCircuitI x0 _ _ _ l0  _ ((HOc.out.keep Sc_12.out).pls)).mono ?_
      rintro e w_13 ⟨ha, hn, hc, rfl, ho, hb⟩
      rw [← HR.out] at ho ⊢
      have z13 : w_12.heap.size ≤ w_13.heap.size := hb.size
      have HP_13 := Lib.hid (HP_12.out.trans (hb.mono (by omega)))
      have Ss_13 : Hid (V.Same w_2.heap.size w_3.heap.size w_3 w_13) := Ss_12.out.below hb (by omega)
      have Sg_13 : Hid (V.Same w_5.heap.size w_11.heap.size w_11 w_13) := Sg_12.out.below hb (by omega)
      have Sc_13 : Hid (V.Same w_11.heap.size w_12.heap.size w_12 w_13) := Sc_12.out.below hb (by omega)
      clear HP_12 Ss_12 Sg_12 Sc_12
      have HOh := Lib.hid ho
      clear ho hb
      have Sh_13 : Hid (V.Same w_12.heap.size w_13.heap.size w_13 w_13) := V.Same.refl _ _ _
      clear Sc_13 HOc
      go_wp2_with fail
      refine (V.eqV _ _ _ _ _ _ _ _ ((HOh.out.keep Sh_13.out).ints') ((HOs.out.keep Ss_13.out).ints')).mono ?_
      rintro e w_14 ⟨rfl, hb⟩
      have z14 : w_13.heap.size ≤ w_14.heap.size := hb.size
      have HP_14 := Lib.hid (HP_13.out.trans (hb.mono (by omega)))
      have Ss_14 : Hid (V.Same w_2.heap.size w_3.heap.size w_3 w_14) := Ss_13.out.below hb (by omega)
      have Sg_14 : Hid (V.Same w_5.heap.size w_11.heap.size w_11 w_14) := Sg_13.out.below hb (by omega)
      have Sh_14 : Hid (V.Same w_12.heap.size w_13.heap.size w_13 w_14) := Sh_13.out.below hb (by omega)
      clear HP_13 Ss_13 Sg_13 Sh_13
      clear hb
      go_wp2_with fail
      refine (V.heldV _ _ _ _ m _ ((HOg.out.keep Sg_14.out).ints') (by omega) (by omega) (by omega) HM.out).mono ?_
      rintro e w' ⟨rfl, rfl⟩
      go_wp2
      go_ret
      exact ⟨rfl, bt HW.out HP_14.out⟩
end Go.Proofs.Ytlofnadpgnbmdaa.fnExactBestCircuit
