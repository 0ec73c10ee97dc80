/- The walk through the law: it returns true and writes nothing that was there. The function TimePotential answers as its model, for all arguments, leaves the graph as it was, and its answer owns its memory. -/
import Derived.Test.YtlofnadpgnbmdaaRows
import Derived.Test.YtlofnadpgnbmdaaQa1
import Derived.Test.YtlofnadpgnbmdaaQa2
import Derived.Test.YtlofnadpgnbmdaaQa8
import Derived.Test.YtlofnadpgnbmdaaQa3
import Derived.Test.YtlofnadpgnbmdaaQa48
import Derived.Test.YtlofnadpgnbmdaaQa53
import Derived.WalkKit
import Derived.ProofKit
import Derived.OpenShut
import Derived.ShutString
import Derived.ChangeOld
import Derived.Below
import Derived.Lib.SmallJoins
import Derived.Lib.Hide
import Derived.WalkSmall
import Derived.Deep.Draws
import Derived.Deep.QuietTactic
import Derived.BigQuiet
import Derived.Deep.OwnRows
import Derived.Deep.RegionWith
import Derived.Deep.RegionHeld3
set_option linter.unusedSimpArgs false
set_option linter.unusedVariables false
set_option linter.unusedSectionVars false
namespace Go.Proofs.Ytlofnadpgnbmdaa.fnExactTimePotential
open Go.ChangeShapes Go.WideShapes Go.ChangeAt Go.RowKit
open Go.ChangeMaps (open_string shut_string)
set_option linter.unusedVariables false

theorem keepG {w0 w1 w2 : World} {G X : Nat} {p q r s : Value} (h : w1.cell? ⟨G, 0, none⟩ = some p ∧ w1.cell? ⟨G, 1, none⟩ = some q ∧ w1.cell? ⟨X, 0, none⟩ = some r ∧ w1.cell? ⟨X, 1, none⟩ = some s ∧ Below w0.heap.size w0 w1) (hb : Below w1.heap.size w1 w2) :
    w2.cell? ⟨G, 0, none⟩ = some p ∧ w2.cell? ⟨G, 1, none⟩ = some q ∧ w2.cell? ⟨X, 0, none⟩ = some r ∧ w2.cell? ⟨X, 1, none⟩ = some s ∧ Below w0.heap.size w0 w2 := by
  obtain ⟨h1, h2, h3, h4, h5⟩ := h
  exact ⟨(hb.cell (V.cell_lt h1)).trans h1, (hb.cell (V.cell_lt h2)).trans h2, (hb.cell (V.cell_lt h3)).trans h3, (hb.cell (V.cell_lt h4)).trans h4, h5.trans (hb.mono h5.size)⟩
theorem bt {a b c : World} (h1 : Below a.heap.size a b) (h2 : Below b.heap.size b c) : Below a.heap.size a c := h1.trans (h2.mono h1.size)
theorem gsame {w w' : World} {g : Nat} {x : Int} {a : Option Addr} {n cap : Nat} (h : V.GBox w g x a n cap) (e : w'.heap[g]? = w.heap[g]?) : V.GBox w' g x a n cap :=
  ⟨(World.cell?_of_block (a := ⟨g, 0, none⟩) e).trans h.1, (World.cell?_of_block (a := ⟨g, 1, none⟩) e).trans h.2⟩
theorem keepQ {w0 w1 w2 : World} {G X : Nat} {p q r s : Value} (h : w1.cell? ⟨G, 0, none⟩ = some p ∧ w1.cell? ⟨G, 1, none⟩ = some q ∧ w1.cell? ⟨X, 0, none⟩ = some r ∧ w1.cell? ⟨X, 1, none⟩ = some s ∧ Below w0.heap.size w0 w1) (hb : Below w1.heap.size w1 w2) :
    w2.cell? ⟨G, 0, none⟩ = some p ∧ w2.cell? ⟨G, 1, none⟩ = some q ∧ w2.cell? ⟨X, 0, none⟩ = some r ∧ w2.cell? ⟨X, 1, none⟩ = some s ∧ Below w0.heap.size w0 w2 := keepG h hb

set_option maxRecDepth 100000 in
set_option maxHeartbeats 4000000 in
theorem walk (x0 : Int) (a0 : Option Addr) (len0 cap0 : Nat) (l0 : List M.Pc) (a1_0 a1_1 : Int) (w : World) (wx0 : (Lit.int .i64 x0).wf = true) (w0 : V.Pls w a0 len0 l0) (w1_0 : (Lit.int .i64 a1_0).wf = true) (w1_1 : (Lit.int .i64 a1_1).wf = true) :
    Calls Try.prog 13 #[.agg #[.int .i64 x0, .slice a0 len0 cap0], .agg #[.int .i64 a1_0, .int .i64 a1_1]] w fun e w' => e = .returned (.bool true) ∧ Below w.heap.size w w' := by
  have HA := Lib.hid w0
  have hlm := w0.2.1
  clear w0
  by_cases hbig : 1048576 < len0
  · go_enter Try.func13, Try.ntmps13
    go_wp2_with fail
    refine (V.szGr_f x0 a0 len0 cap0 _ hbig hlm).mono ?_
    rintro e w1 ⟨rfl, hb1⟩
    have HB1 := Lib.hid ((V.b_alloc2 w (.cells #[.int .i64 x0, .slice a0 len0 cap0] 54) (.cells #[.int .i64 a1_0, .int .i64 a1_1] 65)).trans (hb1.mono (by simp; omega)))
    clear hb1
    go_wp2
    go_ret
    exact ⟨rfl, HB1.out⟩
  · have hn : len0 ≤ 1048576 := by omega
    obtain ⟨r, hr⟩ : ∃ r, r = (M.timRes x0 l0 a1_0 a1_1) := ⟨_, rfl⟩
    have hok := M.timRes_len x0 l0 a1_0 a1_1
    rw [← hr] at hok
    have HR := Lib.hid hr
    clear hr
    have hGb := (V.gBox_new w x0 a0 len0 cap0 54).below (V.b_alloc _ (.cells #[.int .i64 a1_0, .int .i64 a1_1] 65))
    have hRb := V.RQ.newT (w.alloc (.cells #[.int .i64 x0, .slice a0 len0 cap0] 54)) a1_0 a1_1 65
    rw [World.size_alloc] at hRb
    obtain ⟨w_0, hwb⟩ : ∃ z, z = (w.alloc (.cells #[.int .i64 x0, .slice a0 len0 cap0] 54)).alloc (.cells #[.int .i64 a1_0, .int .i64 a1_1] 65) := ⟨_, rfl⟩
    have HW : Hid (Below w.heap.size w w_0) := by show Below _ _ _; rw [hwb]; exact V.b_alloc2 w _ _
    rw [← hwb] at hGb hRb
    have HGb := Lib.hid hGb
    have HRb := Lib.hid hRb
    have zb : w.heap.size + 1 < w_0.heap.size := V.cell_lt hRb.1
    have HP_0 := Lib.hid (Below.refl w_0.heap.size w_0)
    obtain ⟨g0, g1⟩ := hGb
    clear hRb hlm hbig
    go_enter Try.func13, Try.ntmps13
    go_wp2_with fail
    rw [← hwb]
    clear hwb g0 g1
    refine (V.szGr_t x0 a0 len0 cap0 _ hn).mono ?_
    rintro e w_1 ⟨rfl, hb⟩
    have z1 : w_0.heap.size ≤ w_1.heap.size := hb.size
    have HP_1 := Lib.hid (HP_0.out.trans (hb.mono (by omega)))
    clear HP_0
    clear hb
    have hl0 : ¬ (1048576 - (len0 : Int) < 0) := by omega
    obtain ⟨g0, g1⟩ := HGb.out.below HP_1.out
    obtain ⟨q0, q1⟩ := HRb.out.eq (HP_1.out.block _ zb)
    go_wp2
    go_region_held3 (fun w' => w'.cell? ⟨w.heap.size, 0, none⟩ = some (.int .i64 x0) ∧ w'.cell? ⟨w.heap.size, 1, none⟩ = some (.slice a0 len0 cap0) ∧ w'.cell? ⟨w.heap.size + 1, 0, none⟩ = some (.int .i64 a1_0) ∧ w'.cell? ⟨w.heap.size + 1, 1, none⟩ = some (.int .i64 a1_1) ∧ Below w_1.heap.size w_1 w')
      (first | exact ⟨g0, g1, q0, q1, (Below.refl _ _).drew⟩ | exact keepQ ‹_ ∧ _ ∧ _ ∧ _ ∧ Below _ _ _› hb)
      (first
        | (go_at_call 34; refine (V.toGraph x0 a0 len0 cap0 l0 _ ?hp hn).mono ?_; (case hp => exact HA.out.below (bt (bt HW.out HP_1.out) (‹_ ∧ _ ∧ _ ∧ _ ∧ Below _ _ _›).2.2.2.2)); rintro e wy ⟨b7, rfl, ho7, hb⟩; have HD := Lib.hid ho7; have HBw := Lib.hid (bt (‹_ ∧ _ ∧ _ ∧ _ ∧ Below _ _ _›).2.2.2.2 hb); clear ho7)
        | (go_at_call 46; refine (V.toRatio _ _ _).mono ?_; rintro e wq ⟨rfl, hb⟩; have HBq := Lib.hid (bt HBw.out hb); have HDp := Lib.hid (HD.out.below hb).pls)
        | (go_at_call 48; refine (V.sTimePotential x0 _ _ _ l0 a1_0 a1_1 _ HDp.out).mono ?_; rintro e w_2 ⟨sa, sn, sc, rfl, ho, hb⟩; have HBz := Lib.hid (bt HBq.out hb)))
    all_goals
      have zq := HBq.out.size
      have zp : wq.heap.size ≤ w_2.heap.size := (‹Below wq.heap.size wq w_2›).size
      have z2 : w_1.heap.size ≤ w_2.heap.size := HBz.out.size
      have HP_2 := Lib.hid (HP_1.out.trans (HBz.out.mono (by omega)))
      clear HP_1
      rw [← HR.out] at ho ⊢
      have HOs := Lib.hid ho
      clear ho hb HD HDp HBw HBq HBz g0 g1 q0 q1
      have Ss_2 : Hid (V.Same wq.heap.size w_2.heap.size w_2 w_2) := V.Same.refl _ _ _
      generalize wq.heap.size = zs at *
      obtain ⟨g0, g1⟩ := HGb.out.below HP_2.out
      go_wp2_with fail
      clear g0 g1
      refine (V.toGraph x0 a0 len0 cap0 l0 _ (HA.out.below (bt HW.out HP_2.out)) hn).mono ?_
      rintro e w_3 ⟨bx, rfl, ho, hb⟩
      have z3 : w_2.heap.size ≤ w_3.heap.size := hb.size
      have HP_3 := Lib.hid (HP_2.out.trans (hb.mono (by omega)))
      have Ss_3 : Hid (V.Same zs w_2.heap.size w_2 w_3) := Ss_2.out.below hb (by omega)
      clear HP_2 Ss_2
      have HOx := Lib.hid ho
      clear ho hb
      have Sx_3 : Hid (V.Same w_2.heap.size w_3.heap.size w_3 w_3) := V.Same.refl _ _ _
      have hXb := V.gBox_new w_3 x0 bx len0 len0 26
      obtain ⟨w_4, hwx⟩ : ∃ z, z = w_3.alloc (.cells #[.int .i64 x0, .slice bx len0 len0] 26) := ⟨_, rfl⟩
      have hb : Below w_3.heap.size w_3 w_4 := by rw [hwx]; exact V.b_alloc w_3 _
      rw [← hwx] at hXb
      have zx : w_3.heap.size < w_4.heap.size := V.cell_lt hXb.1
      have z4 : w_3.heap.size ≤ w_4.heap.size := hb.size
      have HP_4 := Lib.hid (HP_3.out.trans (hb.mono (by omega)))
      have Ss_4 : Hid (V.Same zs w_2.heap.size w_2 w_4) := Ss_3.out.below hb (by omega)
      have Sx_4 : Hid (V.Same w_2.heap.size w_3.heap.size w_3 w_4) := Sx_3.out.below hb (by omega)
      clear HP_3 Ss_3 Sx_3
      have HOX := Lib.hid hXb
      clear hb
      have SX_4 : Hid (V.Same w_3.heap.size w_4.heap.size w_4 w_4) := V.Same.refl _ _ _
      obtain ⟨q0, q1⟩ := HRb.out.eq (HP_4.out.block _ zb)
      obtain ⟨k0, k1⟩ := hXb
      go_wp2
      rw [← hwx]
      clear hwx
      go_region_held3 (fun w' => w'.cell? ⟨w_3.heap.size, 0, none⟩ = some (.int .i64 x0) ∧ w'.cell? ⟨w_3.heap.size, 1, none⟩ = some (.slice bx len0 len0) ∧ w'.cell? ⟨w.heap.size + 1, 0, none⟩ = some (.int .i64 a1_0) ∧ w'.cell? ⟨w.heap.size + 1, 1, none⟩ = some (.int .i64 a1_1) ∧ Below w_4.heap.size w_4 w')
        (first | exact ⟨k0, k1, q0, q1, (Below.refl _ _).drew⟩ | exact keepQ ‹_ ∧ _ ∧ _ ∧ _ ∧ Below _ _ _› hb)
        (first
          | (go_at_call 46; refine (V.toRatio _ _ _).mono ?_; rintro e wq ⟨rfl, hb⟩; have HBq := Lib.hid (bt (‹_ ∧ _ ∧ _ ∧ _ ∧ Below _ _ _›).2.2.2.2 hb); have HDp := Lib.hid (((HOx.out.keep Sx_4.out).pls).below (bt (‹_ ∧ _ ∧ _ ∧ _ ∧ Below _ _ _›).2.2.2.2 hb)))
          | (go_at_call 49; refine (V.timePotential x0 _ _ _ l0 a1_0 a1_1 _ HDp.out).mono ?_; rintro e w_5 ⟨ga, gn, gc, rfl, ho, hb⟩; have HBz := Lib.hid (bt HBq.out hb)))
      all_goals
        have zq := HBq.out.size
        have zp : wq.heap.size ≤ w_5.heap.size := (‹Below wq.heap.size wq w_5›).size
        have z5 : w_4.heap.size ≤ w_5.heap.size := HBz.out.size
        have HP_5 := Lib.hid (HP_4.out.trans (HBz.out.mono (by omega)))
        have Ss_5 : Hid (V.Same zs w_2.heap.size w_2 w_5) := Ss_4.out.below HBz.out (by omega)
        have Sx_5 : Hid (V.Same w_2.heap.size w_3.heap.size w_3 w_5) := Sx_4.out.below HBz.out (by omega)
        have SX_5 : Hid (V.Same w_3.heap.size w_4.heap.size w_4 w_5) := SX_4.out.below HBz.out (by omega)
        clear HP_4 Ss_4 Sx_4 SX_4
        rw [← HR.out] at ho ⊢
        have HOg := Lib.hid ho
        clear ho hb HDp HBq HBz k0 k1 q0 q1
        generalize hzg : wq.heap.size = zg at *
        clear hzg
        have Sg_5 : Hid (V.Same zg w_5.heap.size w_5 w_5) := V.Same.refl _ _ _
        have hgn : gn ≤ 30 := by have := HOg.out.len; omega
        go_wp2_with fail
        refine (V.eqV _ _ _ _ _ _ _ _ ((HOg.out.keep Sg_5.out).ints') ((HOs.out.keep Ss_5.out).ints')).mono ?_
        rintro e w_6 ⟨rfl, hb⟩
        have z6 : w_5.heap.size ≤ w_6.heap.size := hb.size
        have HP_6 := Lib.hid (HP_5.out.trans (hb.mono (by omega)))
        have Ss_6 : Hid (V.Same zs w_2.heap.size w_2 w_6) := Ss_5.out.below hb (by omega)
        have Sx_6 : Hid (V.Same w_2.heap.size w_3.heap.size w_3 w_6) := Sx_5.out.below hb (by omega)
        have SX_6 : Hid (V.Same w_3.heap.size w_4.heap.size w_4 w_6) := SX_5.out.below hb (by omega)
        have Sg_6 : Hid (V.Same zg w_5.heap.size w_5 w_6) := Sg_5.out.below hb (by omega)
        clear HP_5 Ss_5 Sx_5 SX_5 Sg_5
        clear hb
        obtain ⟨g0, g1⟩ := HGb.out.below HP_6.out
        obtain ⟨k0, k1⟩ := gsame HOX.out (SX_6.out w_3.heap.size (by omega) (by omega))
        go_wp2
        go_region_held3 (fun w' => w'.cell? ⟨w.heap.size, 0, none⟩ = some (.int .i64 x0) ∧ w'.cell? ⟨w.heap.size, 1, none⟩ = some (.slice a0 len0 cap0) ∧ w'.cell? ⟨w_3.heap.size, 0, none⟩ = some (.int .i64 x0) ∧ w'.cell? ⟨w_3.heap.size, 1, none⟩ = some (.slice bx len0 len0) ∧ Below w_6.heap.size w_6 w')
          (first | exact ⟨g0, g1, k0, k1, (Below.refl _ _).drew⟩ | exact keepG ‹_ ∧ _ ∧ _ ∧ _ ∧ Below _ _ _› hb)
          (first
            | (go_at_call 34; refine (V.toGraph x0 a0 len0 cap0 l0 _ ?hp hn).mono ?_; (case hp => exact HA.out.below (bt (bt HW.out HP_6.out) (‹_ ∧ _ ∧ _ ∧ _ ∧ Below _ _ _›).2.2.2.2)); rintro e wy ⟨b7, rfl, ho7, hb⟩; have HD := Lib.hid ho7.pls; have HBw := Lib.hid (bt (‹_ ∧ _ ∧ _ ∧ _ ∧ Below _ _ _›).2.2.2.2 hb); clear ho7)
            | (go_at_call 35; refine (V.eqGraph x0 _ _ _ _ _ _ l0 _ ?h1 ?h2).mono ?_; (case h1 => exact ((HOx.out.keep Sx_6.out).pls).below HBw.out); (case h2 => exact HD.out); rintro e w_7 ⟨rfl, hb⟩; have HBz := Lib.hid (bt HBw.out hb)))
        all_goals
          have z7 : w_6.heap.size ≤ w_7.heap.size := HBz.out.size
          have HP_7 := Lib.hid (HP_6.out.trans (HBz.out.mono (by omega)))
          have Ss_7 : Hid (V.Same zs w_2.heap.size w_2 w_7) := Ss_6.out.below HBz.out (by omega)
          have Sx_7 : Hid (V.Same w_2.heap.size w_3.heap.size w_3 w_7) := Sx_6.out.below HBz.out (by omega)
          have SX_7 : Hid (V.Same w_3.heap.size w_4.heap.size w_4 w_7) := SX_6.out.below HBz.out (by omega)
          have Sg_7 : Hid (V.Same zg w_5.heap.size w_5 w_7) := Sg_6.out.below HBz.out (by omega)
          clear HP_6 Ss_6 Sx_6 SX_6 Sg_6
          clear HD HBw HBz g0 g1 k0 k1 hb
          obtain ⟨k0, k1⟩ := gsame HOX.out (SX_7.out w_3.heap.size (by omega) (by omega))
          go_wp2_with fail
          refine (V.markGraph x0 _ _ _ w_2.heap.size l0 1 w_3 w_7 HOx.out Sx_7.out (by omega) hn (by omega) (by omega)).mono ?_
          rintro e w_8 ⟨y, rfl, hy, HY, ho, hk, hsz, hBl⟩
          have hBl := hBl (by omega)
          have z8 := hsz
          have HP_8 := Lib.hid (HP_7.out.trans (hBl.mono (by omega)))
          have Ss_8 : Hid (V.Same zs w_2.heap.size w_2 w_8) := fun k q1 q2 => (hk k (by omega) (by omega)).trans (Ss_7.out k q1 q2)
          have SX_8 : Hid (V.Same w_3.heap.size w_4.heap.size w_4 w_8) := fun k q1 q2 => (hk k (by omega) (by omega)).trans (SX_7.out k q1 q2)
          have Sg_8 : Hid (V.Same zg w_5.heap.size w_5 w_8) := fun k q1 q2 => (hk k (by omega) (by omega)).trans (Sg_7.out k q1 q2)
          clear HP_7 hk hsz hBl ho HOx k0 k1 Ss_7 Sx_7 SX_7 Sg_7
          clear SX_8 HOX
          go_wp2_with fail
          refine (V.eqV _ _ _ _ _ _ _ _ ((HOg.out.keep Sg_8.out).ints') ((HOs.out.keep Ss_8.out).ints')).mono ?_
          rintro e w_9 ⟨rfl, hb⟩
          have z9 : w_8.heap.size ≤ w_9.heap.size := hb.size
          have HP_9 := Lib.hid (HP_8.out.trans (hb.mono (by omega)))
          have Ss_9 : Hid (V.Same zs w_2.heap.size w_2 w_9) := Ss_8.out.below hb (by omega)
          have Sg_9 : Hid (V.Same zg w_5.heap.size w_5 w_9) := Sg_8.out.below hb (by omega)
          clear HP_8 Ss_8 Sg_8
          clear hb
          go_wp2_with fail
          refine (V.markV _ _ _ _ r.1 _ w_5 _ HOg.out Sg_9.out (by omega) (by omega) (by omega)).mono ?_
          rintro e w_10 ⟨m, rfl, hm, HM, ho, hc⟩
          have z10 : w_9.heap.size ≤ w_10.heap.size := Nat.le_of_eq hc.size.symm
          have HP_10 := Lib.hid (HP_9.out.trans (hc.below (fun k hk => Nat.le_trans (by omega) hk.1)))
          have Ss_10 := Lib.hid (Ss_9.out.chg hc (fun k h1 h2 h3 => by omega))
          have HOm := Lib.hid ho
          clear HP_9 Ss_9 Sg_9 HOg ho hc
          have HOg := HOm
          clear HOm
          have Sg_10 : Hid (V.Same zg w_10.heap.size w_10 w_10) := V.Same.refl _ _ _
          have hmb : m ≤ 3000 := by have := HM.out; omega
          go_wp2_with fail
          refine (V.heldV _ _ _ _ m _ ((HOg.out.keep Sg_10.out).ints') (by omega) (by omega) (by omega) HM.out).mono ?_
          rintro e w' ⟨rfl, rfl⟩
          obtain ⟨g0, g1⟩ := HGb.out.below HP_10.out
          obtain ⟨q0, q1⟩ := HRb.out.eq (HP_10.out.block _ zb)
          go_wp2
          go_region_held3 (fun w' => w'.cell? ⟨w.heap.size, 0, none⟩ = some (.int .i64 x0) ∧ w'.cell? ⟨w.heap.size, 1, none⟩ = some (.slice a0 len0 cap0) ∧ w'.cell? ⟨w.heap.size + 1, 0, none⟩ = some (.int .i64 a1_0) ∧ w'.cell? ⟨w.heap.size + 1, 1, none⟩ = some (.int .i64 a1_1) ∧ Below w_10.heap.size w_10 w')
            (first | exact ⟨g0, g1, q0, q1, (Below.refl _ _).drew⟩ | exact keepQ ‹_ ∧ _ ∧ _ ∧ _ ∧ Below _ _ _› hb)
            (first
              | (go_at_call 34; refine (V.toGraph x0 a0 len0 cap0 l0 _ ?hp hn).mono ?_; (case hp => exact HA.out.below (bt (bt HW.out HP_10.out) (‹_ ∧ _ ∧ _ ∧ _ ∧ Below _ _ _›).2.2.2.2)); rintro e wy ⟨b7, rfl, ho7, hb⟩; have HD := Lib.hid ho7; have HBw := Lib.hid (bt (‹_ ∧ _ ∧ _ ∧ _ ∧ Below _ _ _›).2.2.2.2 hb); clear ho7)
              | (go_at_call 46; refine (V.toRatio _ _ _).mono ?_; rintro e wq ⟨rfl, hb⟩; have HBq := Lib.hid (bt HBw.out hb); have HDp := Lib.hid (HD.out.below hb).pls)
              | (go_at_call 49; refine (V.timePotential x0 _ _ _ l0 a1_0 a1_1 _ HDp.out).mono ?_; rintro e w_11 ⟨ha, hn7, hc, rfl, ho, hb⟩; have HBz := Lib.hid (bt HBq.out hb)))
          all_goals
            have zq := HBq.out.size
            have zp : wq.heap.size ≤ w_11.heap.size := (‹Below wq.heap.size wq w_11›).size
            have z11 : w_10.heap.size ≤ w_11.heap.size := HBz.out.size
            have HP_11 := Lib.hid (HP_10.out.trans (HBz.out.mono (by omega)))
            have Ss_11 : Hid (V.Same zs w_2.heap.size w_2 w_11) := Ss_10.out.below HBz.out (by omega)
            have Sg_11 : Hid (V.Same zg w_10.heap.size w_10 w_11) := Sg_10.out.below HBz.out (by omega)
            clear HP_10 Ss_10 Sg_10
            rw [← HR.out] at ho ⊢
            have HOh := Lib.hid ho
            clear ho hb HD HDp HBw HBq HBz g0 g1 q0 q1
            generalize hzh : wq.heap.size = zh at *
            clear hzh
            have Sh_11 : Hid (V.Same zh w_11.heap.size w_11 w_11) := V.Same.refl _ _ _
            go_wp2_with fail
            refine (V.eqV _ _ _ _ _ _ _ _ ((HOh.out.keep Sh_11.out).ints') ((HOs.out.keep Ss_11.out).ints')).mono ?_
            rintro e w_12 ⟨rfl, hb⟩
            have z12 : w_11.heap.size ≤ w_12.heap.size := hb.size
            have HP_12 := Lib.hid (HP_11.out.trans (hb.mono (by omega)))
            have Ss_12 : Hid (V.Same zs w_2.heap.size w_2 w_12) := Ss_11.out.below hb (by omega)
            have Sg_12 : Hid (V.Same zg w_10.heap.size w_10 w_12) := Sg_11.out.below hb (by omega)
            have Sh_12 : Hid (V.Same zh w_11.heap.size w_11 w_12) := Sh_11.out.below hb (by omega)
            clear HP_11 Ss_11 Sg_11 Sh_11
            clear hb
            go_wp2_with fail
            refine (V.heldV _ _ _ _ m _ ((HOg.out.keep Sg_12.out).ints') (by omega) (by omega) (by omega) HM.out).mono ?_
            rintro e w' ⟨rfl, rfl⟩
            go_wp2
            go_ret
            exact ⟨rfl, bt HW.out HP_12.out⟩
end Go.Proofs.Ytlofnadpgnbmdaa.fnExactTimePotential
