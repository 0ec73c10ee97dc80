/- The walk through the law: it returns true and writes nothing that was there. The function CertifyTime answers as its model, for all arguments, leaves the graph as it was, and its answer owns its memory. -/
import Derived.Test.YtlofnadpgnbmdaaGreatRows
import Derived.Test.YtlofnadpgnbmdaaGreatQa1
import Derived.Test.YtlofnadpgnbmdaaGreatQa2
import Derived.Test.YtlofnadpgnbmdaaGreatQa8
import Derived.Test.YtlofnadpgnbmdaaGreatQa3
import Derived.Test.YtlofnadpgnbmdaaGreatQa48
import Derived.Test.YtlofnadpgnbmdaaGreatQa70
import Derived.WalkKit
import Derived.ProofKit
import Derived.OpenShut
import Derived.ShutString
import Derived.ChangeOld
import Derived.Below
import Derived.Lib.SmallJoins
import Derived.Lib.Hide
import Derived.WalkSmall
import Derived.Deep.Draws
import Derived.Deep.QuietTactic
import Derived.BigQuiet
import Derived.Deep.OwnRows
import Derived.Deep.RegionWith
import Derived.Deep.RegionHeld3
set_option linter.unusedSimpArgs false
set_option linter.unusedVariables false
set_option linter.unusedSectionVars false
namespace Go.Proofs.YtlofnadpgnbmdaaGreat.fnExactCertifyTime
open Go.ChangeShapes Go.WideShapes Go.ChangeAt Go.RowKit
open Go.ChangeMaps (open_string shut_string)
set_option linter.unusedVariables false

theorem keepG {w0 w1 w2 : World} {G X : Nat} {p q r s : Value} (h : w1.cell? ⟨G, 0, none⟩ = some p ∧ w1.cell? ⟨G, 1, none⟩ = some q ∧ w1.cell? ⟨X, 0, none⟩ = some r ∧ w1.cell? ⟨X, 1, none⟩ = some s ∧ Below w0.heap.size w0 w1) (hb : Below w1.heap.size w1 w2) :
    w2.cell? ⟨G, 0, none⟩ = some p ∧ w2.cell? ⟨G, 1, none⟩ = some q ∧ w2.cell? ⟨X, 0, none⟩ = some r ∧ w2.cell? ⟨X, 1, none⟩ = some s ∧ Below w0.heap.size w0 w2 := by
  obtain ⟨h1, h2, h3, h4, h5⟩ := h
  exact ⟨(hb.cell (V.cell_lt h1)).trans h1, (hb.cell (V.cell_lt h2)).trans h2, (hb.cell (V.cell_lt h3)).trans h3, (hb.cell (V.cell_lt h4)).trans h4, h5.trans (hb.mono h5.size)⟩
theorem bt {a b c : World} (h1 : Below a.heap.size a b) (h2 : Below b.heap.size b c) : Below a.heap.size a c := h1.trans (h2.mono h1.size)
theorem gsame {w w' : World} {g : Nat} {x : Int} {a : Option Addr} {n cap : Nat} (h : V.GBox w g x a n cap) (e : w'.heap[g]? = w.heap[g]?) : V.GBox w' g x a n cap :=
  ⟨(World.cell?_of_block (a := ⟨g, 0, none⟩) e).trans h.1, (World.cell?_of_block (a := ⟨g, 1, none⟩) e).trans h.2⟩

set_option maxRecDepth 100000 in
set_option maxHeartbeats 4000000 in
theorem walk (x0 : Int) (a0 : Option Addr) (len0 cap0 : Nat) (l0 : List M.Pc) (w : World) (wx0 : (Lit.int .i64 x0).wf = true) (w0 : V.Pls w a0 len0 l0) :
    Calls Tryz.prog 5 #[.agg #[.int .i64 x0, .slice a0 len0 cap0]] w fun e w' => e = .returned (.bool true) ∧ Below w.heap.size w w' := by
  have HA := Lib.hid w0
  have hlm := w0.2.1
  clear w0
  by_cases hbig : 1048576 < len0
  · go_enter Tryz.func5, Tryz.ntmps5
    go_wp2_with fail
    refine (V.szGr_f x0 a0 len0 cap0 _ hbig hlm).mono ?_
    rintro e w1 ⟨rfl, hb1⟩
    have HB1 := Lib.hid ((V.b_alloc w (.cells #[.int .i64 x0, .slice a0 len0 cap0] 56)).trans (hb1.mono (by simp)))
    clear hb1
    go_wp2
    go_ret
    exact ⟨rfl, HB1.out⟩
  · have hn : len0 ≤ 1048576 := by omega
    obtain ⟨r, hr⟩ : ∃ r, r = (M.ceRes x0 l0) := ⟨_, rfl⟩
    have hok := M.ceRes_len x0 l0
    rw [← hr] at hok
    have HR := Lib.hid hr
    clear hr
    have hGb := V.gBox_new w x0 a0 len0 cap0 56
    obtain ⟨w_0, hwb⟩ : ∃ z, z = w.alloc (.cells #[.int .i64 x0, .slice a0 len0 cap0] 56) := ⟨_, rfl⟩
    have HW : Hid (Below w.heap.size w w_0) := by show Below _ _ _; rw [hwb]; exact V.b_alloc w _
    rw [← hwb] at hGb
    have HGb := Lib.hid hGb
    have zb : w.heap.size < w_0.heap.size := V.cell_lt hGb.1
    have HP_0 := Lib.hid (Below.refl w_0.heap.size w_0)
    clear hGb hlm hbig
    go_enter Tryz.func5, Tryz.ntmps5
    go_wp2_with fail
    rw [← hwb]
    clear hwb
    refine (V.szGr_t x0 a0 len0 cap0 _ hn).mono ?_
    rintro e w_1 ⟨rfl, hb⟩
    have z1 : w_0.heap.size ≤ w_1.heap.size := hb.size
    have HP_1 := Lib.hid (HP_0.out.trans (hb.mono (by omega)))
    clear HP_0
    clear hb
    have hl0 : ¬ (1048576 - (len0 : Int) < 0) := by omega
    obtain ⟨hok1, hok2⟩ := hok
    obtain ⟨g0, g1⟩ := HGb.out.below HP_1.out
    go_wp2_with fail
    clear g0 g1
    refine (V.toGraph x0 a0 len0 cap0 l0 _ (HA.out.below (bt HW.out HP_1.out)) hn).mono ?_
    rintro e w_2 ⟨bc, rfl, ho, hb⟩
    have z2 : w_1.heap.size ≤ w_2.heap.size := hb.size
    have HP_2 := Lib.hid (HP_1.out.trans (hb.mono (by omega)))
    clear HP_1
    have HOc := Lib.hid ho
    clear ho hb
    have Sc_2 : Hid (V.Same w_1.heap.size w_2.heap.size w_2 w_2) := V.Same.refl _ _ _
    go_wp2_with fail
    refine (V.sCertifyTimeS x0 _ _ _ l0 _ ((HOc.out.keep Sc_2.out).pls)).mono ?_
    rintro e w_4 ⟨w_3, s1a, s1n, s1c, s2a, s2n, s2c, rfl, ho1, hbA, ho2, hbB⟩
    rw [← HR.out] at ho1 ho2 ⊢
    have z3 : w_2.heap.size ≤ w_3.heap.size := hbA.size
    have HP_3 := Lib.hid (HP_2.out.trans (hbA.mono (by omega)))
    have Sc_3 : Hid (V.Same w_1.heap.size w_2.heap.size w_2 w_3) := Sc_2.out.below hbA (by omega)
    clear HP_2 Sc_2
    have HOs1 := Lib.hid ho1
    clear ho1 hbA
    have Ss1_3 : Hid (V.Same w_2.heap.size w_3.heap.size w_3 w_3) := V.Same.refl _ _ _
    have z4 : w_3.heap.size ≤ w_4.heap.size := hbB.size
    have HP_4 := Lib.hid (HP_3.out.trans (hbB.mono (by omega)))
    have Sc_4 : Hid (V.Same w_1.heap.size w_2.heap.size w_2 w_4) := Sc_3.out.below hbB (by omega)
    have Ss1_4 : Hid (V.Same w_2.heap.size w_3.heap.size w_3 w_4) := Ss1_3.out.below hbB (by omega)
    clear HP_3 Sc_3 Ss1_3
    have HOs2 := Lib.hid ho2
    clear ho2 hbB
    have Ss2_4 : Hid (V.Same w_3.heap.size w_4.heap.size w_4 w_4) := V.Same.refl _ _ _
    clear Sc_4 HOc
    obtain ⟨g0, g1⟩ := HGb.out.below HP_4.out
    have zg := V.cell_lt g0
    obtain ⟨w_5, hws⟩ : ∃ z, z = w_4.alloc (.cells #[.int .i64 r.1.1, .int .i64 r.1.2] 37) := ⟨_, rfl⟩
    have hb : Below w_4.heap.size w_4 w_5 := by rw [hws]; exact V.b_alloc w_4 _
    have HOs : Hid (V.RQ w_5 w_4.heap.size r.1) := by show V.RQ _ _ _; rw [hws]; exact V.RQ.new w_4 _ _
    have zrs : w_4.heap.size < w_5.heap.size := V.cell_lt HOs.out.1
    have z5 : w_4.heap.size ≤ w_5.heap.size := hb.size
    have HP_5 := Lib.hid (HP_4.out.trans (hb.mono (by omega)))
    have Ss1_5 : Hid (V.Same w_2.heap.size w_3.heap.size w_3 w_5) := Ss1_4.out.below hb (by omega)
    have Ss2_5 : Hid (V.Same w_3.heap.size w_4.heap.size w_4 w_5) := Ss2_4.out.below hb (by omega)
    clear HP_4 Ss1_4 Ss2_4
    clear hb
    have Ss_5 : Hid (V.Same w_4.heap.size w_5.heap.size w_5 w_5) := V.Same.refl _ _ _
    go_wp2_with fail
    clear g0 g1
    rw [← hws]
    clear hws zg
    refine (V.toGraph x0 a0 len0 cap0 l0 _ (HA.out.below (bt HW.out HP_5.out)) hn).mono ?_
    rintro e w_6 ⟨bx, rfl, ho, hb⟩
    have z6 : w_5.heap.size ≤ w_6.heap.size := hb.size
    have HP_6 := Lib.hid (HP_5.out.trans (hb.mono (by omega)))
    have Ss1_6 : Hid (V.Same w_2.heap.size w_3.heap.size w_3 w_6) := Ss1_5.out.below hb (by omega)
    have Ss2_6 : Hid (V.Same w_3.heap.size w_4.heap.size w_4 w_6) := Ss2_5.out.below hb (by omega)
    have Ss_6 : Hid (V.Same w_4.heap.size w_5.heap.size w_5 w_6) := Ss_5.out.below hb (by omega)
    clear HP_5 Ss1_5 Ss2_5 Ss_5
    have HOx := Lib.hid ho
    clear ho hb
    have Sx_6 : Hid (V.Same w_5.heap.size w_6.heap.size w_6 w_6) := V.Same.refl _ _ _
    have hXb := V.gBox_new w_6 x0 bx len0 len0 26
    obtain ⟨w_7, hwx⟩ : ∃ z, z = w_6.alloc (.cells #[.int .i64 x0, .slice bx len0 len0] 26) := ⟨_, rfl⟩
    have hb : Below w_6.heap.size w_6 w_7 := by rw [hwx]; exact V.b_alloc w_6 _
    rw [← hwx] at hXb
    have zx : w_6.heap.size < w_7.heap.size := V.cell_lt hXb.1
    have z7 : w_6.heap.size ≤ w_7.heap.size := hb.size
    have HP_7 := Lib.hid (HP_6.out.trans (hb.mono (by omega)))
    have Ss1_7 : Hid (V.Same w_2.heap.size w_3.heap.size w_3 w_7) := Ss1_6.out.below hb (by omega)
    have Ss2_7 : Hid (V.Same w_3.heap.size w_4.heap.size w_4 w_7) := Ss2_6.out.below hb (by omega)
    have Ss_7 : Hid (V.Same w_4.heap.size w_5.heap.size w_5 w_7) := Ss_6.out.below hb (by omega)
    have Sx_7 : Hid (V.Same w_5.heap.size w_6.heap.size w_6 w_7) := Sx_6.out.below hb (by omega)
    clear HP_6 Ss1_6 Ss2_6 Ss_6 Sx_6
    have HOX := Lib.hid hXb
    clear hXb hb
    have SX_7 : Hid (V.Same w_6.heap.size w_7.heap.size w_7 w_7) := V.Same.refl _ _ _
    go_wp2_with fail
    rw [← hwx]
    clear hwx
    refine (V.certifyTimeI x0 _ _ _ l0 _ ((HOx.out.keep Sx_7.out).pls)).mono ?_
    rintro e w_9 ⟨w_8, g1a, g1n, g1c, g2a, g2n, g2c, rfl, ho1, hbA, ho2, hbB⟩
    rw [← HR.out] at ho1 ho2 ⊢
    have z8 : w_7.heap.size ≤ w_8.heap.size := hbA.size
    have HP_8 := Lib.hid (HP_7.out.trans (hbA.mono (by omega)))
    have Ss1_8 : Hid (V.Same w_2.heap.size w_3.heap.size w_3 w_8) := Ss1_7.out.below hbA (by omega)
    have Ss2_8 : Hid (V.Same w_3.heap.size w_4.heap.size w_4 w_8) := Ss2_7.out.below hbA (by omega)
    have Ss_8 : Hid (V.Same w_4.heap.size w_5.heap.size w_5 w_8) := Ss_7.out.below hbA (by omega)
    have Sx_8 : Hid (V.Same w_5.heap.size w_6.heap.size w_6 w_8) := Sx_7.out.below hbA (by omega)
    have SX_8 : Hid (V.Same w_6.heap.size w_7.heap.size w_7 w_8) := SX_7.out.below hbA (by omega)
    clear HP_7 Ss1_7 Ss2_7 Ss_7 Sx_7 SX_7
    have HOg1 := Lib.hid ho1
    clear ho1 hbA
    have Sg1_8 : Hid (V.Same w_7.heap.size w_8.heap.size w_8 w_8) := V.Same.refl _ _ _
    have z9 : w_8.heap.size ≤ w_9.heap.size := hbB.size
    have HP_9 := Lib.hid (HP_8.out.trans (hbB.mono (by omega)))
    have Ss1_9 : Hid (V.Same w_2.heap.size w_3.heap.size w_3 w_9) := Ss1_8.out.below hbB (by omega)
    have Ss2_9 : Hid (V.Same w_3.heap.size w_4.heap.size w_4 w_9) := Ss2_8.out.below hbB (by omega)
    have Ss_9 : Hid (V.Same w_4.heap.size w_5.heap.size w_5 w_9) := Ss_8.out.below hbB (by omega)
    have Sx_9 : Hid (V.Same w_5.heap.size w_6.heap.size w_6 w_9) := Sx_8.out.below hbB (by omega)
    have SX_9 : Hid (V.Same w_6.heap.size w_7.heap.size w_7 w_9) := SX_8.out.below hbB (by omega)
    have Sg1_9 : Hid (V.Same w_7.heap.size w_8.heap.size w_8 w_9) := Sg1_8.out.below hbB (by omega)
    clear HP_8 Ss1_8 Ss2_8 Ss_8 Sx_8 SX_8 Sg1_8
    have HOg2 := Lib.hid ho2
    clear ho2 hbB
    have Sg2_9 : Hid (V.Same w_8.heap.size w_9.heap.size w_9 w_9) := V.Same.refl _ _ _
    have hg1n : g1n ≤ 30 := by have := HOg1.out.len; omega
    have hg2n : g2n ≤ 30 := by have := HOg2.out.len; omega
    obtain ⟨qs0, qs1⟩ := HOs.out.eq (Ss_9.out w_4.heap.size (by omega) (by omega))
    have zqs := V.cell_lt qs0
    obtain ⟨w_10, hwg⟩ : ∃ z, z = w_9.alloc (.cells #[.int .i64 r.1.1, .int .i64 r.1.2] 37) := ⟨_, rfl⟩
    have hb : Below w_9.heap.size w_9 w_10 := by rw [hwg]; exact V.b_alloc w_9 _
    have HOg : Hid (V.RQ w_10 w_9.heap.size r.1) := by show V.RQ _ _ _; rw [hwg]; exact V.RQ.new w_9 _ _
    have zrg : w_9.heap.size < w_10.heap.size := V.cell_lt HOg.out.1
    have z10 : w_9.heap.size ≤ w_10.heap.size := hb.size
    have HP_10 := Lib.hid (HP_9.out.trans (hb.mono (by omega)))
    have Ss1_10 : Hid (V.Same w_2.heap.size w_3.heap.size w_3 w_10) := Ss1_9.out.below hb (by omega)
    have Ss2_10 : Hid (V.Same w_3.heap.size w_4.heap.size w_4 w_10) := Ss2_9.out.below hb (by omega)
    have Ss_10 : Hid (V.Same w_4.heap.size w_5.heap.size w_5 w_10) := Ss_9.out.below hb (by omega)
    have Sx_10 : Hid (V.Same w_5.heap.size w_6.heap.size w_6 w_10) := Sx_9.out.below hb (by omega)
    have SX_10 : Hid (V.Same w_6.heap.size w_7.heap.size w_7 w_10) := SX_9.out.below hb (by omega)
    have Sg1_10 : Hid (V.Same w_7.heap.size w_8.heap.size w_8 w_10) := Sg1_9.out.below hb (by omega)
    have Sg2_10 : Hid (V.Same w_8.heap.size w_9.heap.size w_9 w_10) := Sg2_9.out.below hb (by omega)
    clear HP_9 Ss1_9 Ss2_9 Ss_9 Sx_9 SX_9 Sg1_9 Sg2_9
    clear hb
    have Sg_10 : Hid (V.Same w_9.heap.size w_10.heap.size w_10 w_10) := V.Same.refl _ _ _
    go_wp2_with fail
    rw [← hwg]
    clear hwg
    refine (V.eqRatio _ _ _).mono ?_
    rintro e w_11 ⟨rfl, hb⟩
    clear qs0 qs1 zqs
    have z11 : w_10.heap.size ≤ w_11.heap.size := hb.size
    have HP_11 := Lib.hid (HP_10.out.trans (hb.mono (by omega)))
    have Ss1_11 : Hid (V.Same w_2.heap.size w_3.heap.size w_3 w_11) := Ss1_10.out.below hb (by omega)
    have Ss2_11 : Hid (V.Same w_3.heap.size w_4.heap.size w_4 w_11) := Ss2_10.out.below hb (by omega)
    have Ss_11 : Hid (V.Same w_4.heap.size w_5.heap.size w_5 w_11) := Ss_10.out.below hb (by omega)
    have Sx_11 : Hid (V.Same w_5.heap.size w_6.heap.size w_6 w_11) := Sx_10.out.below hb (by omega)
    have SX_11 : Hid (V.Same w_6.heap.size w_7.heap.size w_7 w_11) := SX_10.out.below hb (by omega)
    have Sg1_11 : Hid (V.Same w_7.heap.size w_8.heap.size w_8 w_11) := Sg1_10.out.below hb (by omega)
    have Sg2_11 : Hid (V.Same w_8.heap.size w_9.heap.size w_9 w_11) := Sg2_10.out.below hb (by omega)
    have Sg_11 : Hid (V.Same w_9.heap.size w_10.heap.size w_10 w_11) := Sg_10.out.below hb (by omega)
    clear HP_10 Ss1_10 Ss2_10 Ss_10 Sx_10 SX_10 Sg1_10 Sg2_10 Sg_10
    clear hb
    go_wp2_with fail
    refine (V.eqV _ _ _ _ _ _ _ _ ((HOg1.out.keep Sg1_11.out).ints') ((HOs1.out.keep Ss1_11.out).ints')).mono ?_
    rintro e w_12 ⟨rfl, hb⟩
    have z12 : w_11.heap.size ≤ w_12.heap.size := hb.size
    have HP_12 := Lib.hid (HP_11.out.trans (hb.mono (by omega)))
    have Ss1_12 : Hid (V.Same w_2.heap.size w_3.heap.size w_3 w_12) := Ss1_11.out.below hb (by omega)
    have Ss2_12 : Hid (V.Same w_3.heap.size w_4.heap.size w_4 w_12) := Ss2_11.out.below hb (by omega)
    have Ss_12 : Hid (V.Same w_4.heap.size w_5.heap.size w_5 w_12) := Ss_11.out.below hb (by omega)
    have Sx_12 : Hid (V.Same w_5.heap.size w_6.heap.size w_6 w_12) := Sx_11.out.below hb (by omega)
    have SX_12 : Hid (V.Same w_6.heap.size w_7.heap.size w_7 w_12) := SX_11.out.below hb (by omega)
    have Sg1_12 : Hid (V.Same w_7.heap.size w_8.heap.size w_8 w_12) := Sg1_11.out.below hb (by omega)
    have Sg2_12 : Hid (V.Same w_8.heap.size w_9.heap.size w_9 w_12) := Sg2_11.out.below hb (by omega)
    have Sg_12 : Hid (V.Same w_9.heap.size w_10.heap.size w_10 w_12) := Sg_11.out.below hb (by omega)
    clear HP_11 Ss1_11 Ss2_11 Ss_11 Sx_11 SX_11 Sg1_11 Sg2_11 Sg_11
    clear hb
    go_wp2_with fail
    refine (V.eqV _ _ _ _ _ _ _ _ ((HOg2.out.keep Sg2_12.out).ints') ((HOs2.out.keep Ss2_12.out).ints')).mono ?_
    rintro e w_13 ⟨rfl, hb⟩
    have z13 : w_12.heap.size ≤ w_13.heap.size := hb.size
    have HP_13 := Lib.hid (HP_12.out.trans (hb.mono (by omega)))
    have Ss1_13 : Hid (V.Same w_2.heap.size w_3.heap.size w_3 w_13) := Ss1_12.out.below hb (by omega)
    have Ss2_13 : Hid (V.Same w_3.heap.size w_4.heap.size w_4 w_13) := Ss2_12.out.below hb (by omega)
    have Ss_13 : Hid (V.Same w_4.heap.size w_5.heap.size w_5 w_13) := Ss_12.out.below hb (by omega)
    have Sx_13 : Hid (V.Same w_5.heap.size w_6.heap.size w_6 w_13) := Sx_12.out.below hb (by omega)
    have SX_13 : Hid (V.Same w_6.heap.size w_7.heap.size w_7 w_13) := SX_12.out.below hb (by omega)
    have Sg1_13 : Hid (V.Same w_7.heap.size w_8.heap.size w_8 w_13) := Sg1_12.out.below hb (by omega)
    have Sg2_13 : Hid (V.Same w_8.heap.size w_9.heap.size w_9 w_13) := Sg2_12.out.below hb (by omega)
    have Sg_13 : Hid (V.Same w_9.heap.size w_10.heap.size w_10 w_13) := Sg_12.out.below hb (by omega)
    clear HP_12 Ss1_12 Ss2_12 Ss_12 Sx_12 SX_12 Sg1_12 Sg2_12 Sg_12
    clear hb
    obtain ⟨g0, g1⟩ := HGb.out.below HP_13.out
    obtain ⟨k0, k1⟩ := gsame HOX.out (SX_13.out w_6.heap.size (by omega) (by omega))
    go_wp2
    go_region_held3 (fun w' => w'.cell? ⟨w.heap.size, 0, none⟩ = some (.int .i64 x0) ∧ w'.cell? ⟨w.heap.size, 1, none⟩ = some (.slice a0 len0 cap0) ∧ w'.cell? ⟨w_6.heap.size, 0, none⟩ = some (.int .i64 x0) ∧ w'.cell? ⟨w_6.heap.size, 1, none⟩ = some (.slice bx len0 len0) ∧ Below w_13.heap.size w_13 w')
      (first | exact ⟨g0, g1, k0, k1, (Below.refl _ _).drew⟩ | exact keepG ‹_ ∧ _ ∧ _ ∧ _ ∧ Below _ _ _› hb)
      (first
        | (go_at_call 35; refine (V.toGraph x0 a0 len0 cap0 l0 _ ?hp hn).mono ?_; (case hp => exact HA.out.below (bt (bt HW.out HP_13.out) (‹_ ∧ _ ∧ _ ∧ _ ∧ Below _ _ _›).2.2.2.2)); rintro e wy ⟨b7, rfl, ho7, hb⟩; have HD := Lib.hid ho7.pls; have HBw := Lib.hid (bt (‹_ ∧ _ ∧ _ ∧ _ ∧ Below _ _ _›).2.2.2.2 hb); clear ho7)
        | (go_at_call 39; refine (V.eqGraph x0 _ _ _ _ _ _ l0 _ ?h1 ?h2).mono ?_; (case h1 => exact ((HOx.out.keep Sx_13.out).pls).below HBw.out); (case h2 => exact HD.out); rintro e w_14 ⟨rfl, hb⟩; have HBz := Lib.hid (bt HBw.out hb)))
    all_goals
      have z14 : w_13.heap.size ≤ w_14.heap.size := HBz.out.size
      have HP_14 := Lib.hid (HP_13.out.trans (HBz.out.mono (by omega)))
      have Ss1_14 : Hid (V.Same w_2.heap.size w_3.heap.size w_3 w_14) := Ss1_13.out.below HBz.out (by omega)
      have Ss2_14 : Hid (V.Same w_3.heap.size w_4.heap.size w_4 w_14) := Ss2_13.out.below HBz.out (by omega)
      have Ss_14 : Hid (V.Same w_4.heap.size w_5.heap.size w_5 w_14) := Ss_13.out.below HBz.out (by omega)
      have Sx_14 : Hid (V.Same w_5.heap.size w_6.heap.size w_6 w_14) := Sx_13.out.below HBz.out (by omega)
      have SX_14 : Hid (V.Same w_6.heap.size w_7.heap.size w_7 w_14) := SX_13.out.below HBz.out (by omega)
      have Sg1_14 : Hid (V.Same w_7.heap.size w_8.heap.size w_8 w_14) := Sg1_13.out.below HBz.out (by omega)
      have Sg2_14 : Hid (V.Same w_8.heap.size w_9.heap.size w_9 w_14) := Sg2_13.out.below HBz.out (by omega)
      have Sg_14 : Hid (V.Same w_9.heap.size w_10.heap.size w_10 w_14) := Sg_13.out.below HBz.out (by omega)
      clear HP_13 Ss1_13 Ss2_13 Ss_13 Sx_13 SX_13 Sg1_13 Sg2_13 Sg_13
      clear g0 g1 k0 k1
      obtain ⟨k0, k1⟩ := gsame HOX.out (SX_14.out w_6.heap.size (by omega) (by omega))
      go_wp2_with fail
      refine (V.markGraph x0 _ _ _ w_5.heap.size l0 1 w_6 w_14 HOx.out Sx_14.out (by omega) hn (by omega) (by omega)).mono ?_
      rintro e w_15 ⟨y, rfl, hy, HY, ho, hk, hsz, hBl⟩
      have hBl := hBl (by omega)
      have z15 := hsz
      have HP_15 := Lib.hid (HP_14.out.trans (hBl.mono (by omega)))
      have Ss1_15 : Hid (V.Same w_2.heap.size w_3.heap.size w_3 w_15) := fun k q1 q2 => (hk k (by omega) (by omega)).trans (Ss1_14.out k q1 q2)
      have Ss2_15 : Hid (V.Same w_3.heap.size w_4.heap.size w_4 w_15) := fun k q1 q2 => (hk k (by omega) (by omega)).trans (Ss2_14.out k q1 q2)
      have Ss_15 : Hid (V.Same w_4.heap.size w_5.heap.size w_5 w_15) := fun k q1 q2 => (hk k (by omega) (by omega)).trans (Ss_14.out k q1 q2)
      have SX_15 : Hid (V.Same w_6.heap.size w_7.heap.size w_7 w_15) := fun k q1 q2 => (hk k (by omega) (by omega)).trans (SX_14.out k q1 q2)
      have Sg1_15 : Hid (V.Same w_7.heap.size w_8.heap.size w_8 w_15) := fun k q1 q2 => (hk k (by omega) (by omega)).trans (Sg1_14.out k q1 q2)
      have Sg2_15 : Hid (V.Same w_8.heap.size w_9.heap.size w_9 w_15) := fun k q1 q2 => (hk k (by omega) (by omega)).trans (Sg2_14.out k q1 q2)
      have Sg_15 : Hid (V.Same w_9.heap.size w_10.heap.size w_10 w_15) := fun k q1 q2 => (hk k (by omega) (by omega)).trans (Sg_14.out k q1 q2)
      clear HP_14 hk hsz hBl ho HOx k0 k1 Ss1_14 Ss2_14 Ss_14 Sx_14 SX_14 Sg1_14 Sg2_14 Sg_14
      clear SX_15 HOX
      obtain ⟨qs0, qs1⟩ := HOs.out.eq (Ss_15.out w_4.heap.size (by omega) (by omega))
      have zqs := V.cell_lt qs0
      obtain ⟨qg0, qg1⟩ := HOg.out.eq (Sg_15.out w_9.heap.size (by omega) (by omega))
      have zqg := V.cell_lt qg0
      go_wp2_with fail
      refine (V.eqRatio _ _ _).mono ?_
      rintro e w_16 ⟨rfl, hb⟩
      clear qs0 qs1 zqs qg0 qg1 zqg
      have z16 : w_15.heap.size ≤ w_16.heap.size := hb.size
      have HP_16 := Lib.hid (HP_15.out.trans (hb.mono (by omega)))
      have Ss1_16 : Hid (V.Same w_2.heap.size w_3.heap.size w_3 w_16) := Ss1_15.out.below hb (by omega)
      have Ss2_16 : Hid (V.Same w_3.heap.size w_4.heap.size w_4 w_16) := Ss2_15.out.below hb (by omega)
      have Ss_16 : Hid (V.Same w_4.heap.size w_5.heap.size w_5 w_16) := Ss_15.out.below hb (by omega)
      have Sg1_16 : Hid (V.Same w_7.heap.size w_8.heap.size w_8 w_16) := Sg1_15.out.below hb (by omega)
      have Sg2_16 : Hid (V.Same w_8.heap.size w_9.heap.size w_9 w_16) := Sg2_15.out.below hb (by omega)
      have Sg_16 : Hid (V.Same w_9.heap.size w_10.heap.size w_10 w_16) := Sg_15.out.below hb (by omega)
      clear HP_15 Ss1_15 Ss2_15 Ss_15 Sg1_15 Sg2_15 Sg_15
      clear hb
      go_wp2_with fail
      refine (V.eqV _ _ _ _ _ _ _ _ ((HOg1.out.keep Sg1_16.out).ints') ((HOs1.out.keep Ss1_16.out).ints')).mono ?_
      rintro e w_17 ⟨rfl, hb⟩
      have z17 : w_16.heap.size ≤ w_17.heap.size := hb.size
      have HP_17 := Lib.hid (HP_16.out.trans (hb.mono (by omega)))
      have Ss1_17 : Hid (V.Same w_2.heap.size w_3.heap.size w_3 w_17) := Ss1_16.out.below hb (by omega)
      have Ss2_17 : Hid (V.Same w_3.heap.size w_4.heap.size w_4 w_17) := Ss2_16.out.below hb (by omega)
      have Ss_17 : Hid (V.Same w_4.heap.size w_5.heap.size w_5 w_17) := Ss_16.out.below hb (by omega)
      have Sg1_17 : Hid (V.Same w_7.heap.size w_8.heap.size w_8 w_17) := Sg1_16.out.below hb (by omega)
      have Sg2_17 : Hid (V.Same w_8.heap.size w_9.heap.size w_9 w_17) := Sg2_16.out.below hb (by omega)
      have Sg_17 : Hid (V.Same w_9.heap.size w_10.heap.size w_10 w_17) := Sg_16.out.below hb (by omega)
      clear HP_16 Ss1_16 Ss2_16 Ss_16 Sg1_16 Sg2_16 Sg_16
      clear hb
      go_wp2_with fail
      refine (V.eqV _ _ _ _ _ _ _ _ ((HOg2.out.keep Sg2_17.out).ints') ((HOs2.out.keep Ss2_17.out).ints')).mono ?_
      rintro e w_18 ⟨rfl, hb⟩
      have z18 : w_17.heap.size ≤ w_18.heap.size := hb.size
      have HP_18 := Lib.hid (HP_17.out.trans (hb.mono (by omega)))
      have Ss1_18 : Hid (V.Same w_2.heap.size w_3.heap.size w_3 w_18) := Ss1_17.out.below hb (by omega)
      have Ss2_18 : Hid (V.Same w_3.heap.size w_4.heap.size w_4 w_18) := Ss2_17.out.below hb (by omega)
      have Ss_18 : Hid (V.Same w_4.heap.size w_5.heap.size w_5 w_18) := Ss_17.out.below hb (by omega)
      have Sg1_18 : Hid (V.Same w_7.heap.size w_8.heap.size w_8 w_18) := Sg1_17.out.below hb (by omega)
      have Sg2_18 : Hid (V.Same w_8.heap.size w_9.heap.size w_9 w_18) := Sg2_17.out.below hb (by omega)
      have Sg_18 : Hid (V.Same w_9.heap.size w_10.heap.size w_10 w_18) := Sg_17.out.below hb (by omega)
      clear HP_17 Ss1_17 Ss2_17 Ss_17 Sg1_17 Sg2_17 Sg_17
      clear hb
      clear Sg_18 HOg
      have HLg1 : Hid (∀ k, (Value.slice g1a g1n g1c).ownBlock = some k → k < w_8.heap.size) := fun k hv => (V.own_lt HOg1.out hv).2
      go_wp2_with fail
      refine (V.markV _ _ _ _ r.2.1 _ w_8 _ HOg1.out Sg1_18.out (by omega) (by omega) (by omega)).mono ?_
      rintro e w_19 ⟨m1, rfl, hm1, HM1, ho, hc⟩
      have z19 : w_18.heap.size ≤ w_19.heap.size := Nat.le_of_eq hc.size.symm
      have HP_19 := Lib.hid (HP_18.out.trans (hc.below (fun k hk => Nat.le_trans (by omega) hk.1)))
      have Ss1_19 := Lib.hid (Ss1_18.out.chg hc (fun k h1 h2 h3 => by omega))
      have Ss2_19 := Lib.hid (Ss2_18.out.chg hc (fun k h1 h2 h3 => by omega))
      have Ss_19 := Lib.hid (Ss_18.out.chg hc (fun k h1 h2 h3 => by omega))
      have Sg2_19 := Lib.hid (Sg2_18.out.chg hc (fun k h1 h2 h3 => by omega))
      have HOm := Lib.hid ho
      clear HP_18 HOg1 ho hc Ss1_18 Ss2_18 Ss_18 Sg1_18 Sg2_18
      have HOg1 := HOm
      clear HOm
      have Sg1_19 : Hid (V.Same w_7.heap.size w_19.heap.size w_19 w_19) := V.Same.refl _ _ _
      have hm1b : m1 ≤ 100 := by have := HM1.out; omega
      go_wp2_with fail
      refine (V.markV _ _ _ _ r.2.2.1 _ w_9 _ HOg2.out Sg2_19.out (by omega) (by omega) (by omega)).mono ?_
      rintro e w_20 ⟨m2, rfl, hm2, HM2, ho, hc⟩
      have z20 : w_19.heap.size ≤ w_20.heap.size := Nat.le_of_eq hc.size.symm
      have HP_20 := Lib.hid (HP_19.out.trans (hc.below (fun k hk => Nat.le_trans (by omega) hk.1)))
      have Ss1_20 := Lib.hid (Ss1_19.out.chg hc (fun k h1 h2 h3 => by omega))
      have Ss2_20 := Lib.hid (Ss2_19.out.chg hc (fun k h1 h2 h3 => by omega))
      have Ss_20 := Lib.hid (Ss_19.out.chg hc (fun k h1 h2 h3 => by omega))
      have HRg1 : Hid (V.Own w_20 w_7.heap.size (.slice g1a g1n g1c) (M.iota 1 g1n)) := V.ownsRow_keep (HOg1.out.keep Sg1_19.out) (fun k hv => hc.other k (fun q => by have := HLg1.out k hv; omega))
      have HOm := Lib.hid ho
      clear HP_19 HOg2 ho hc Ss1_19 Ss2_19 Ss_19 Sg2_19 Sg1_19
      have HOg2 := HOm
      clear HOm
      clear HOg1 HLg1
      have HOg1 := HRg1
      clear HRg1
      have Sg1_20 : Hid (V.Same w_7.heap.size w_20.heap.size w_20 w_20) := V.Same.refl _ _ _
      have Sg2_20 : Hid (V.Same w_8.heap.size w_20.heap.size w_20 w_20) := V.Same.refl _ _ _
      have hm2b : m2 ≤ 200 := by have := HM2.out; omega
      go_wp2_with fail
      refine (V.heldV _ _ _ _ m1 _ ((HOg1.out.keep Sg1_20.out).ints') (by omega) (by omega) (by omega) HM1.out).mono ?_
      rintro e w' ⟨rfl, rfl⟩
      go_wp2_with fail
      refine (V.heldV _ _ _ _ m2 _ ((HOg2.out.keep Sg2_20.out).ints') (by omega) (by omega) (by omega) HM2.out).mono ?_
      rintro e w' ⟨rfl, rfl⟩
      obtain ⟨g0, g1⟩ := HGb.out.below HP_20.out
      go_wp2_with fail
      clear g0 g1
      refine (V.toGraph x0 a0 len0 cap0 l0 _ (HA.out.below (bt HW.out HP_20.out)) hn).mono ?_
      rintro e w_21 ⟨bc, rfl, ho, hb⟩
      have z21 : w_20.heap.size ≤ w_21.heap.size := hb.size
      have HP_21 := Lib.hid (HP_20.out.trans (hb.mono (by omega)))
      have Ss1_21 : Hid (V.Same w_2.heap.size w_3.heap.size w_3 w_21) := Ss1_20.out.below hb (by omega)
      have Ss2_21 : Hid (V.Same w_3.heap.size w_4.heap.size w_4 w_21) := Ss2_20.out.below hb (by omega)
      have Ss_21 : Hid (V.Same w_4.heap.size w_5.heap.size w_5 w_21) := Ss_20.out.below hb (by omega)
      have Sg1_21 : Hid (V.Same w_7.heap.size w_20.heap.size w_20 w_21) := Sg1_20.out.below hb (by omega)
      have Sg2_21 : Hid (V.Same w_8.heap.size w_20.heap.size w_20 w_21) := Sg2_20.out.below hb (by omega)
      clear HP_20 Ss1_20 Ss2_20 Ss_20 Sg1_20 Sg2_20
      have HOc := Lib.hid ho
      clear ho hb
      have Sc_21 : Hid (V.Same w_20.heap.size w_21.heap.size w_21 w_21) := V.Same.refl _ _ _
      go_wp2_with fail
      refine (V.certifyTimeI x0 _ _ _ l0 _ ((HOc.out.keep Sc_21.out).pls)).mono ?_
      rintro e w_23 ⟨w_22, h1a, h1n, h1c, h2a, h2n, h2c, rfl, ho1, hbA, ho2, hbB⟩
      rw [← HR.out] at ho1 ho2 ⊢
      have z22 : w_21.heap.size ≤ w_22.heap.size := hbA.size
      have HP_22 := Lib.hid (HP_21.out.trans (hbA.mono (by omega)))
      have Ss1_22 : Hid (V.Same w_2.heap.size w_3.heap.size w_3 w_22) := Ss1_21.out.below hbA (by omega)
      have Ss2_22 : Hid (V.Same w_3.heap.size w_4.heap.size w_4 w_22) := Ss2_21.out.below hbA (by omega)
      have Ss_22 : Hid (V.Same w_4.heap.size w_5.heap.size w_5 w_22) := Ss_21.out.below hbA (by omega)
      have Sg1_22 : Hid (V.Same w_7.heap.size w_20.heap.size w_20 w_22) := Sg1_21.out.below hbA (by omega)
      have Sg2_22 : Hid (V.Same w_8.heap.size w_20.heap.size w_20 w_22) := Sg2_21.out.below hbA (by omega)
      have Sc_22 : Hid (V.Same w_20.heap.size w_21.heap.size w_21 w_22) := Sc_21.out.below hbA (by omega)
      clear HP_21 Ss1_21 Ss2_21 Ss_21 Sg1_21 Sg2_21 Sc_21
      have HOh1 := Lib.hid ho1
      clear ho1 hbA
      have Sh1_22 : Hid (V.Same w_21.heap.size w_22.heap.size w_22 w_22) := V.Same.refl _ _ _
      have z23 : w_22.heap.size ≤ w_23.heap.size := hbB.size
      have HP_23 := Lib.hid (HP_22.out.trans (hbB.mono (by omega)))
      have Ss1_23 : Hid (V.Same w_2.heap.size w_3.heap.size w_3 w_23) := Ss1_22.out.below hbB (by omega)
      have Ss2_23 : Hid (V.Same w_3.heap.size w_4.heap.size w_4 w_23) := Ss2_22.out.below hbB (by omega)
      have Ss_23 : Hid (V.Same w_4.heap.size w_5.heap.size w_5 w_23) := Ss_22.out.below hbB (by omega)
      have Sg1_23 : Hid (V.Same w_7.heap.size w_20.heap.size w_20 w_23) := Sg1_22.out.below hbB (by omega)
      have Sg2_23 : Hid (V.Same w_8.heap.size w_20.heap.size w_20 w_23) := Sg2_22.out.below hbB (by omega)
      have Sc_23 : Hid (V.Same w_20.heap.size w_21.heap.size w_21 w_23) := Sc_22.out.below hbB (by omega)
      have Sh1_23 : Hid (V.Same w_21.heap.size w_22.heap.size w_22 w_23) := Sh1_22.out.below hbB (by omega)
      clear HP_22 Ss1_22 Ss2_22 Ss_22 Sg1_22 Sg2_22 Sc_22 Sh1_22
      have HOh2 := Lib.hid ho2
      clear ho2 hbB
      have Sh2_23 : Hid (V.Same w_22.heap.size w_23.heap.size w_23 w_23) := V.Same.refl _ _ _
      clear Sc_23 HOc
      obtain ⟨qs0, qs1⟩ := HOs.out.eq (Ss_23.out w_4.heap.size (by omega) (by omega))
      have zqs := V.cell_lt qs0
      obtain ⟨w_24, hwh⟩ : ∃ z, z = w_23.alloc (.cells #[.int .i64 r.1.1, .int .i64 r.1.2] 37) := ⟨_, rfl⟩
      have hb : Below w_23.heap.size w_23 w_24 := by rw [hwh]; exact V.b_alloc w_23 _
      have HOh : Hid (V.RQ w_24 w_23.heap.size r.1) := by show V.RQ _ _ _; rw [hwh]; exact V.RQ.new w_23 _ _
      have zrh : w_23.heap.size < w_24.heap.size := V.cell_lt HOh.out.1
      have z24 : w_23.heap.size ≤ w_24.heap.size := hb.size
      have HP_24 := Lib.hid (HP_23.out.trans (hb.mono (by omega)))
      have Ss1_24 : Hid (V.Same w_2.heap.size w_3.heap.size w_3 w_24) := Ss1_23.out.below hb (by omega)
      have Ss2_24 : Hid (V.Same w_3.heap.size w_4.heap.size w_4 w_24) := Ss2_23.out.below hb (by omega)
      have Ss_24 : Hid (V.Same w_4.heap.size w_5.heap.size w_5 w_24) := Ss_23.out.below hb (by omega)
      have Sg1_24 : Hid (V.Same w_7.heap.size w_20.heap.size w_20 w_24) := Sg1_23.out.below hb (by omega)
      have Sg2_24 : Hid (V.Same w_8.heap.size w_20.heap.size w_20 w_24) := Sg2_23.out.below hb (by omega)
      have Sh1_24 : Hid (V.Same w_21.heap.size w_22.heap.size w_22 w_24) := Sh1_23.out.below hb (by omega)
      have Sh2_24 : Hid (V.Same w_22.heap.size w_23.heap.size w_23 w_24) := Sh2_23.out.below hb (by omega)
      clear HP_23 Ss1_23 Ss2_23 Ss_23 Sg1_23 Sg2_23 Sh1_23 Sh2_23
      clear hb
      have Sh_24 : Hid (V.Same w_23.heap.size w_24.heap.size w_24 w_24) := V.Same.refl _ _ _
      go_wp2_with fail
      rw [← hwh]
      clear hwh
      refine (V.eqRatio _ _ _).mono ?_
      rintro e w_25 ⟨rfl, hb⟩
      clear qs0 qs1 zqs
      have z25 : w_24.heap.size ≤ w_25.heap.size := hb.size
      have HP_25 := Lib.hid (HP_24.out.trans (hb.mono (by omega)))
      have Ss1_25 : Hid (V.Same w_2.heap.size w_3.heap.size w_3 w_25) := Ss1_24.out.below hb (by omega)
      have Ss2_25 : Hid (V.Same w_3.heap.size w_4.heap.size w_4 w_25) := Ss2_24.out.below hb (by omega)
      have Ss_25 : Hid (V.Same w_4.heap.size w_5.heap.size w_5 w_25) := Ss_24.out.below hb (by omega)
      have Sg1_25 : Hid (V.Same w_7.heap.size w_20.heap.size w_20 w_25) := Sg1_24.out.below hb (by omega)
      have Sg2_25 : Hid (V.Same w_8.heap.size w_20.heap.size w_20 w_25) := Sg2_24.out.below hb (by omega)
      have Sh1_25 : Hid (V.Same w_21.heap.size w_22.heap.size w_22 w_25) := Sh1_24.out.below hb (by omega)
      have Sh2_25 : Hid (V.Same w_22.heap.size w_23.heap.size w_23 w_25) := Sh2_24.out.below hb (by omega)
      have Sh_25 : Hid (V.Same w_23.heap.size w_24.heap.size w_24 w_25) := Sh_24.out.below hb (by omega)
      clear HP_24 Ss1_24 Ss2_24 Ss_24 Sg1_24 Sg2_24 Sh1_24 Sh2_24 Sh_24
      clear hb
      go_wp2_with fail
      refine (V.eqV _ _ _ _ _ _ _ _ ((HOh1.out.keep Sh1_25.out).ints') ((HOs1.out.keep Ss1_25.out).ints')).mono ?_
      rintro e w_26 ⟨rfl, hb⟩
      have z26 : w_25.heap.size ≤ w_26.heap.size := hb.size
      have HP_26 := Lib.hid (HP_25.out.trans (hb.mono (by omega)))
      have Ss1_26 : Hid (V.Same w_2.heap.size w_3.heap.size w_3 w_26) := Ss1_25.out.below hb (by omega)
      have Ss2_26 : Hid (V.Same w_3.heap.size w_4.heap.size w_4 w_26) := Ss2_25.out.below hb (by omega)
      have Ss_26 : Hid (V.Same w_4.heap.size w_5.heap.size w_5 w_26) := Ss_25.out.below hb (by omega)
      have Sg1_26 : Hid (V.Same w_7.heap.size w_20.heap.size w_20 w_26) := Sg1_25.out.below hb (by omega)
      have Sg2_26 : Hid (V.Same w_8.heap.size w_20.heap.size w_20 w_26) := Sg2_25.out.below hb (by omega)
      have Sh1_26 : Hid (V.Same w_21.heap.size w_22.heap.size w_22 w_26) := Sh1_25.out.below hb (by omega)
      have Sh2_26 : Hid (V.Same w_22.heap.size w_23.heap.size w_23 w_26) := Sh2_25.out.below hb (by omega)
      have Sh_26 : Hid (V.Same w_23.heap.size w_24.heap.size w_24 w_26) := Sh_25.out.below hb (by omega)
      clear HP_25 Ss1_25 Ss2_25 Ss_25 Sg1_25 Sg2_25 Sh1_25 Sh2_25 Sh_25
      clear hb
      go_wp2_with fail
      refine (V.eqV _ _ _ _ _ _ _ _ ((HOh2.out.keep Sh2_26.out).ints') ((HOs2.out.keep Ss2_26.out).ints')).mono ?_
      rintro e w_27 ⟨rfl, hb⟩
      have z27 : w_26.heap.size ≤ w_27.heap.size := hb.size
      have HP_27 := Lib.hid (HP_26.out.trans (hb.mono (by omega)))
      have Ss1_27 : Hid (V.Same w_2.heap.size w_3.heap.size w_3 w_27) := Ss1_26.out.below hb (by omega)
      have Ss2_27 : Hid (V.Same w_3.heap.size w_4.heap.size w_4 w_27) := Ss2_26.out.below hb (by omega)
      have Ss_27 : Hid (V.Same w_4.heap.size w_5.heap.size w_5 w_27) := Ss_26.out.below hb (by omega)
      have Sg1_27 : Hid (V.Same w_7.heap.size w_20.heap.size w_20 w_27) := Sg1_26.out.below hb (by omega)
      have Sg2_27 : Hid (V.Same w_8.heap.size w_20.heap.size w_20 w_27) := Sg2_26.out.below hb (by omega)
      have Sh1_27 : Hid (V.Same w_21.heap.size w_22.heap.size w_22 w_27) := Sh1_26.out.below hb (by omega)
      have Sh2_27 : Hid (V.Same w_22.heap.size w_23.heap.size w_23 w_27) := Sh2_26.out.below hb (by omega)
      have Sh_27 : Hid (V.Same w_23.heap.size w_24.heap.size w_24 w_27) := Sh_26.out.below hb (by omega)
      clear HP_26 Ss1_26 Ss2_26 Ss_26 Sg1_26 Sg2_26 Sh1_26 Sh2_26 Sh_26
      clear hb
      go_wp2_with fail
      refine (V.heldV _ _ _ _ m1 _ ((HOg1.out.keep Sg1_27.out).ints') (by omega) (by omega) (by omega) HM1.out).mono ?_
      rintro e w' ⟨rfl, rfl⟩
      go_wp2_with fail
      refine (V.heldV _ _ _ _ m2 _ ((HOg2.out.keep Sg2_27.out).ints') (by omega) (by omega) (by omega) HM2.out).mono ?_
      rintro e w' ⟨rfl, rfl⟩
      go_wp2
      go_ret
      exact ⟨rfl, bt HW.out HP_27.out⟩
end Go.Proofs.YtlofnadpgnbmdaaGreat.fnExactCertifyTime
