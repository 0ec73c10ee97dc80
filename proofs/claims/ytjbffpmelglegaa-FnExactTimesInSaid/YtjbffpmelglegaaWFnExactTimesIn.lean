/- The walk through the law: it returns true and writes nothing that was there. The function TimesIn answers as its model, for all arguments, leaves the run as it was, and its answer owns its memory. -/
import Derived.Test.YtjbffpmelglegaaRows
import Derived.Test.YtjbffpmelglegaaQa1
import Derived.Test.YtjbffpmelglegaaQa2
import Derived.Test.YtjbffpmelglegaaQa16
import Derived.Test.YtjbffpmelglegaaQa3
import Derived.Test.YtjbffpmelglegaaQa70
import Derived.WalkKit
import Derived.ProofKit
import Derived.OpenShut
import Derived.ShutString
import Derived.ChangeOld
import Derived.Below
import Derived.Lib.SmallJoins
import Derived.Lib.Hide
import Derived.WalkSmall
import Derived.Deep.Draws
import Derived.Deep.QuietTactic
import Derived.BigQuiet
import Derived.Deep.OwnRows
import Derived.Deep.RegionWith
import Derived.Deep.RegionHeld3
set_option linter.unusedSimpArgs false
set_option linter.unusedVariables false
set_option linter.unusedSectionVars false
namespace Go.Proofs.Ytjbffpmelglegaa.fnExactTimesIn
open Go.ChangeShapes Go.WideShapes Go.ChangeAt Go.RowKit
open Go.ChangeMaps (open_string shut_string)
set_option linter.unusedVariables false

theorem keepG {w0 w1 w2 : World} {G X : Nat} {p q r s : Value} (h : w1.cell? ⟨G, 0, none⟩ = some p ∧ w1.cell? ⟨G, 1, none⟩ = some q ∧ w1.cell? ⟨X, 0, none⟩ = some r ∧ w1.cell? ⟨X, 1, none⟩ = some s ∧ Below w0.heap.size w0 w1) (hb : Below w1.heap.size w1 w2) :
    w2.cell? ⟨G, 0, none⟩ = some p ∧ w2.cell? ⟨G, 1, none⟩ = some q ∧ w2.cell? ⟨X, 0, none⟩ = some r ∧ w2.cell? ⟨X, 1, none⟩ = some s ∧ Below w0.heap.size w0 w2 := by
  obtain ⟨h1, h2, h3, h4, h5⟩ := h
  exact ⟨(hb.cell (V.cell_lt h1)).trans h1, (hb.cell (V.cell_lt h2)).trans h2, (hb.cell (V.cell_lt h3)).trans h3, (hb.cell (V.cell_lt h4)).trans h4, h5.trans (hb.mono h5.size)⟩
theorem bt {a b c : World} (h1 : Below a.heap.size a b) (h2 : Below b.heap.size b c) : Below a.heap.size a c := h1.trans (h2.mono h1.size)
theorem gsame {w w' : World} {g : Nat} {x : Int} {a : Option Addr} {n cap : Nat} (h : V.GBox w g x a n cap) (e : w'.heap[g]? = w.heap[g]?) : V.GBox w' g x a n cap :=
  ⟨(World.cell?_of_block (a := ⟨g, 0, none⟩) e).trans h.1, (World.cell?_of_block (a := ⟨g, 1, none⟩) e).trans h.2⟩

set_option maxRecDepth 100000 in
set_option maxHeartbeats 4000000 in
theorem walk (a0 : Option Addr) (len0 cap0 : Nat) (l0 : List M.Fr) (a1 : Int) (w : World) (w0 : V.Frs w a0 len0 l0) (w1 : (Lit.int .i64 a1).wf = true) :
    Calls Try.prog 3 #[.slice a0 len0 cap0, .int .i64 a1] w fun e w' => e = .returned (.bool true) ∧ Below w.heap.size w w' := by
  have HV := Lib.hid w0
  have hlm := w0.2.1
  clear w0
  by_cases hbig : 1048576 < len0
  · go_enter Try.func3, Try.ntmps3
    go_wp2_with fail
    refine (V.szFr_f a0 len0 cap0 1048576 _ (by omega) (by omega) hlm).mono ?_
    rintro e w' ⟨rfl, rfl⟩
    go_wp2
    go_ret
    exact ⟨rfl, Below.refl _ _⟩
  · have hnF : len0 ≤ 1048576 := by omega
    obtain ⟨r, hr⟩ : ∃ r, r = (M.tmsRes l0 a1) := ⟨_, rfl⟩
    have hok := M.tmsRes_len l0 a1
    rw [← hr] at hok
    have HR := Lib.hid hr
    clear hr hlm hbig
    obtain ⟨w_0, hwb⟩ : ∃ z, z = w := ⟨_, rfl⟩
    have HW : Hid (Below w.heap.size w w_0) := by show Below _ _ _; rw [hwb]; exact Below.refl _ _
    have HP_0 := Lib.hid (Below.refl w_0.heap.size w_0)
    have zb : w.heap.size ≤ w_0.heap.size := HW.out.size
    go_enter Try.func3, Try.ntmps3
    go_wp2_with fail
    rw [← hwb]
    clear hwb
    refine (V.szFr_t a0 len0 cap0 1048576 _ (by omega) (by omega)).mono ?_
    rintro e w' ⟨rfl, rfl⟩
    have hl0 : ¬ (1048576 - (len0 : Int) < 0) := by omega
    go_wp2_with fail
    refine (V.toFirings a0 len0 cap0 l0 _ (HV.out.below (bt HW.out HP_0.out)) hnF).mono ?_
    rintro e w_1 ⟨be, rfl, ho, hb⟩
    have z1 : w_0.heap.size ≤ w_1.heap.size := hb.size
    have HP_1 := Lib.hid (HP_0.out.trans (hb.mono (by omega)))
    clear HP_0
    have HOe := Lib.hid ho
    clear ho hb
    have Se_1 : Hid (V.Same w_0.heap.size w_1.heap.size w_1 w_1) := V.Same.refl _ _ _
    go_wp2_with fail
    refine (V.sTimesIn _ _ _ l0 a1 _ ((HOe.out.keep Se_1.out).frs)).mono ?_
    rintro e w_2 ⟨sa, sn, sc, rfl, ho, hb⟩
    rw [← HR.out] at ho ⊢
    have z2 : w_1.heap.size ≤ w_2.heap.size := hb.size
    have HP_2 := Lib.hid (HP_1.out.trans (hb.mono (by omega)))
    have Se_2 : Hid (V.Same w_0.heap.size w_1.heap.size w_1 w_2) := Se_1.out.below hb (by omega)
    clear HP_1 Se_1
    have HOs := Lib.hid ho
    clear ho hb
    have Ss_2 : Hid (V.Same w_1.heap.size w_2.heap.size w_2 w_2) := V.Same.refl _ _ _
    clear Se_2 HOe
    go_wp2_with fail
    refine (V.toFirings a0 len0 cap0 l0 _ (HV.out.below (bt HW.out HP_2.out)) hnF).mono ?_
    rintro e w_3 ⟨bv, rfl, ho, hb⟩
    have z3 : w_2.heap.size ≤ w_3.heap.size := hb.size
    have HP_3 := Lib.hid (HP_2.out.trans (hb.mono (by omega)))
    have Ss_3 : Hid (V.Same w_1.heap.size w_2.heap.size w_2 w_3) := Ss_2.out.below hb (by omega)
    clear HP_2 Ss_2
    have HOv := Lib.hid ho
    clear ho hb
    have Sv_3 : Hid (V.Same w_2.heap.size w_3.heap.size w_3 w_3) := V.Same.refl _ _ _
    go_wp2_with fail
    refine (V.timesIn _ _ _ l0 a1 _ ((HOv.out.keep Sv_3.out).frs)).mono ?_
    rintro e w_4 ⟨ga, gn, gc, rfl, ho, hb⟩
    rw [← HR.out] at ho ⊢
    have z4 : w_3.heap.size ≤ w_4.heap.size := hb.size
    have HP_4 := Lib.hid (HP_3.out.trans (hb.mono (by omega)))
    have Ss_4 : Hid (V.Same w_1.heap.size w_2.heap.size w_2 w_4) := Ss_3.out.below hb (by omega)
    have Sv_4 : Hid (V.Same w_2.heap.size w_3.heap.size w_3 w_4) := Sv_3.out.below hb (by omega)
    clear HP_3 Ss_3 Sv_3
    have HOg := Lib.hid ho
    clear ho hb
    have Sg_4 : Hid (V.Same w_3.heap.size w_4.heap.size w_4 w_4) := V.Same.refl _ _ _
    have hgn : gn ≤ 500 := by have := HOg.out.len; omega
    go_wp2_with fail
    refine (V.eqV _ _ _ _ _ _ _ _ ((HOg.out.keep Sg_4.out).ints') ((HOs.out.keep Ss_4.out).ints')).mono ?_
    rintro e w_5 ⟨rfl, hb⟩
    have z5 : w_4.heap.size ≤ w_5.heap.size := hb.size
    have HP_5 := Lib.hid (HP_4.out.trans (hb.mono (by omega)))
    have Ss_5 : Hid (V.Same w_1.heap.size w_2.heap.size w_2 w_5) := Ss_4.out.below hb (by omega)
    have Sv_5 : Hid (V.Same w_2.heap.size w_3.heap.size w_3 w_5) := Sv_4.out.below hb (by omega)
    have Sg_5 : Hid (V.Same w_3.heap.size w_4.heap.size w_4 w_5) := Sg_4.out.below hb (by omega)
    clear HP_4 Ss_4 Sv_4 Sg_4
    clear hb
    go_wp2_with fail
    refine (V.toFirings a0 len0 cap0 l0 _ (HV.out.below (bt HW.out HP_5.out)) hnF).mono ?_
    rintro e w_6 ⟨bf, rfl, ho, hb⟩
    have z6 : w_5.heap.size ≤ w_6.heap.size := hb.size
    have HP_6 := Lib.hid (HP_5.out.trans (hb.mono (by omega)))
    have Ss_6 : Hid (V.Same w_1.heap.size w_2.heap.size w_2 w_6) := Ss_5.out.below hb (by omega)
    have Sv_6 : Hid (V.Same w_2.heap.size w_3.heap.size w_3 w_6) := Sv_5.out.below hb (by omega)
    have Sg_6 : Hid (V.Same w_3.heap.size w_4.heap.size w_4 w_6) := Sg_5.out.below hb (by omega)
    clear HP_5 Ss_5 Sv_5 Sg_5
    have HOf := Lib.hid ho
    clear ho hb
    have Sf_6 : Hid (V.Same w_5.heap.size w_6.heap.size w_6 w_6) := V.Same.refl _ _ _
    go_wp2_with fail
    refine (V.eqFirings _ _ _ _ _ _ l0 _ ((HOv.out.keep Sv_6.out).frs) ((HOf.out.keep Sf_6.out).frs)).mono ?_
    rintro e w_7 ⟨rfl, hb⟩
    have z7 : w_6.heap.size ≤ w_7.heap.size := hb.size
    have HP_7 := Lib.hid (HP_6.out.trans (hb.mono (by omega)))
    have Ss_7 : Hid (V.Same w_1.heap.size w_2.heap.size w_2 w_7) := Ss_6.out.below hb (by omega)
    have Sv_7 : Hid (V.Same w_2.heap.size w_3.heap.size w_3 w_7) := Sv_6.out.below hb (by omega)
    have Sg_7 : Hid (V.Same w_3.heap.size w_4.heap.size w_4 w_7) := Sg_6.out.below hb (by omega)
    have Sf_7 : Hid (V.Same w_5.heap.size w_6.heap.size w_6 w_7) := Sf_6.out.below hb (by omega)
    clear HP_6 Ss_6 Sv_6 Sg_6 Sf_6
    clear hb
    clear Sf_7 HOf
    go_wp2_with fail
    refine (V.markFirings _ _ _ w_2.heap.size l0 1 w_3 _ HOv.out Sv_7.out hnF (by omega) (by omega)).mono ?_
    rintro e w_8 ⟨y2, rfl, hy2, HY2, ho, hc⟩
    have z8 : w_7.heap.size ≤ w_8.heap.size := Nat.le_of_eq hc.size.symm
    have HP_8 := Lib.hid (HP_7.out.trans (hc.below (fun k hk => Nat.le_trans (by omega) hk.1)))
    have Ss_8 := Lib.hid (Ss_7.out.chg hc (fun k h1 h2 h3 => by omega))
    have Sg_8 := Lib.hid (Sg_7.out.chg hc (fun k h1 h2 h3 => by omega))
    clear HP_7 HOv ho hc HY2 Ss_7 Sv_7 Sg_7
    go_wp2_with fail
    refine (V.eqV _ _ _ _ _ _ _ _ ((HOg.out.keep Sg_8.out).ints') ((HOs.out.keep Ss_8.out).ints')).mono ?_
    rintro e w_9 ⟨rfl, hb⟩
    have z9 : w_8.heap.size ≤ w_9.heap.size := hb.size
    have HP_9 := Lib.hid (HP_8.out.trans (hb.mono (by omega)))
    have Ss_9 : Hid (V.Same w_1.heap.size w_2.heap.size w_2 w_9) := Ss_8.out.below hb (by omega)
    have Sg_9 : Hid (V.Same w_3.heap.size w_4.heap.size w_4 w_9) := Sg_8.out.below hb (by omega)
    clear HP_8 Ss_8 Sg_8
    clear hb
    go_wp2_with fail
    refine (V.markV _ _ _ _ r.1 _ w_4 _ HOg.out Sg_9.out (by omega) (by omega) (by omega)).mono ?_
    rintro e w_10 ⟨m, rfl, hm, HM, ho, hc⟩
    have z10 : w_9.heap.size ≤ w_10.heap.size := Nat.le_of_eq hc.size.symm
    have HP_10 := Lib.hid (HP_9.out.trans (hc.below (fun k hk => Nat.le_trans (by omega) hk.1)))
    have Ss_10 := Lib.hid (Ss_9.out.chg hc (fun k h1 h2 h3 => by omega))
    have HOm := Lib.hid ho
    clear HP_9 HOg ho hc Ss_9 Sg_9
    have HOg := HOm
    clear HOm
    have Sg_10 : Hid (V.Same w_3.heap.size w_10.heap.size w_10 w_10) := V.Same.refl _ _ _
    have hmb : m ≤ 3000 := by have := HM.out; omega
    go_wp2_with fail
    refine (V.heldV _ _ _ _ m _ ((HOg.out.keep Sg_10.out).ints') (by omega) (by omega) (by omega) HM.out).mono ?_
    rintro e w' ⟨rfl, rfl⟩
    go_wp2_with fail
    refine (V.toFirings a0 len0 cap0 l0 _ (HV.out.below (bt HW.out HP_10.out)) hnF).mono ?_
    rintro e w_11 ⟨be, rfl, ho, hb⟩
    have z11 : w_10.heap.size ≤ w_11.heap.size := hb.size
    have HP_11 := Lib.hid (HP_10.out.trans (hb.mono (by omega)))
    have Ss_11 : Hid (V.Same w_1.heap.size w_2.heap.size w_2 w_11) := Ss_10.out.below hb (by omega)
    have Sg_11 : Hid (V.Same w_3.heap.size w_10.heap.size w_10 w_11) := Sg_10.out.below hb (by omega)
    clear HP_10 Ss_10 Sg_10
    have HOe := Lib.hid ho
    clear ho hb
    have Se_11 : Hid (V.Same w_10.heap.size w_11.heap.size w_11 w_11) := V.Same.refl _ _ _
    go_wp2_with fail
    refine (V.timesIn _ _ _ l0 a1 _ ((HOe.out.keep Se_11.out).frs)).mono ?_
    rintro e w_12 ⟨ha, hn, hc, rfl, ho, hb⟩
    rw [← HR.out] at ho ⊢
    have z12 : w_11.heap.size ≤ w_12.heap.size := hb.size
    have HP_12 := Lib.hid (HP_11.out.trans (hb.mono (by omega)))
    have Ss_12 : Hid (V.Same w_1.heap.size w_2.heap.size w_2 w_12) := Ss_11.out.below hb (by omega)
    have Sg_12 : Hid (V.Same w_3.heap.size w_10.heap.size w_10 w_12) := Sg_11.out.below hb (by omega)
    have Se_12 : Hid (V.Same w_10.heap.size w_11.heap.size w_11 w_12) := Se_11.out.below hb (by omega)
    clear HP_11 Ss_11 Sg_11 Se_11
    have HOh := Lib.hid ho
    clear ho hb
    have Sh_12 : Hid (V.Same w_11.heap.size w_12.heap.size w_12 w_12) := V.Same.refl _ _ _
    clear Se_12 HOe
    go_wp2_with fail
    refine (V.eqV _ _ _ _ _ _ _ _ ((HOh.out.keep Sh_12.out).ints') ((HOs.out.keep Ss_12.out).ints')).mono ?_
    rintro e w_13 ⟨rfl, hb⟩
    have z13 : w_12.heap.size ≤ w_13.heap.size := hb.size
    have HP_13 := Lib.hid (HP_12.out.trans (hb.mono (by omega)))
    have Ss_13 : Hid (V.Same w_1.heap.size w_2.heap.size w_2 w_13) := Ss_12.out.below hb (by omega)
    have Sg_13 : Hid (V.Same w_3.heap.size w_10.heap.size w_10 w_13) := Sg_12.out.below hb (by omega)
    have Sh_13 : Hid (V.Same w_11.heap.size w_12.heap.size w_12 w_13) := Sh_12.out.below hb (by omega)
    clear HP_12 Ss_12 Sg_12 Sh_12
    clear hb
    go_wp2_with fail
    refine (V.heldV _ _ _ _ m _ ((HOg.out.keep Sg_13.out).ints') (by omega) (by omega) (by omega) HM.out).mono ?_
    rintro e w' ⟨rfl, rfl⟩
    go_wp2
    go_ret
    exact ⟨rfl, bt HW.out HP_13.out⟩
end Go.Proofs.Ytjbffpmelglegaa.fnExactTimesIn
