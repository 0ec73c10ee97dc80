/- The walk through the law: it returns true and writes nothing that was there. For every code: PositiveCycle, CycleWeight and IsCycle answer as their models, a cycle keeps its weight when it is turned, and a cycle that PositiveCycle tells has a weight over 0 or one that is no value. -/
import Derived.Test.YtkilnneepnbckaaRows
import Derived.Test.YtkilnneepnbckaaQd1
import Derived.Test.YtkilnneepnbckaaQd2
import Derived.Test.YtkilnneepnbckaaQd3
import Derived.Test.YtkilnneepnbckaaQd17
import Derived.Test.YtkilnneepnbckaaQd14
import Derived.Test.YtkilnneepnbckaaQd13
import Derived.WalkKit
import Derived.ProofKit
import Derived.OpenShut
import Derived.ShutString
import Derived.ChangeOld
import Derived.Below
import Derived.Lib.SmallJoins
import Derived.Lib.Hide
import Derived.WalkSmall
import Derived.Deep.Draws
import Derived.Deep.QuietTactic
import Derived.BigQuiet
import Derived.Deep.OwnRows
import Derived.Deep.RegionWith
import Derived.Deep.RegionHeld3
set_option linter.unusedSimpArgs false
set_option linter.unusedVariables false
set_option linter.unusedSectionVars false
namespace Go.Proofs.Ytkilnneepnbckaa.fnPositiveCycles
open Go.ChangeShapes Go.WideShapes Go.ChangeAt Go.RowKit
open Go.ChangeMaps (open_string shut_string)
set_option linter.unusedVariables false

set_option maxRecDepth 100000 in
set_option maxHeartbeats 4000000 in
theorem walk (a0 : Option Addr) (len0 cap0 : Nat) (z0 : List Int) (w : World) (w0 : V.IsRow .u8 w a0 len0 cap0 z0) :
    Calls Try.prog 5 #[.slice a0 len0 cap0] w fun e w' => e = .returned (.bool true) ∧ Below w.heap.size w w' := by
  have hB := w0.bytes
  have hm := hB.1
  by_cases hbig : 4096 < len0
  · have hd : decide (4096 < len0) = true := by simpa using hbig
    clear hB w0
    go_enter Try.func5, Try.ntmps5
    go_wp2_with (first | (go_at_call 15; refine (V.big _ _ _ _ hm).mono ?_; rintro e w' ⟨rfl, rfl⟩))
    go_ret
    exact ⟨rfl, Below.refl _ _⟩
  have hd : decide (4096 < len0) = false := by simpa using hbig
  clear w0
  have HB := Lib.hid hB
  clear hB
  go_enter Try.func5, Try.ntmps5
  go_wp2_with (go_at_call 15; refine (V.big _ _ _ _ hm).mono ?_; rintro e w' ⟨rfl, rfl⟩)
  refine (V.drawPositiveCycle _ _ _ _ HB.out).mono ?_
  rintro e w1 ⟨a, n, cap, R, rfl, hA, hb⟩
  have HA1 := Lib.hid hA
  have HB1 := Lib.hid hb
  have HY1 := Lib.hid (HB.out.below hb)
  clear hb hA
  obtain ⟨C, hC⟩ : ∃ C, C = M.posRes R := ⟨_, rfl⟩
  have HC := Lib.hid hC
  clear hC
  obtain ⟨Cv, Cc⟩ := C
  go_wp2_with fail
  refine (V.positiveCycle _ _ _ R _ HA1.out).mono ?_
  rintro e w2 ⟨a2, n2, c2, rfl, ho, hb⟩
  rw [← HC.out] at ho ⊢
  have HE2 := Lib.hid ho.ints'
  have HK := Lib.hid (V.caps_own ho)
  have HA2 := Lib.hid (HA1.out.below hb)
  have HY2 := Lib.hid (HY1.out.below hb)
  have HB2 := Lib.hid (V.bnext HB1.out hb)
  clear hb ho HA1 HY1
  go_wp2_with fail
  refine (V.sPositiveCycle _ _ _ R _ HA2.out).mono ?_
  rintro e w3 ⟨a3, n3, c3, rfl, ho, hb⟩
  rw [← HC.out] at ho ⊢
  have HF3 := Lib.hid ho.ints'
  have HE3 := Lib.hid (HE2.out.below hb)
  have HA3 := Lib.hid (HA2.out.below hb)
  have HY3 := Lib.hid (HY2.out.below hb)
  have HB3 := Lib.hid (V.bnext HB2.out hb)
  clear hb ho HA2 HY2 HE2
  go_wp2_with fail
  refine (V.drawCycleWeight _ _ _ _ HY3.out).mono ?_
  rintro e w4 ⟨ba, bn, bc, Rb, la, N, lc, lb, rfl, hM, hI, hc1, hc2, hb⟩
  have HM4 := Lib.hid hM
  have HI4 := Lib.hid hI
  have HCl := Lib.hid (And.intro hc1 hc2)
  have HF4 := Lib.hid (HF3.out.below hb)
  have HE4 := Lib.hid (HE3.out.below hb)
  have HA4 := Lib.hid (HA3.out.below hb)
  have HY4 := Lib.hid (HY3.out.below hb)
  have HB4 := Lib.hid (V.bnext HB3.out hb)
  clear hb hM hI HF3 HE3 HA3 HY3 hc1 hc2
  obtain ⟨pv, hpv⟩ : ∃ pv, pv = M.cycRes Rb lb := ⟨_, rfl⟩
  have HPV := Lib.hid hpv
  clear hpv
  obtain ⟨pw, po⟩ := pv
  go_wp2_with fail
  refine (V.cycleWeight _ _ _ Rb _ _ _ lb _ HM4.out HI4.out HCl.out.1 HCl.out.2).mono ?_
  rintro e w5 ⟨rfl, hb⟩
  rw [← HPV.out]
  have HM5 := Lib.hid (HM4.out.below hb)
  have HI5 := Lib.hid (HI4.out.below hb)
  have HF5 := Lib.hid (HF4.out.below hb)
  have HE5 := Lib.hid (HE4.out.below hb)
  have HA5 := Lib.hid (HA4.out.below hb)
  have HY5 := Lib.hid (HY4.out.below hb)
  have HB5 := Lib.hid (V.bnext HB4.out hb)
  clear hb HM4 HI4 HF4 HE4 HA4 HY4
  go_wp2_with fail
  refine (V.sCycleWeight _ _ _ Rb _ _ _ lb _ HM5.out HI5.out HCl.out.1 HCl.out.2).mono ?_
  rintro e w6 ⟨rfl, hb⟩
  rw [← HPV.out]
  have HM6 := Lib.hid (HM5.out.below hb)
  have HI6 := Lib.hid (HI5.out.below hb)
  have HF6 := Lib.hid (HF5.out.below hb)
  have HE6 := Lib.hid (HE5.out.below hb)
  have HA6 := Lib.hid (HA5.out.below hb)
  have HY6 := Lib.hid (HY5.out.below hb)
  have HB6 := Lib.hid (V.bnext HB5.out hb)
  clear hb HM5 HI5 HF5 HE5 HA5 HY5
  go_wp2_with fail
  refine (V.drawIsCycle _ _ _ _ HY6.out).mono ?_
  rintro e w7 ⟨da, dn, dc, Rd, ka, kN, kc, kb, rfl, hM, hI, hc1, hc2, hb⟩
  have HN7 := Lib.hid hM
  have HJ7 := Lib.hid hI
  have HCk := Lib.hid (And.intro hc1 hc2)
  have HM7 := Lib.hid (HM6.out.below hb)
  have HI7 := Lib.hid (HI6.out.below hb)
  have HF7 := Lib.hid (HF6.out.below hb)
  have HE7 := Lib.hid (HE6.out.below hb)
  have HA7 := Lib.hid (HA6.out.below hb)
  have HB7 := Lib.hid (V.bnext HB6.out hb)
  clear hb hM hI HM6 HI6 HF6 HE6 HA6 HY6 hc1 hc2
  obtain ⟨bv, hbv⟩ : ∃ bv, bv = M.isCycB Rd kb := ⟨_, rfl⟩
  have HBV := Lib.hid hbv
  clear hbv
  go_wp2_with fail
  refine (V.likeV _ _ _ Cv _ _ _ _ HE7.out HF7.out).mono ?_
  rintro e w8 ⟨rfl, hb⟩
  have HM8 := Lib.hid (HM7.out.below hb)
  have HI8 := Lib.hid (HI7.out.below hb)
  have HN8 := Lib.hid (HN7.out.below hb)
  have HJ8 := Lib.hid (HJ7.out.below hb)
  have HE8 := Lib.hid (HE7.out.below hb)
  have HA8 := Lib.hid (HA7.out.below hb)
  have HB8 := Lib.hid (V.bnext HB7.out hb)
  clear hb HM7 HI7 HN7 HJ7 HF7 HE7 HA7
  go_wp2_with fail
  refine (V.isCycle _ _ _ Rd _ _ _ kb _ HN8.out HJ8.out HCk.out.1 HCk.out.2).mono ?_
  rintro e w9 ⟨rfl, hb⟩
  rw [← HBV.out]
  have HM9 := Lib.hid (HM8.out.below hb)
  have HI9 := Lib.hid (HI8.out.below hb)
  have HN9 := Lib.hid (HN8.out.below hb)
  have HJ9 := Lib.hid (HJ8.out.below hb)
  have HE9 := Lib.hid (HE8.out.below hb)
  have HA9 := Lib.hid (HA8.out.below hb)
  have HB9 := Lib.hid (V.bnext HB8.out hb)
  clear hb HM8 HI8 HN8 HJ8 HE8 HA8
  go_wp2_with fail
  refine (V.sIsCycle _ _ _ Rd _ _ _ kb _ HN9.out HJ9.out HCk.out.1 HCk.out.2).mono ?_
  rintro e w10 ⟨rfl, hb⟩
  rw [← HBV.out]
  have HM10 := Lib.hid (HM9.out.below hb)
  have HI10 := Lib.hid (HI9.out.below hb)
  have HE10 := Lib.hid (HE9.out.below hb)
  have HA10 := Lib.hid (HA9.out.below hb)
  have HB10 := Lib.hid (V.bnext HB9.out hb)
  clear hb HM9 HI9 HN9 HJ9 HE9 HA9
  by_cases hp0 : po = 0
  · subst hp0
    obtain ⟨t1, t2, t3, t4⟩ := M.cyc_turn Rb lb (by rw [← HPV.out])
    rw [← HPV.out] at t4
    have HT1 := Lib.hid t1
    have hN1 : 1 ≤ N := by rw [← HI10.out.1]; exact t2
    have hN10 : N ≤ 10 := by rw [← HI10.out.1]; exact t3
    obtain ⟨q, off, x, rfl, hq, hx, cx⟩ := HI10.out.at 0 (by omega)
    rw [Nat.add_zero] at cx
    rw [← hx] at t4
    have HT4 := Lib.hid t4
    have hlc := HCl.out.1
    have hsl : Hid (∀ w', Below w10.heap.size w10 w' → ∃ ad, (if lc = 1 then some (⟨q, off, none⟩ : Addr) else some ⟨q, off + 1, none⟩) = some ad ∧ ∀ i, i < N - 1 → w'.cell? (ad.add i) = some (.int .i64 ((lb.drop 1).getD i 0))) := fun w' hb => by
      by_cases h1 : lc = 1
      · exact ⟨_, if_pos h1, fun i hi => by omega⟩
      · refine ⟨_, if_neg h1, fun i hi => ?_⟩
        obtain ⟨q2, o2, y, he, hq2, hy, cy⟩ := (HI10.out.below hb).at (1 + i) (by omega)
        injection he with he
        injection he with e1 e2
        subst e1 e2
        rw [Go.WideShapes.add_plain, Nat.add_assoc, cy, hy]
        simp [List.getD_eq_getElem?_getD, Nat.add_comm 1 i]
    have hdl : Hid ((lb.drop 1).length = N - 1) := by show _ = _; rw [List.length_drop, HI10.out.1]
    have hi1 : (1 : Int) ≤ (N : Int) := by omega
    have hi2 : (N : Int) ≤ (lc : Int) := by omega
    have hi3 : (1 : Int) ≤ (lc : Int) := by omega
    have hi4 : (0 : Int) < (N : Int) := by omega
    have hi5 : 0 < N := by omega
    clear t1 t2 t3 t4 hx
    go_wp2_with fail
    go_region_held3 (fun w' => w'.cell? ⟨q, off, none⟩ = some (.int .i64 x) ∧ Below w10.heap.size w10 w')
      (first
        | exact ⟨cx, (Below.refl _ _).drew⟩
        | exact V.keep_a (w := w10) ‹_ ∧ Below _ _ _› hq (Nat.le_refl _) _
        | exact V.keep_b ‹_ ∧ Below _ _ _› hq HBa.out
        | exact V.keep_b ‹_ ∧ Below _ _ _› hq HBb.out
        | exact V.keep_b ‹_ ∧ Below _ _ _› hq (HBc.out.mono (V.below_r ‹_ ∧ Below _ _ _›).size))
      (first
        | (go_at_call 35; refine (V.cycleWeight _ _ _ Rb _ _ _ (lb.drop 1 ++ [x]) _ ?hh HO2.out.ints' (V.caps_own HO2.out).1 (V.caps_own HO2.out).2).mono ?_; (case hh => exact HM10.out.below (V.below_r ‹_ ∧ Below _ _ _›)); rintro e w13 ⟨rfl, hb⟩; rw [HT4.out]; have HBc := Lib.hid hb; clear hb; dsimp only)
        | (refine V.step_appendP _ rfl _ _ rfl w10.heap.size ?_ (lb.drop 1) _ (N - 1) _ hdl.out ?hs ?ho rfl (hsl.out _ (V.below_r ‹_ ∧ Below _ _ _›)) ?hl ?hb ?_; (case ho => (first | exact V.own_lit0 w10.drew w10.heap.size (Nat.le_refl _) | exact (V.own_lit0 w10.drew w10.heap.size (Nat.le_refl _)).below (V.b_alloc _ _) | exact V.own_lit0 (w10.drew.alloc (.cells #[.int .i64 x] 2)) w10.heap.size (by simp))); (case hs => (first | rfl | (show Value.slice (some ⟨w10.heap.size + 1, 0, none⟩) 0 0 = _; simp))); (case hl => omega); (case hb => exact (V.below_r ‹_ ∧ Below _ _ _›).size); intro b1 c1 w11 ho hb hk; have HO1 := Lib.hid ho; have HBa := Lib.hid hb; have HKb := Lib.hid hk; clear ho hb hk)
        | (refine V.step_append1 _ rfl _ _ rfl w10.heap.size _ (lb.drop 1) x _ (N - 1) hdl.out rfl ?ho rfl ?hy ?hl ?hb ?_; (case ho => (first | exact HO1.out | exact HO1.out.below (V.b_alloc _ _))); (case hy => (first | (simp; done) | exact (V.cell_blk (HKb.out _ (by first | (simp; done) | (simp; omega)) (by simp [Value.ownBlock]))).trans (by simp))); (case hl => omega); (case hb => exact (V.below_r ‹_ ∧ Below _ _ _›).size); intro b2 c2 w12 ho hb; rw [show N - 1 + 1 = N from Nat.sub_add_cancel hN1] at ho ⊢; have HO2 := Lib.hid ho; have HBb := Lib.hid hb; clear ho hb))
    all_goals
      have hb13 : Below w10.heap.size w10 w13 := V.below_r ‹_ ∧ Below w10.heap.size w10 w13›
      have HM13 := Lib.hid (HM10.out.below hb13)
      have HI13 := Lib.hid (HI10.out.below hb13)
      have HE13 := Lib.hid (HE10.out.below hb13)
      have HA13 := Lib.hid (HA10.out.below hb13)
      have HB13 := Lib.hid (V.bnext HB10.out hb13)
      clear hb13
      go_wp2_with fail
      all_goals
        (try subst_vars)
        refine (V.isCycle_b _ _ _ Rb _ _ _ lb _ true HT1.out HM13.out HI13.out HCl.out.1 HCl.out.2).mono ?_
        rintro e w14 ⟨rfl, hb⟩
        have HE14 := Lib.hid (HE13.out.below hb)
        have HA14 := Lib.hid (HA13.out.below hb)
        have HB14 := Lib.hid (V.bnext HB13.out hb)
        clear hb
        by_cases hc0 : Cc = 0
        · subst hc0
          have hg := M.pos_gain R (by rw [← HC.out])
          rw [← HC.out] at hg
          obtain ⟨fv, hfv⟩ : ∃ fv, fv = M.cycRes R Cv := ⟨_, rfl⟩
          have hg : fv.2 = 3 ∨ fv.2 = 0 ∧ 0 < fv.1 := by rw [hfv]; exact hg
          have HFV := Lib.hid hfv
          have HG := Lib.hid hg
          clear hfv hg
          obtain ⟨fw, fo⟩ := fv
          go_wp2_with fail
          refine (V.cycleWeight _ _ _ R _ _ _ Cv _ HA14.out HE14.out HK.out.1 HK.out.2).mono ?_
          rintro e w20 ⟨rfl, hb⟩
          rw [← HFV.out]
          have HB20 := Lib.hid (V.bnext HB14.out hb)
          clear hb
          rcases HG.out with h | ⟨h1, h2⟩
          · obtain rfl : fo = 3 := h
            go_wp2
            go_ret
            exact ⟨rfl, HB20.out⟩
          · obtain rfl : fo = 0 := h1
            have hgt : 0 < fw := h2
            go_wp2
            go_ret
            exact ⟨rfl, HB20.out⟩
        · have ec : (Cc != 0) = true := by simpa using hc0
          go_wp2
          go_ret
          exact ⟨rfl, HB14.out⟩
  · have ep : (po == 0) = false := by simpa using hp0
    by_cases hc0 : Cc = 0
    · subst hc0
      have hg := M.pos_gain R (by rw [← HC.out])
      rw [← HC.out] at hg
      obtain ⟨fv, hfv⟩ : ∃ fv, fv = M.cycRes R Cv := ⟨_, rfl⟩
      have hg : fv.2 = 3 ∨ fv.2 = 0 ∧ 0 < fv.1 := by rw [hfv]; exact hg
      have HFV := Lib.hid hfv
      have HG := Lib.hid hg
      clear hfv hg
      obtain ⟨fw, fo⟩ := fv
      go_wp2_with fail
      refine (V.cycleWeight _ _ _ R _ _ _ Cv _ HA10.out HE10.out HK.out.1 HK.out.2).mono ?_
      rintro e w20 ⟨rfl, hb⟩
      rw [← HFV.out]
      have HB20 := Lib.hid (V.bnext HB10.out hb)
      clear hb
      rcases HG.out with h | ⟨h1, h2⟩
      · obtain rfl : fo = 3 := h
        go_wp2
        go_ret
        exact ⟨rfl, HB20.out⟩
      · obtain rfl : fo = 0 := h1
        have hgt : 0 < fw := h2
        go_wp2
        go_ret
        exact ⟨rfl, HB20.out⟩
    · have ec : (Cc != 0) = true := by simpa using hc0
      go_wp2
      go_ret
      exact ⟨rfl, HB10.out⟩
end Go.Proofs.Ytkilnneepnbckaa.fnPositiveCycles
