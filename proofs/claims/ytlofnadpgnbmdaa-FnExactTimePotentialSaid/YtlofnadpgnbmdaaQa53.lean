/- Texts laid together: Ctq. -/
import Derived.Test.YtlofnadpgnbmdaaQa52
set_option linter.unusedSimpArgs false
set_option linter.unusedVariables false
set_option linter.unusedSectionVars false
namespace Go.Proofs.Ytlofnadpgnbmdaa
namespace V
set_option maxRecDepth 100000
open Go.RowKit
set_option maxRecDepth 100000 in
set_option maxHeartbeats 4000000 in
theorem sTimePotential (x : Int) (a : Option Addr) (n cap : Nat) (l : List M.Pc) (r0 r1 : Int) (w : World) (h : Pls w a n l) :
    Calls Try.prog 48 #[.agg #[.int .i64 x, .slice a n cap], .agg #[.int .i64 r0, .int .i64 r1]] w (VRes (M.timRes x l r0 r1) w) := by
  have hG := GR.new w x a n cap r0 r1
  obtain ⟨wb, hwb⟩ : ∃ z, z = (w.alloc (.cells #[.int .i64 x, .slice a n cap] 26)).alloc (.cells #[.int .i64 r0, .int .i64 r1] 39) := ⟨_, rfl⟩
  rw [← hwb] at hG
  have HC := Lib.hid (sIsEventGraph x a n cap l wb (h.below hG.2.2))
  have HP := Lib.hid h
  have HG := Lib.hid hG
  have HWb := Lib.hid hwb.symm
  cases hg : M.isGr x l with
  | false =>
    rw [hg] at HC
    have HE : Hid (M.timRes x l r0 r1 = ([], 1)) := by show _ = _; unfold M.timRes; rw [hg]; rfl
    clear h hG hwb hg
    obtain ⟨⟨g0, g1⟩, ⟨q0, q1⟩, -⟩ := HG.out
    go_enter Try.func48, Try.ntmps48
    go_wp2_with fail
    rw [HWb.out]
    refine HC.out.mono ?_
    rintro e w1 ⟨rfl, hb⟩
    have HB := Lib.hid (HG.out.step hb (Nat.le_refl _)).2.2
    clear hb g0 g1 q0 q1
    go_wp2
    go_ret2
    exact VRes.nil HE.out HB.out
  | true =>
    rw [hg] at HC
    obtain ⟨N, rfl⟩ := M.gr_nat hg
    cases hr : M.isRat r0 r1 with
    | false =>
      have HE : Hid (M.timRes N l r0 r1 = ([], 1)) := by show _ = _; unfold M.timRes; rw [hg, hr]; rfl
      have HR := Lib.hid hr
      clear h hG hwb hg hr
      obtain ⟨⟨g0, g1⟩, ⟨q0, q1⟩, -⟩ := HG.out
      go_enter Try.func48, Try.ntmps48
      go_wp2_with fail
      rw [HWb.out]
      refine HC.out.mono ?_
      rintro e w1 ⟨rfl, hb⟩
      have HG1 := Lib.hid (HG.out.step hb (Nat.le_refl _))
      clear hb g0 g1 q0 q1
      obtain ⟨⟨g0, g1⟩, ⟨q0, q1⟩, -⟩ := HG1.out
      go_wp2_with fail
      refine (sIsRatio_b _ _ false HR.out _).mono ?_
      rintro e w2 ⟨rfl, hb⟩
      have HB := Lib.hid (HG1.out.step hb (Nat.le_refl _)).2.2
      clear hb g0 g1 q0 q1
      go_wp2
      go_ret2
      exact VRes.nil HE.out HB.out
    | true =>
      obtain ⟨he, n1, n2, l30⟩ := M.gr_ev hg
      have HF : Hid ((M.timL l N r0 r1).all M.isFin = M.isVec (M.timL l N r0 r1)) := M.tim_fin n1 n2
      have HSm : Hid (∀ i j, i < N → j < N → M.Sm 1000001000000 (M.wtF (M.fExc r0 r1) l i j)) := fun i j _ _ => M.exc_sm he hr i j
      have HLB : Hid (∀ k, k < N → M.Big ((M.zerosL N).getD k 0)) := fun k _ => by rw [M.zeros_at]; exact .inr (by omega)
      have HW : Hid (∀ W, Below w.heap.size w W → Calls Try.prog 101 #[.agg #[.int .i64 N, .slice a n cap], .agg #[.int .i64 r0, .int .i64 r1]] W (MPost N (M.wtM (M.fExc r0 r1) N l) W)) := fun W hW => sWeights N r0 r1 a n cap l W (h.below hW) hg hr
      obtain ⟨np, hnp⟩ : ∃ np, np = M.noPos (M.wtF (M.fExc r0 r1) l) N := ⟨_, rfl⟩
      obtain ⟨L, hL⟩ : ∃ L, L = M.timL l N r0 r1 := ⟨_, rfl⟩
      obtain ⟨b, hb⟩ : ∃ b, b = M.isVec L := ⟨_, rfl⟩
      have HE : Hid (M.timRes N l r0 r1 = if np then (if b then (L, 0) else ([], 3)) else ([], 5)) := by
        show _ = _
        unfold M.timRes
        rw [hg, hr, hb, hL, hnp]
        rfl
      have HM : Hid (L.all M.isFin = b) := by show _ = _; rw [hb, hL]; exact HF.out
      obtain ⟨P, hP⟩ : ∃ P, P = M.wtM (M.fExc r0 r1) N l := ⟨_, rfl⟩
      have HPq : Hid (M.mk N N (M.wtF (M.fExc r0 r1) l) = P) := hP.symm
      have HNp : Hid (np = M.noPos (M.ent P) N) := by show _ = _; rw [← HPq.out, M.noPos_mk]; exact hnp
      have HLq : Hid (M.applyM (M.starM P N) (M.zerosL N) = L) := by show _ = _; rw [hL, hP]; rfl
      obtain ⟨z, hzd⟩ : ∃ z, z = M.zerosL N := ⟨_, rfl⟩
      have HZd : Hid (((List.range N).map fun _ => (0 : Int)) = z) := by show _ = _; rw [hzd]; exact M.zeros_made N
      have HR := Lib.hid hr
      rw [← hP] at HW
      rw [← hzd] at HLB HLq
      have hmk := run_make_row' (P := Try.prog) 35 2 (.int .i64 0) 8 Try.underlying35 info64 rfl .i64 .i64 N (by omega) (by omega)
      clear h hG hwb hg hr he hP hzd hnp hL hb HF
      obtain ⟨⟨g0, g1⟩, ⟨q0, q1⟩, -⟩ := HG.out
      go_enter Try.func48, Try.ntmps48
      go_wp2_with fail
      rw [HWb.out]
      refine HC.out.mono ?_
      rintro e w1 ⟨rfl, hb⟩
      have HG1 := Lib.hid (HG.out.step hb (Nat.le_refl _))
      clear hb g0 g1 q0 q1
      obtain ⟨⟨g0, g1⟩, ⟨q0, q1⟩, -⟩ := HG1.out
      go_wp2_with fail
      refine (sIsRatio_b _ _ true HR.out _).mono ?_
      rintro e w2 ⟨rfl, hb⟩
      have HG2 := Lib.hid (HG1.out.step hb (Nat.le_refl _))
      clear hb g0 g1 q0 q1
      obtain ⟨⟨g0, g1⟩, ⟨q0, q1⟩, -⟩ := HG2.out
      go_wp2_with fail
      refine (HW.out _ HG2.out.2.2).mono ?_
      rintro e w3 ⟨a2, cap2, rfl, hO, hb⟩
      have HG3 := Lib.hid (HG2.out.step hb (Nat.le_refl _))
      have hq : Sq w3 a2 N P := by
        have := sq_shift (by rw [HPq.out]; exact hO.mat) HSm.out n1 n2
        rw [HPq.out] at this; exact this
      have HQ3 := Lib.hid hq
      clear hb hO hq g0 g1 q0 q1
      go_wp2_with fail
      refine (sStar _ _ _ P _ HQ3.out).mono ?_
      rintro e w4 ⟨b4, c4, rfl, hO, hb⟩
      rw [← HNp.out]
      have HG4 := Lib.hid (HG3.out.step hb (Nat.le_refl _))
      have HO4 := Lib.hid hO
      clear hb hO
      cases np with
      | false =>
        have HE2 : Hid (M.timRes N l r0 r1 = ([], 5)) := HE.out
        go_wp2
        go_ret2
        exact VRes.nil HE2.out HG4.out.2.2
      | true =>
        have hO2 := HO4.out
        rw [M.bm_star n2 HQ3.out.2.2.1 HNp.out.symm] at hO2
        have HO2 := Lib.hid hO2
        have HSB : Hid (∀ i j, i < N → j < N → M.Big (M.ent (M.starM P N) i j)) := fun i j hi hj => M.star_big n2 HQ3.out.2.2.1 HNp.out.symm hi hj
        clear hO2 HO4
        obtain ⟨⟨g0, g1⟩, -, -⟩ := HG4.out
        cases b with
        | true =>
          have HE2 : Hid (M.timRes N l r0 r1 = (L, 0)) := HE.out
          go_wp2_with fail
          refine (sApplyB _ _ _ _ _ _ _ z _ (HO2.out.mat.below (b_alloc _ _)) (by have := (own_made w4 0 N (Nat.zero_le _) (by unfold maxLen; omega)).ints'; rw [HZd.out] at this; exact this) (rect_mk _ _ _) HSB.out HLB.out n2 n1 n2).mono ?_
          rintro e w5 ⟨b5, c5, rfl, hx, hb⟩
          have HB5 := Lib.hid (HG4.out.2.2.trans ((bel1 hb).mono HG4.out.2.2.size))
          have HX5 := Lib.hid (hx.mono (B' := w.heap.size) (by have := HG4.out.2.2.size; simp; omega))
          clear hx hb hmk g0 g1
          rw [HLq.out] at HX5
          go_wp2_with fail
          refine (sAllF_b _ _ _ L true HM.out _ HX5.out.ints').mono ?_
          rintro e w' ⟨rfl, rfl⟩
          go_wp2
          go_ret2
          rw [HE2.out]
          exact ⟨_, _, _, rfl, HX5.out, HB5.out⟩
        | false =>
          have HE2 : Hid (M.timRes N l r0 r1 = ([], 3)) := HE.out
          go_wp2_with fail
          refine (sApplyB _ _ _ _ _ _ _ z _ (HO2.out.mat.below (b_alloc _ _)) (by have := (own_made w4 0 N (Nat.zero_le _) (by unfold maxLen; omega)).ints'; rw [HZd.out] at this; exact this) (rect_mk _ _ _) HSB.out HLB.out n2 n1 n2).mono ?_
          rintro e w5 ⟨b5, c5, rfl, hx, hb⟩
          have HB5 := Lib.hid (HG4.out.2.2.trans ((bel1 hb).mono HG4.out.2.2.size))
          have HX5 := Lib.hid (hx.mono (B' := w.heap.size) (by have := HG4.out.2.2.size; simp; omega))
          clear hx hb hmk g0 g1
          rw [HLq.out] at HX5
          go_wp2_with fail
          refine (sAllF_b _ _ _ L false HM.out _ HX5.out.ints').mono ?_
          rintro e w' ⟨rfl, rfl⟩
          go_wp2
          go_ret2
          exact VRes.nil HE2.out HB5.out
end V
end Go.Proofs.Ytlofnadpgnbmdaa
