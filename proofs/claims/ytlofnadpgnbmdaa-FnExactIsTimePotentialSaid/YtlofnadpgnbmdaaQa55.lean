/- Texts laid together: Ciq. -/
import Derived.Test.YtlofnadpgnbmdaaQa54
set_option linter.unusedSimpArgs false
set_option linter.unusedVariables false
set_option linter.unusedSectionVars false
namespace Go.Proofs.Ytlofnadpgnbmdaa
namespace V
set_option maxRecDepth 100000
open Go.RowKit
/-- The boxes of a graph, a ratio and a list. -/
def GX (w0 w : World) (g : Nat) (x : Int) (a : Option Addr) (n cap : Nat) (r0 r1 : Int) (xa : Option Addr) (xn xc : Nat) : Prop := GBox w g x a n cap ∧ XBox w (g + 1 + 1) (g + 1) xa xn xc r0 r1 ∧ Below g w0 w
theorem GX.step {w0 w w' : World} {g : Nat} {x r0 r1 : Int} {a xa : Option Addr} {n cap xn xc : Nat} (h : GX w0 w g x a n cap r0 r1 xa xn xc) (hb : Below w.heap.size w w') (hg : g ≤ w0.heap.size) : GX w0 w' g x a n cap r0 r1 xa xn xc :=
  ⟨h.1.below hb, h.2.1.below hb, h.2.2.trans (hb.mono (Nat.le_trans hg h.2.2.size))⟩
set_option maxRecDepth 100000 in
set_option maxHeartbeats 4000000 in
theorem isTimePotential (x : Int) (a : Option Addr) (n cap : Nat) (l : List M.Pc) (r0 r1 : Int) (xa : Option Addr) (xn xc : Nat) (xs : List Int) (w : World) (h : Pls w a n l) (hx : Ints .i64 w xa xn xs) :
    Calls Try.prog 47 #[.agg #[.int .i64 x, .slice a n cap], .agg #[.int .i64 r0, .int .i64 r1], .slice xa xn xc] w fun e w' => e = .returned (.bool (M.itpB x l r0 r1 xs)) ∧ Below w.heap.size w w' := by
  obtain ⟨wb, hwb⟩ : ∃ z, z = ((w.alloc (.cells #[.int .i64 x, .slice a n cap] 26)).alloc (.cells #[.int .i64 r0, .int .i64 r1] 39)).alloc (.cells #[.slice xa xn xc] 35) := ⟨_, rfl⟩
  have hG : GX w wb w.heap.size x a n cap r0 r1 xa xn xc := by
    have h1 := GR.new w x a n cap r0 r1
    have h2 := h1.step (b_alloc _ (.cells #[.slice xa xn xc] 35)) (Nat.le_refl _)
    rw [← hwb] at h2
    refine ⟨h2.1, ⟨?_, h2.2.1⟩, h2.2.2⟩
    rw [hwb]; simp [go_sem]
  have HC := Lib.hid (isEventGraph x a n cap l wb (h.below hG.2.2))
  have HP := Lib.hid h
  have HXs := Lib.hid hx
  have hxl : xs.length = xn := hx.1
  have HG := Lib.hid hG
  have HWb := Lib.hid hwb.symm
  cases hg : M.isGr x l with
  | false =>
    rw [hg] at HC
    have HE : Hid (M.itpB x l r0 r1 xs = false) := by show _ = _; unfold M.itpB; rw [hg]; rfl
    clear h hx hG hwb hg
    obtain ⟨⟨g0, g1⟩, ⟨y0, q0, q1⟩, -⟩ := HG.out
    go_enter Try.func47, Try.ntmps47
    go_wp2_with fail
    rw [HWb.out]
    refine HC.out.mono ?_
    rintro e w1 ⟨rfl, hb⟩
    have HB := Lib.hid (HG.out.step hb (Nat.le_refl _)).2.2
    clear hb g0 g1 q0 q1 y0
    go_wp2
    go_ret
    rw [HE.out]
    exact ⟨rfl, HB.out⟩
  | true =>
    rw [hg] at HC
    obtain ⟨N, rfl⟩ := M.gr_nat hg
    cases hr : M.isRat r0 r1 with
    | false =>
      have HE : Hid (M.itpB N l r0 r1 xs = false) := by show _ = _; unfold M.itpB; rw [hg, hr]; rfl
      have HR := Lib.hid hr
      clear h hx hG hwb hg hr
      obtain ⟨⟨g0, g1⟩, ⟨y0, q0, q1⟩, -⟩ := HG.out
      go_enter Try.func47, Try.ntmps47
      go_wp2_with fail
      rw [HWb.out]
      refine HC.out.mono ?_
      rintro e w1 ⟨rfl, hb⟩
      have HG1 := Lib.hid (HG.out.step hb (Nat.le_refl _))
      clear hb g0 g1 q0 q1 y0
      obtain ⟨⟨g0, g1⟩, ⟨y0, q0, q1⟩, -⟩ := HG1.out
      go_wp2_with fail
      refine (isRatio_b _ _ false HR.out _).mono ?_
      rintro e w2 ⟨rfl, hb⟩
      have HB := Lib.hid (HG1.out.step hb (Nat.le_refl _)).2.2
      clear hb g0 g1 q0 q1 y0
      go_wp2
      go_ret
      rw [HE.out]
      exact ⟨rfl, HB.out⟩
    | true =>
      have HR := Lib.hid hr
      have HGr := Lib.hid hg
      by_cases hn : xn = N
      · subst hn
        obtain ⟨f, hf⟩ : ∃ f, f = xs.all M.isFin := ⟨_, rfl⟩
        obtain ⟨v, hv⟩ : ∃ v, v = l.all (M.hldP xs r0 r1) := ⟨_, rfl⟩
        have HE : Hid (M.itpB xn l r0 r1 xs = (f && v)) := by show _ = _; unfold M.itpB; rw [hg, hr, ← hf, ← hv, hxl]; simp
        have HFv := Lib.hid hf.symm
        have HV := Lib.hid hv.symm
        have hnb : ((xn : Int) != (xn : Int)) = false := by simp
        clear h hx hG hwb hg hr hf hv
        obtain ⟨⟨g0, g1⟩, ⟨y0, q0, q1⟩, -⟩ := HG.out
        go_enter Try.func47, Try.ntmps47
        go_wp2_with fail
        rw [HWb.out]
        refine HC.out.mono ?_
        rintro e w1 ⟨rfl, hb⟩
        have HG1 := Lib.hid (HG.out.step hb (Nat.le_refl _))
        clear hb g0 g1 q0 q1 y0
        obtain ⟨⟨g0, g1⟩, ⟨y0, q0, q1⟩, -⟩ := HG1.out
        go_wp2_with fail
        refine (isRatio_b _ _ true HR.out _).mono ?_
        rintro e w2 ⟨rfl, hb⟩
        have HG2 := Lib.hid (HG1.out.step hb (Nat.le_refl _))
        clear hb g0 g1 q0 q1 y0
        obtain ⟨⟨g0, g1⟩, ⟨y0, q0, q1⟩, -⟩ := HG2.out
        go_wp2_with fail
        refine (containsNotFin _ _ _ xs f HFv.out w2 (HXs.out.below HG2.out.2.2)).mono ?_
        rintro e w3 ⟨rfl, hb⟩
        have HG3 := Lib.hid (HG2.out.step hb (Nat.le_refl _))
        clear hb g0 g1 q0 q1 y0
        cases f with
        | false =>
          go_wp2
          go_ret
          rw [HE.out]
          exact ⟨rfl, HG3.out.2.2⟩
        | true =>
          obtain ⟨⟨g0, g1⟩, ⟨y0, q0, q1⟩, -⟩ := HG3.out
          go_wp2_with fail
          refine (containsMissedX xn _ _ xa xc xs r0 r1 _ _ _ l v HV.out w3 HG3.out.2.1 (HXs.out.below HG3.out.2.2) HFv.out HR.out HGr.out (HP.out.below HG3.out.2.2)).mono ?_
          rintro e w4 ⟨rfl, hb⟩
          have HG4 := Lib.hid (HG3.out.step hb (Nat.le_refl _))
          clear hb g0 g1 q0 q1 y0
          go_wp2
          go_ret
          rw [HE.out]
          exact ⟨by cases v <;> rfl, HG4.out.2.2⟩
      · have HE : Hid (M.itpB N l r0 r1 xs = false) := by
          show _ = _; unfold M.itpB
          rw [decide_eq_false (show ¬ ((xs.length : Int) = (N : Int)) by omega)]; simp
        have hnb : ((xn : Int) != (N : Int)) = true := by simp; omega
        clear h hx hG hwb hg hr hn
        obtain ⟨⟨g0, g1⟩, ⟨y0, q0, q1⟩, -⟩ := HG.out
        go_enter Try.func47, Try.ntmps47
        go_wp2_with fail
        rw [HWb.out]
        refine HC.out.mono ?_
        rintro e w1 ⟨rfl, hb⟩
        have HG1 := Lib.hid (HG.out.step hb (Nat.le_refl _))
        clear hb g0 g1 q0 q1 y0
        obtain ⟨⟨g0, g1⟩, ⟨y0, q0, q1⟩, -⟩ := HG1.out
        go_wp2_with fail
        refine (isRatio_b _ _ true HR.out _).mono ?_
        rintro e w2 ⟨rfl, hb⟩
        have HG2 := Lib.hid (HG1.out.step hb (Nat.le_refl _))
        clear hb g0 g1 q0 q1 y0
        obtain ⟨⟨g0, g1⟩, ⟨y0, q0, q1⟩, -⟩ := HG2.out
        go_wp2
        go_ret
        rw [HE.out]
        exact ⟨rfl, HG2.out.2.2⟩
set_option maxRecDepth 100000 in
set_option maxHeartbeats 4000000 in
theorem sHoldsX (N : Nat) (a : Option Addr) (n cap : Nat) (l : List M.Pc) (r0 r1 : Int) (xa : Option Addr) (xn xc : Nat) (xs : List Int) (w : World) (h : Pls w a n l) (hx : Ints .i64 w xa xn xs) (hg : M.isGr (N : Int) l = true) (hr : M.isRat r0 r1 = true) :
    Calls Try.prog 93 #[.agg #[.int .i64 N, .slice a n cap], .agg #[.int .i64 r0, .int .i64 r1], .slice xa xn xc] w fun e w' => e = .returned (.bool (decide ((xs.length : Int) = N) && (xs.all M.isFin && l.all (M.hldP xs r0 r1)))) ∧ Below w.heap.size w w' := by
  have hG := GR.new w N a n cap r0 r1
  obtain ⟨wb, hwb⟩ : ∃ z, z = (w.alloc (.cells #[.int .i64 N, .slice a n cap] 26)).alloc (.cells #[.int .i64 r0, .int .i64 r1] 39) := ⟨_, rfl⟩
  rw [← hwb] at hG
  have HP := Lib.hid h
  have HXs := Lib.hid hx
  have hxl : xs.length = xn := hx.1
  have HG := Lib.hid hG
  have HWb := Lib.hid hwb.symm
  have HL : Hid (l.length = n) := h.1
  have hn30 : n ≤ 30 := by have := (M.gr_ev hg).2.2.2; have := h.1; omega
  obtain ⟨f, hf⟩ : ∃ f, f = xs.all M.isFin := ⟨_, rfl⟩
  rw [← hf]
  by_cases hn : xn = N
  · subst hn
    have HA := Lib.hid (sAllF_b xa xn xc xs f hf.symm wb (hx.below hG.2.2))
    have hnb : ((xn : Int) != (xn : Int)) = false := by simp
    rw [hxl, decide_eq_true rfl, Bool.true_and]
    cases f with
    | false =>
      clear h hx hG hwb hf hg hr
      obtain ⟨⟨g0, g1⟩, ⟨q0, q1⟩, -⟩ := HG.out
      go_enter Try.func93, Try.ntmps93
      go_wp2_with fail
      rw [HWb.out]
      refine HA.out.mono ?_
      rintro e w' ⟨rfl, rfl⟩
      go_wp2
      go_ret
      exact ⟨rfl, HG.out.2.2⟩
    | true =>
      rw [Bool.true_and]
      have HGr := Lib.hid hg
      have HR := Lib.hid hr
      have hfin : ∀ k, k < xn → -1000000 ≤ xs.getD k 0 ∧ xs.getD k 0 ≤ 1000000 := fun k hk => by
        have hkl : k < xs.length := by rw [hx.1]; exact hk
        have := List.all_eq_true.1 hf.symm (xs.getD k 0) (by rw [List.getD_eq_getElem?_getD, List.getElem?_eq_getElem hkl]; exact List.getElem_mem hkl)
        simpa [M.isFin] using this
      have HFi := Lib.hid hfin
      have HD0 : Hid (∀ k, k < 0 → M.hldP xs r0 r1 (l.getD k M.pz) = true) := fun k hk => absurd hk (Nat.not_lt_zero k)
      clear h hx hG hwb hf hg hr hfin
      obtain ⟨⟨g0, g1⟩, ⟨q0, q1⟩, -⟩ := HG.out
      go_enter Try.func93, Try.ntmps93
      go_wp2_with fail
      rw [HWb.out]
      refine HA.out.mono ?_
      rintro e w' ⟨rfl, rfl⟩
      go_wp2
      clear g0 g1 q0 q1
      go_loopw [7, 8] (fun kv _ wr => ∃ k : Nat, k ≤ n ∧ kv = .int .i64 k ∧ Hid (GR w wr w.heap.size xn a n cap r0 r1) ∧ Hid (∀ j, j < k → M.hldP xs r0 r1 (l.getD j M.pz) = true)) (fun kv _ _ => n - (intOf kv).toNat)
      case atStart => exact ⟨0, Nat.zero_le _, rfl, HG, HD0⟩
      case round =>
        obtain ⟨k, hk, rfl, HGk, HD⟩ := hrel
        obtain ⟨wo, rfl⟩ : ∃ x, x = wr := ⟨_, rfl⟩
        clear HD0
        obtain ⟨⟨g0, g1⟩, ⟨q0, q1⟩, -⟩ := HGk.out
        by_cases hkl : k < n
        · have hki : (k : Int) < (n : Int) := by omega
          obtain ⟨pb, off, p0, p1, p2, p3, rfl, hpd, hp, c0, c1, c2, c3⟩ := (HP.out.below HGk.out.2.2).at k hkl
          obtain ⟨i, j, hi, hj, rfl, rfl, t2, t2', t3, t3'⟩ := gr_at HGr.out (by rw [HL.out]; exact hkl) hp
          have hij : (i : Int) < (xn : Int) := by omega
          have hjj : (j : Int) < (xn : Int) := by omega
          obtain ⟨ab, ao, u, rfl, hd, hu, cu⟩ := (HXs.out.below HGk.out.2.2).at i hi
          obtain ⟨ab', ao', v, he, hd', hv, cv⟩ := (HXs.out.below HGk.out.2.2).at j hj
          injection he with he
          injection he with e1 e2
          subst e1 e2
          have f1 := HFi.out i hi
          have f2 := HFi.out j hj
          have hE : M.hldP xs r0 r1 (l.getD k M.pz) = !decide (u < v + r1 * p2 - r0 * p3) := by
            rw [hp]
            unfold M.hldP
            show (!decide (xs.getD ((i : Int)).toNat 0 < xs.getD ((j : Int)).toNat 0 + (r1 * p2 - r0 * p3))) = _
            rw [Int.toNat_natCast, Int.toNat_natCast, ← hu, ← hv, show v + (r1 * p2 - r0 * p3) = v + r1 * p2 - r0 * p3 by omega]
          rw [← hu] at f1
          rw [← hv] at f2
          obtain ⟨b1, b2, b3, b4⟩ := M.exc_bd HR.out t2 t2' t3 t3'
          have e1 : IntKind.i64.wrap (r1 * p2) = r1 * p2 := IntWalk.i64_in _ (by omega)
          have e2 : IntKind.i64.wrap (r0 * p3) = r0 * p3 := IntWalk.i64_in _ (by omega)
          have e3 : IntKind.i64.wrap (v + r1 * p2) = v + r1 * p2 := IntWalk.i64_in _ (by omega)
          have e4 : IntKind.i64.wrap (v + r1 * p2 - r0 * p3) = v + r1 * p2 - r0 * p3 := IntWalk.i64_in _ (by omega)
          have hs1 : w.heap.size < wo.heap.size := cell_lt g0
          have hs2 : w.heap.size + 1 < wo.heap.size := cell_lt q0
          by_cases hlt : u < v + r1 * p2 - r0 * p3
          · have HF : Hid (l.all (M.hldP xs r0 r1) = false) := M.all_no (by rw [HL.out]; exact hkl) (by rw [hE, decide_eq_true hlt]; rfl)
            clear hE hu hv hp f1 f2 b1 b2 b3 b4
            go_wp2
            go_region
            all_goals
              go_wp2
              go_ret
              rw [HF.out]
              exact ⟨rfl, (HGk.out.step (b_alloc _ _).drew (Nat.le_refl _)).2.2⟩
          · have HT : Hid (M.hldP xs r0 r1 (l.getD k M.pz) = true) := by show _ = _; rw [hE, decide_eq_false hlt]; rfl
            have HD2 : Hid (∀ j, j < k + 1 → M.hldP xs r0 r1 (l.getD j M.pz) = true) := fun j hj => by
              by_cases e : j = k
              · subst e; exact HT.out
              · exact HD.out j (by omega)
            clear hE hu hv hp f1 f2 b1 b2 b3 b4 HD HT
            go_wp2
            go_region
            all_goals
              go_wp2
              clear e1 e2 e3 e4 hlt
              go_roundw
              case rel => exact ⟨k + 1, by omega, by go_num, HGk.out.step (b_alloc _ _).drew (Nat.le_refl _), HD2⟩
              case measure => simp [intOf]; omega
        · obtain rfl : k = n := by omega
          have HT : Hid (l.all (M.hldP xs r0 r1) = true) := M.all_of (fun j hj => HD.out j (by have := HL.out; omega))
          go_wp2
          go_ret
          rw [HT.out]
          exact ⟨rfl, HGk.out.2.2⟩
  · have hnb : ((xn : Int) != (N : Int)) = true := by simp; omega
    rw [decide_eq_false (show ¬ ((xs.length : Int) = (N : Int)) by omega), Bool.false_and]
    clear h hx hG hwb hf hg hr hn
    obtain ⟨⟨g0, g1⟩, ⟨q0, q1⟩, -⟩ := HG.out
    go_enter Try.func93, Try.ntmps93
    go_wp2
    rw [HWb.out]
    go_ret
    exact ⟨rfl, HG.out.2.2⟩
set_option maxRecDepth 100000 in
set_option maxHeartbeats 2000000 in
theorem sIsTimePotential (x : Int) (a : Option Addr) (n cap : Nat) (l : List M.Pc) (r0 r1 : Int) (xa : Option Addr) (xn xc : Nat) (xs : List Int) (w : World) (h : Pls w a n l) (hx : Ints .i64 w xa xn xs) :
    Calls Try.prog 45 #[.agg #[.int .i64 x, .slice a n cap], .agg #[.int .i64 r0, .int .i64 r1], .slice xa xn xc] w fun e w' => e = .returned (.bool (M.itpB x l r0 r1 xs)) ∧ Below w.heap.size w w' := by
  have hG := GR.new w x a n cap r0 r1
  obtain ⟨wb, hwb⟩ : ∃ z, z = (w.alloc (.cells #[.int .i64 x, .slice a n cap] 26)).alloc (.cells #[.int .i64 r0, .int .i64 r1] 39) := ⟨_, rfl⟩
  rw [← hwb] at hG
  have HC := Lib.hid (sIsEventGraph x a n cap l wb (h.below hG.2.2))
  have HP := Lib.hid h
  have HXs := Lib.hid hx
  have HG := Lib.hid hG
  have HWb := Lib.hid hwb.symm
  cases hg : M.isGr x l with
  | false =>
    rw [hg] at HC
    have HE : Hid (M.itpB x l r0 r1 xs = false) := by show _ = _; unfold M.itpB; rw [hg]; rfl
    clear h hx hG hwb hg
    obtain ⟨⟨g0, g1⟩, ⟨q0, q1⟩, -⟩ := HG.out
    go_enter Try.func45, Try.ntmps45
    go_wp2_with fail
    rw [HWb.out]
    refine HC.out.mono ?_
    rintro e w1 ⟨rfl, hb⟩
    have HB := Lib.hid (HG.out.step hb (Nat.le_refl _)).2.2
    clear hb g0 g1 q0 q1
    go_wp2
    go_ret
    rw [HE.out]
    exact ⟨rfl, HB.out⟩
  | true =>
    rw [hg] at HC
    obtain ⟨N, rfl⟩ := M.gr_nat hg
    cases hr : M.isRat r0 r1 with
    | false =>
      have HE : Hid (M.itpB N l r0 r1 xs = false) := by show _ = _; unfold M.itpB; rw [hg, hr]; rfl
      have HR := Lib.hid hr
      clear h hx hG hwb hg hr
      obtain ⟨⟨g0, g1⟩, ⟨q0, q1⟩, -⟩ := HG.out
      go_enter Try.func45, Try.ntmps45
      go_wp2_with fail
      rw [HWb.out]
      refine HC.out.mono ?_
      rintro e w1 ⟨rfl, hb⟩
      have HG1 := Lib.hid (HG.out.step hb (Nat.le_refl _))
      clear hb g0 g1 q0 q1
      obtain ⟨⟨g0, g1⟩, ⟨q0, q1⟩, -⟩ := HG1.out
      go_wp2_with fail
      refine (sIsRatio_b _ _ false HR.out _).mono ?_
      rintro e w2 ⟨rfl, hb⟩
      have HB := Lib.hid (HG1.out.step hb (Nat.le_refl _)).2.2
      clear hb g0 g1 q0 q1
      go_wp2
      go_ret
      rw [HE.out]
      exact ⟨rfl, HB.out⟩
    | true =>
      have HR := Lib.hid hr
      obtain ⟨v, hv⟩ : ∃ v, v = (decide ((xs.length : Int) = (N : Int)) && (xs.all M.isFin && l.all (M.hldP xs r0 r1))) := ⟨_, rfl⟩
      have HE : Hid (M.itpB N l r0 r1 xs = v) := by show _ = _; unfold M.itpB; rw [hg, hr, ← hv]; rfl
      have HH : Hid (∀ W, Below w.heap.size w W → Calls Try.prog 93 #[.agg #[.int .i64 N, .slice a n cap], .agg #[.int .i64 r0, .int .i64 r1], .slice xa xn xc] W fun e w' => e = .returned (.bool v) ∧ Below W.heap.size W w') := fun W hW => by rw [hv]; exact sHoldsX N a n cap l r0 r1 xa xn xc xs W (h.below hW) (hx.below hW) hg hr
      clear h hx hG hwb hg hr hv
      obtain ⟨⟨g0, g1⟩, ⟨q0, q1⟩, -⟩ := HG.out
      go_enter Try.func45, Try.ntmps45
      go_wp2_with fail
      rw [HWb.out]
      refine HC.out.mono ?_
      rintro e w1 ⟨rfl, hb⟩
      have HG1 := Lib.hid (HG.out.step hb (Nat.le_refl _))
      clear hb g0 g1 q0 q1
      obtain ⟨⟨g0, g1⟩, ⟨q0, q1⟩, -⟩ := HG1.out
      go_wp2_with fail
      refine (sIsRatio_b _ _ true HR.out _).mono ?_
      rintro e w2 ⟨rfl, hb⟩
      have HG2 := Lib.hid (HG1.out.step hb (Nat.le_refl _))
      clear hb g0 g1 q0 q1
      obtain ⟨⟨g0, g1⟩, ⟨q0, q1⟩, -⟩ := HG2.out
      go_wp2_with fail
      refine (HH.out _ HG2.out.2.2).mono ?_
      rintro e w3 ⟨rfl, hb⟩
      have HB := Lib.hid (HG2.out.step hb (Nat.le_refl _)).2.2
      clear hb g0 g1 q0 q1
      go_wp2
      go_ret
      rw [HE.out]
      exact ⟨by cases v <;> rfl, HB.out⟩
end V
end Go.Proofs.Ytlofnadpgnbmdaa
