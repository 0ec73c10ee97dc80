/- Texts laid together: Pli. -/
import Derived.Test.YtlljnfljcdljaaaQa18
import Derived.Lib.AppendZeros
set_option linter.unusedSimpArgs false
set_option linter.unusedVariables false
set_option linter.unusedSectionVars false
namespace Go.Proofs.Ytlljnfljcdljaaa
namespace M
theorem mulPRes_len (c d : List Int) : (mulPRes c d).1.length ≤ 20 := by
  unfold mulPRes
  cases h1 : isPoly c && isPoly d with
  | false => simp
  | true =>
    cases h2 : isPoly (mulP c d) with
    | false => simp
    | true =>
      have := (isPoly_t h2).2.1
      simp only [if_true]; omega
def partsL (c d : List Int) (k : Nat) : List (List Int) := (List.range k).map (partL c d)
theorem partsL_len (c d : List Int) (k : Nat) : (partsL c d k).length = k := by simp [partsL]
theorem partsL_next (c d : List Int) (k : Nat) : partsL c d (k + 1) = partsL c d k ++ [partL c d k] := by simp [partsL, List.range_succ]
theorem partsL_take (c d : List Int) {k n : Nat} (h : k ≤ n) : (partsL c d n).take k = partsL c d k := by
  unfold partsL
  rw [← List.map_take, List.take_range, Nat.min_eq_left h]
theorem partsL_get (c d : List Int) {k n : Nat} (h : k < n) : (partsL c d n).getD k [] = partL c d k := by simp [partsL, h]
theorem mul_fold {c d : List Int} (hc : isPoly c = true) (hd : isPoly d = true) : (partsL c d c.length).foldl addL [] = mulP c d := by
  have c1 := isPoly_t hc
  have d1 := isPoly_t hd
  unfold partsL mulP
  rw [fold_parts d1.2.2.1 c1.2.2.1 (by omega) c.length (by omega) (Nat.le_refl _), Nat.add_comm d.length c.length]
theorem mul_steps {c d : List Int} (hc : isPoly c = true) (hd : isPoly d = true) : Steps (partsL c d c.length) := by
  have c1 := isPoly_t hc
  have d1 := isPoly_t hd
  intro k hk
  rw [partsL_len] at hk
  rw [partsL_get c d hk, partL_len, partsL_take c d (by omega)]
  refine ⟨?_, by omega⟩
  by_cases e : k = 0
  · subst e; omega
  · unfold partsL
    rw [fold_parts d1.2.2.1 c1.2.2.1 (by omega) k (by omega) (by omega), mulK_len]
    omega
end M
namespace V
set_option maxRecDepth 100000
open Go.RowKit
set_option maxRecDepth 100000 in
set_option maxHeartbeats 1000000 in
theorem growNil (n : Nat) (w : World) (h0 : 0 < n) (hn : n ≤ 1000) :
    Calls Try.prog 85 #[.slice none 0 0, .int .i64 n] w fun e w' => ∃ c, n ≤ c ∧ e = .returned (.slice (some ⟨w.heap.size, 0, none⟩) 0 c) ∧ Own w' w.heap.size (.slice (some ⟨w.heap.size, 0, none⟩) 0 c) [] ∧ Below w.heap.size w w' := by
  obtain ⟨i0, hi, hz0, hz1, hz2⟩ := info_parts info64
  have hge := grownCap_ge w n 0 2
  have hle := grownCap_le_maxLen w n 0 2 (by unfold maxLen; omega)
  have HGe := Lib.hid hge
  have HLe := Lib.hid hle
  have hrun := Lib.run_append_nil_zeros (P := Try.prog) w 24 3 24 2 i0 (.int .i64 0) .i64 .i64 Try.underlying24 Try.underlying3 hi hz0 n h0 (by rw [hz1]; decide) (by omega) (by rw [hz2]; omega)
  have HR := Lib.hid hrun
  have hn1 : ¬ (n : Int) < 0 := by omega
  have hn2 : (n : Int) > 0 := by omega
  clear hrun hi hge hle
  go_enter Try.func85, Try.ntmps85
  go_wp2_with (at_builtin; refine Lib.wpList_append_run _ rfl (.tmp 20) (.tmp 21) 24 3 rfl _ _ rfl rfl _ _ HR.out ?_)
  generalize grownCap w n 0 2 = cc at *
  go_wp2
  go_ret
  refine ⟨cc, HGe.out, rfl, ?_, ?_⟩
  · refine ⟨rfl, .inr ⟨w.heap.size, cc, _, rfl, Nat.le_refl _, World.alloc_heap_new _ _, Nat.zero_le _, HLe.out, ?_, by simp⟩⟩
    have := HGe.out
    simp [Builtin.zeroCells]
    omega
  · exact (Below.refl _ _).drew.alloc (Nat.le_refl _) _
set_option maxRecDepth 100000 in
set_option maxHeartbeats 2000000 in
theorem concat2 (b g1 n1 c1 g2 n2 c2 B1 B2 : Nat) (x y : List Int) (w : World) (hx : Own w B1 (.slice (some ⟨g1, 0, none⟩) n1 c1) x) (hy : Own w B2 (.slice (some ⟨g2, 0, none⟩) n2 c2) y)
    (hc0 : w.cell? ⟨b, 0, none⟩ = some (.slice (some ⟨g1, 0, none⟩) n1 c1)) (hc1 : w.cell? ⟨b, 1, none⟩ = some (.slice (some ⟨g2, 0, none⟩) n2 c2)) (h0 : 0 < n1 + n2) (hn : n1 + n2 ≤ 1000) :
    Calls Try.prog 52 #[.slice (some ⟨b, 0, none⟩) 2 2] w fun e w' => ∃ bb cc, e = .returned (.slice bb (n1 + n2) cc) ∧ Own w' w.heap.size (.slice bb (n1 + n2) cc) (x ++ y) ∧ Below w.heap.size w w' := by
  have HX := Lib.hid hx
  have HY := Lib.hid hy
  have HLx := Lib.hid hx.len
  have HLy := Lib.hid hy.len
  have HC0 := Lib.hid hc0
  have HC1 := Lib.hid hc1
  clear hx hy
  go_enter Try.func52, Try.ntmps52
  go_wp2
  go_loop [3, 11] (fun sv iv => (iv = .int .i64 0 ∧ sv = .int .i64 0) ∨ (iv = .int .i64 1 ∧ sv = .int .i64 n1) ∨ (iv = .int .i64 2 ∧ sv = .int .i64 ((n1 + n2 : Nat) : Int))) (fun _ iv => 2 - (intOf iv).toNat)
  case atStart => exact .inl ⟨rfl, rfl⟩
  case round =>
    have k1 : ¬ (n1 : Int) < 0 := by omega
    have k2 : ¬ (n1 : Int) + (n2 : Int) < 0 := by omega
    rcases hrel with ⟨rfl, rfl⟩ | ⟨rfl, rfl⟩ | ⟨rfl, rfl⟩
    · go_wp2
      go_round
      case rel => exact .inr (.inl ⟨rfl, by go_num⟩)
      case measure => simp [intOf]
    · go_wp2
      go_round
      case rel => exact .inr (.inr ⟨rfl, by go_num⟩)
      case measure => simp [intOf]
    · go_wp2_with fail
      refine (growNil (n1 + n2) _ h0 hn).mono ?_
      rintro e w1 ⟨c, hcge, rfl, ho, hb⟩
      have HO := Lib.hid ho
      have HB := Lib.hid hb
      have hd0 := ck HC0.out hb
      have hd1 := ck HC1.out hb
      have HD0 := Lib.hid hd0
      have HD1 := Lib.hid hd1
      clear ho hb hc0 hc1 hd0 hd1
      go_wp2
      go_loopw [6, 27] (fun v iv wr => Hid (Below w.heap.size w wr) ∧ ((iv = .int .i64 0 ∧ v = .slice (some ⟨w.heap.size, 0, none⟩) 0 c ∧ Hid (Own wr w.heap.size v [])) ∨ (iv = .int .i64 1 ∧ ∃ b4 c4, v = .slice b4 n1 c4 ∧ Hid (Own wr w.heap.size v x)) ∨ (iv = .int .i64 2 ∧ ∃ b4 c4, v = .slice b4 (n1 + n2) c4 ∧ Hid (Own wr w.heap.size v (x ++ y))))) (fun _ iv _ => 2 - (intOf iv).toNat)
      case atStart => exact ⟨HB, .inl ⟨rfl, rfl, HO⟩⟩
      case round =>
        obtain ⟨HBr, ⟨rfl, rfl, HOr⟩ | ⟨rfl, b4, c4, rfl, HOr⟩ | ⟨rfl, b4, c4, rfl, HOr⟩⟩ := hrel
        · have hd0 := ck HC0.out HBr.out
          have HXr := Lib.hid (HX.out.below HBr.out)
          go_wp2_with (at_builtin; refine appendOwnI _ rfl (.tmp 31) (.tmp 32) rfl w.heap.size _ [] x rfl HOr.out (m := n1) rfl HXr.out (by simp) (by omega) HBr.out.size ?_)
          intro b5 c5 w5 ho5 hb5
          have HO5 : Hid (Own w5 w.heap.size (.slice b5 n1 c5) x) := ho5
          have HB5 := Lib.hid (HBr.out.trans hb5)
          clear ho5 hb5 hd0
          go_wp2
          go_roundw
          case rel => exact ⟨HB5, .inr (.inl ⟨rfl, _, _, rfl, HO5⟩)⟩
          case measure => simp [intOf]
        · have hd1 := ck HC1.out HBr.out
          have HYr := Lib.hid (HY.out.below HBr.out)
          go_wp2_with (at_builtin; refine appendOwnI _ rfl (.tmp 31) (.tmp 32) rfl w.heap.size _ x y rfl HOr.out (m := n1 + n2) rfl HYr.out (by have := HLx.out; omega) (by omega) HBr.out.size ?_)
          intro b5 c5 w5 ho5 hb5
          have HO5 := Lib.hid ho5
          have HB5 := Lib.hid (HBr.out.trans hb5)
          clear ho5 hb5 hd1
          go_wp2
          go_roundw
          case rel => exact ⟨HB5, .inr (.inr ⟨rfl, _, _, rfl, HO5⟩)⟩
          case measure => simp [intOf]
        · go_wp2
          go_ret
          exact ⟨_, _, rfl, HOr.out, HBr.out⟩
set_option maxRecDepth 100000 in
set_option maxHeartbeats 4000000 in
theorem multiply_ok (a : Option Addr) (n cap : Nat) (l : List Int) (a' : Option Addr) (n' cap' : Nat) (l' : List Int) (w : World) (h : Ints .i64 w a n l) (h' : Ints .i64 w a' n' l') (hp : M.isPoly l = true) (hp' : M.isPoly l' = true) :
    Calls Try.prog 18 #[.slice a n cap, .slice a' n' cap'] w (VRes (M.mulPRes l l') w) := by
  have HI := Lib.hid h
  have HI' := Lib.hid h'
  have HP := Lib.hid hp
  have HP' := Lib.hid hp'
  obtain ⟨p1, p2, p3, -⟩ := M.isPoly_t hp
  obtain ⟨q1, q2, q3, -⟩ := M.isPoly_t hp'
  rw [h.1] at p1 p2
  rw [h'.1] at q1 q2
  have HW : Hid (∀ i, i < n → Wid (l.getD i 0)) := fun i hi => wid_val (p3 i (by rw [h.1]; exact hi))
  have HW' : Hid (∀ i, i < n' → Wid (l'.getD i 0)) := fun i hi => wid_val (q3 i (by rw [h'.1]; exact hi))
  have HF : Hid ((M.partsL l l' n).foldl M.addL [] = M.mulP l l') := by show _ = _; rw [← h.1]; exact M.mul_fold hp hp'
  have HS : Hid (M.Steps (M.partsL l l' n)) := by show M.Steps _; rw [← h.1]; exact M.mul_steps hp hp'
  obtain ⟨vr, hvr⟩ : ∃ v, v = M.isPoly (M.mulP l l') := ⟨_, rfl⟩
  have HV := Lib.hid hvr.symm
  have HE : Hid (M.mulPRes l l' = if vr then (M.mulP l l', 0) else ([], 3)) := by show _ = _; unfold M.mulPRes; rw [hp, hp', hvr]; rfl
  clear h h' hp hp' p3 q3 hvr
  go_enter Try.func18, Try.ntmps18
  go_wp2_with fail
  refine (isPolynomial_b _ _ _ l _ true HP.out HI.out).mono ?_
  rintro e w' ⟨rfl, rfl⟩
  go_wp2_with fail
  refine (isPolynomial_b _ _ _ l' _ true HP'.out HI'.out).mono ?_
  rintro e w' ⟨rfl, rfl⟩
  go_wp2
  go_loopw [6, 19] (fun pv iv wr => ∃ (k : Nat) (b : Option Addr) (c : Nat), k ≤ n ∧ iv = .int .i64 k ∧ pv = .slice b k c ∧ Hid (OwnM wr w.heap.size (.slice b k c) (M.partsL l l' k)) ∧ Hid (Below w.heap.size w wr)) (fun _ iv _ => n - (intOf iv).toNat)
  case atStart => exact ⟨0, none, 0, Nat.zero_le _, rfl, rfl, ownM_nil _ _, Below.refl _ _⟩
  case round =>
    obtain ⟨k, b, c, hk, rfl, rfl, HO, HB⟩ := hrel
    obtain ⟨wo, rfl⟩ : ∃ x, x = wr := ⟨_, rfl⟩
    by_cases hlt : k < n
    · have hki : (k : Int) < (n : Int) := by omega
      obtain ⟨ib, io, x, rfl, -, hx, hcx⟩ := (HI.out.below HB.out).at k hlt
      have HWx : Hid (Wid x) := by show Wid _; rw [hx]; exact HW.out k hlt
      have HX := Lib.hid hx
      have HNx : Hid (M.partsL l l' (k + 1) = M.partsL l l' k ++ [((List.range k).map fun _ => -1000000000000000) ++ M.shvL l' x]) := by show _ = _; rw [M.partsL_next, hx]; rfl
      have HPl : Hid ((M.partsL l l' k).length = k) := M.partsL_len _ _ _
      clear hx
      go_wp2_with fail
      refine (missing k _ rfl (by omega) _).mono ?_
      rintro e w1 ⟨g1, -, rfl, ho1, hb1⟩
      have HO1 := Lib.hid ho1
      have HB1 := Lib.hid hb1
      clear ho1 hb1 hcx
      go_wp2_with fail
      refine (shiftedList _ _ _ l' x _ ((HI'.out.below HB.out).below HB1.out) (by omega) HW'.out HWx.out).mono ?_
      rintro e w2 ⟨b2, rfl, ho2, hb2⟩
      obtain ⟨g2, rfl, -, -⟩ := own_addr ho2 (by omega)
      have HO2 := Lib.hid ho2
      have HO1b := Lib.hid (HO1.out.below hb2)
      have HB2 := Lib.hid (HB1.out.trans (hb2.mono HB1.out.size))
      clear ho2 hb2 HO1
      obtain ⟨w3, hw3⟩ : ∃ w3, w3 = w2.alloc (.cells #[.slice (some ⟨g1, 0, none⟩) k k, .slice (some ⟨g2, 0, none⟩) n' n'] 24) := ⟨_, rfl⟩
      have HB3 : Hid (Below w2.heap.size w2 w3) := by show Below _ _ _; rw [hw3]; exact b_alloc _ _
      have HC0 : Hid (w3.cell? ⟨w2.heap.size, 0, none⟩ = some (.slice (some ⟨g1, 0, none⟩) k k)) := by show _ = _; rw [hw3]; simp
      have HC1 : Hid (w3.cell? ⟨w2.heap.size, 1, none⟩ = some (.slice (some ⟨g2, 0, none⟩) n' n')) := by show _ = _; rw [hw3]; simp
      go_wp2_with fail
      simp only [← hw3]
      clear hw3
      refine (concat2 w2.heap.size g1 k k g2 n' n' _ _ _ _ w3 (HO1b.out.below HB3.out) (HO2.out.below HB3.out) HC0.out HC1.out (by omega) (by omega)).mono ?_
      rintro e w4 ⟨b4, c4, rfl, ho4, hb4⟩
      have HB4 := Lib.hid ((HB2.out.trans (HB3.out.mono HB2.out.size)).trans (hb4.mono (HB2.out.trans (HB3.out.mono HB2.out.size)).size))
      have HO4 := Lib.hid (ho4.mono (B' := wo.heap.size) (HB2.out.trans (HB3.out.mono HB2.out.size)).size)
      clear ho4 hb4
      go_wp2_with (at_builtin; refine appendRow wo _ rfl (.tmp 24) (.tmp 32) rfl w.heap.size _ (.slice b4 (k + n') c4) (M.partsL l l' k) (((List.range k).map fun _ => -1000000000000000) ++ M.shvL l' x) k HPl.out rfl HO.out HB4.out HO4.out rfl (by have := HPl.out; omega) HB.out.size ?_)
      intro b5 c5 w5 ho5 hb5 _
      have HO5 : Hid (OwnM w5 w.heap.size (.slice b5 (k + 1) c5) (M.partsL l l' (k + 1))) := by show OwnM _ _ _ _; rw [HNx.out]; exact ho5
      have HB5 := Lib.hid ((HB.out.trans (HB4.out.mono HB.out.size)).trans hb5)
      clear ho5 hb5
      go_wp2
      go_roundw
      case rel => exact ⟨k + 1, b5, c5, by omega, by go_num, rfl, HO5, HB5⟩
      case measure => simp [intOf]; omega
    · obtain rfl : k = n := by omega
      go_wp2_with fail
      refine (addedLists _ _ _ (M.partsL l l' k) _ HO.out.mat p2 HS.out).mono ?_
      rintro e w1 ⟨b1, m1, c1, rfl, ho1, hb1⟩
      rw [HF.out] at ho1
      have HO1 := Lib.hid ho1
      have HB1 := Lib.hid (HB.out.trans (hb1.mono HB.out.size))
      have HO2 := Lib.hid (ho1.mono HB.out.size)
      clear ho1 hb1
      cases vr with
      | false =>
        go_wp2_with fail
        refine (checkedPoly_f _ _ _ (M.mulP l l') _ HV.out HO1.out.ints').mono ?_
        rintro e w' ⟨rfl, rfl⟩
        go_wp2
        go_ret2
        exact VRes.nil HE.out HB1.out
      | true =>
        go_wp2_with fail
        refine (checkedPoly_t _ _ _ (M.mulP l l') _ HV.out HO1.out.ints').mono ?_
        rintro e w' ⟨rfl, rfl⟩
        go_wp2
        go_ret2
        rw [HE.out]
        exact ⟨_, _, _, rfl, HO2.out, HB1.out⟩
end V
end Go.Proofs.Ytlljnfljcdljaaa
