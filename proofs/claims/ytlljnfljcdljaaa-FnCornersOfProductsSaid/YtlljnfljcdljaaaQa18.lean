/- Texts laid together: Plh. -/
import Derived.Test.YtlljnfljcdljaaaQa17
import Derived.Test.YtlljnfljcdljaaaQa3
set_option linter.unusedSimpArgs false
set_option linter.unusedVariables false
set_option linter.unusedSectionVars false
namespace Go.Proofs.Ytlljnfljcdljaaa
namespace M
def fullX (t : Nat → Nat) (v : Nat → Int) (n s x : Nat) : List Int := (List.range n).map fun m => if t s < m ∧ m < x then segV v (fun i => (t i : Int)) s m else fullF t v s m
def fullK (t : Nat → Nat) (v : Nat → Int) (n s : Nat) : List Int := (List.range n).map (fullF t v s)
theorem fullX_start (t : Nat → Nat) (v : Nat → Int) (n s : Nat) : fullX t v n s (t s + 1) = fullK t v n s := List.map_congr_left fun m _ => by rw [if_neg (by omega)]
theorem fullX_end (t : Nat → Nat) (v : Nat → Int) (n s : Nat) : fullX t v n s (t (s + 1) + 1) = fullK t v n (s + 1) := List.map_congr_left fun m _ => by
  rw [fullF]
  by_cases h : t s < m ∧ m ≤ t (s + 1)
  · rw [if_pos h, if_pos (by omega)]
  · rw [if_neg h, if_neg (by omega)]
theorem fullX_set (t : Nat → Nat) (v : Nat → Int) (n s x : Nat) (h : t s < x) : (fullX t v n s x).set x (segV v (fun i => (t i : Int)) s x) = fullX t v n s (x + 1) := by
  unfold fullX
  rw [map_set]
  refine List.map_congr_left fun m _ => ?_
  by_cases e : m = x
  · subst e; rw [if_pos rfl, if_pos (by omega)]
  · rw [if_neg e]
    by_cases e2 : t s < m ∧ m < x
    · rw [if_pos e2, if_pos (by omega)]
    · rw [if_neg e2, if_neg (by omega)]
theorem fullK_zero (t : Nat → Nat) (v : Nat → Int) (n : Nat) : (((List.range n).map fun _ => (-1000000000000000 : Int)).set (t 0) (v 0)) = fullK t v n 0 := by
  rw [map_set]
  exact List.map_congr_left fun m _ => by rw [fullF]
theorem fullK_len (t : Nat → Nat) (v : Nat → Int) (n s : Nat) : (fullK t v n s).length = n := by simp [fullK]
theorem fullRes_len (c : List Int) : (fullRes c).1.length ≤ 20 := by
  unfold fullRes
  cases h : isPoly c with
  | false => simp
  | true =>
    have := (isPoly_t h).2.1
    simp only [if_true]
    unfold fullL
    simp; omega
end M
namespace V
set_option maxRecDepth 100000
open Go.RowKit
theorem own_other {w : World} {B g i : Nat} {v x : Value} {l : List Int} (h : Own w B v l) (hg : g < B) : Own (w.setCell ⟨g, i, none⟩ x) B v l := h.keep fun k hk _ => Below.heap_setCell _ _ _ _ (by show k ≠ g; omega)
theorem own_ne {w : World} {B g i q c n : Nat} {x : Value} {l : List Int} (h : Own w B (.slice (some ⟨q, 0, none⟩) n c) l) (hg : q ≠ g) : Own (w.setCell ⟨g, i, none⟩ x) B (.slice (some ⟨q, 0, none⟩) n c) l :=
  ownsRow_keep h fun k hk => Below.heap_setCell _ _ _ _ (by have : q = k := by injection hk
                                                            show k ≠ g; omega)
theorem M.div_bd {a b : Int} (hb : 0 < b) (h1 : -1000000000 ≤ a) (h2 : a ≤ 1000000000) : -1000000000 ≤ a / b ∧ a / b ≤ 1000000000 := by
  have e := Int.mul_ediv_add_emod a b
  have r1 := Int.emod_nonneg a (show b ≠ 0 by omega)
  have r2 := Int.emod_lt_of_pos a hb
  constructor
  · exact Int.le_ediv_of_mul_le hb (by omega)
  · have : a / b < 1000000000 + 1 := Int.ediv_lt_of_lt_mul hb (by omega)
    omega
set_option maxRecDepth 100000 in
set_option maxHeartbeats 400000 in
theorem roundedDown (a b : Int) (w : World) (hb : 0 < b) (hb2 : b ≤ 1000) (h1 : -1000000000 ≤ a) (h2 : a ≤ 1000000000) :
    Calls Try.prog 76 #[.int .i64 a, .int .i64 b] w fun e w' => e = .returned (.int .i64 (a / b)) ∧ w = w' := by
  have hz : (b == 0) = false := by simp; omega
  have hz2 : ¬ b = 0 := by omega
  have t1 := M.tdiv_bdL a b 1000000000 h1 h2
  obtain ⟨t1, t2⟩ := t1
  have HF := Lib.hid (M.floor_eq (a := a) hb)
  by_cases hm : a.tmod b < 0
  · have HE : Hid (a.tdiv b - 1 = a / b) := by have := HF.out; rw [if_pos hm] at this; exact this
    go_enter Try.func76, Try.ntmps76
    go_wp2
    go_ret
    exact ⟨retI HE.out, rfl⟩
  · have HE : Hid (a.tdiv b = a / b) := by have := HF.out; rw [if_neg hm] at this; exact this
    go_enter Try.func76, Try.ntmps76
    go_wp2
    go_ret
    exact ⟨retI HE.out, rfl⟩
set_option maxRecDepth 100000 in
set_option maxHeartbeats 400000 in
theorem sFloor9 (a b : Int) (w : World) (hb : 0 < b) (hb2 : b ≤ 1000) (h1 : -1000000000 ≤ a) (h2 : a ≤ 1000000000) :
    Calls Try.prog 77 #[.int .i64 a, .int .i64 b] w fun e w' => e = .returned (.int .i64 (a / b)) ∧ w = w' := by
  have hz : (b == 0) = false := by simp; omega
  have hz2 : ¬ b = 0 := by omega
  have t1 := M.tdiv_bdL a b 1000000000 h1 h2
  obtain ⟨t1, t2⟩ := t1
  have HF := Lib.hid (M.floor_eq (a := a) hb)
  by_cases hm : a.tmod b < 0
  · have HE : Hid (a.tdiv b - 1 = a / b) := by have := HF.out; rw [if_pos hm] at this; exact this
    go_enter Try.func77, Try.ntmps77
    go_wp2
    go_ret
    exact ⟨retI HE.out, rfl⟩
  · have HE : Hid (a.tdiv b = a / b) := by have := HF.out; rw [if_neg hm] at this; exact this
    go_enter Try.func77, Try.ntmps77
    go_wp2
    go_ret
    exact ⟨retI HE.out, rfl⟩
set_option maxRecDepth 100000 in
set_option maxHeartbeats 4000000 in
theorem fullPolynomial_ok (a : Option Addr) (n cap : Nat) (l : List Int) (w : World) (h : Ints .i64 w a n l) (hp : M.isPoly l = true) :
    Calls Try.prog 33 #[.slice a n cap] w fun e w' => ∃ b c, e = .returned (.tuple #[.slice b n c, .int .i64 0]) ∧ Own w' w.heap.size (.slice b n c) (M.fullL l) ∧ Below w.heap.size w w' := by
  have HI := Lib.hid h
  have HP := Lib.hid hp
  have HLn := Lib.hid h.1
  obtain ⟨p1, p2, p3, -⟩ := M.isPoly_t hp
  rw [h.1] at p1 p2
  have HV : Hid (∀ i, i < n → M.isVal (l.getD i 0) = true) := fun i hi => p3 i (by rw [h.1]; exact hi)
  have hLp := M.tL_pos hp
  obtain ⟨T, hT⟩ : ∃ T, T = M.tL l := ⟨_, rfl⟩
  have HTi : Hid (∀ j, M.tI l j = T.getD j 0) := fun j => by rw [hT]; rfl
  have HTv : Hid (∀ j, M.tV l j = l.getD (T.getD j 0) 0) := fun j => by rw [hT]; rfl
  have HTlt : Hid (∀ j, j < T.length → T.getD j 0 < n) := fun j hj => by have := M.tL_lt (c := l) (j := j) (by rw [← hT]; exact hj); rw [h.1, ← hT] at this; exact this
  have HTinc : Hid (∀ i j, i < j → j < T.length → T.getD i 0 < T.getD j 0) := fun i j hij hj => by have := M.tL_inc (c := l) (i := i) (j := j) hij (by rw [← hT]; exact hj); rw [← hT] at this; exact this
  have HTf : Hid (∀ j, j < T.length → -1000000 ≤ l.getD (T.getD j 0) 0 ∧ l.getD (T.getD j 0) 0 ≤ 1000000) := fun j hj => by have := M.tL_fin hp (j := j) (by rw [← hT]; exact hj); rw [← hT] at this; exact this
  have HFL : Hid (M.fullL l = M.fullK (M.tI l) (M.tV l) n (T.length - 1)) := by show _ = _; unfold M.fullL M.fullK; rw [h.1, hT]
  obtain ⟨L, hL⟩ : ∃ L, T.length = L + 1 := ⟨T.length - 1, by rw [hT]; omega⟩
  have HL := Lib.hid hL
  have hL12 : L + 1 ≤ 12 := by have := M.tL_len l; rw [h.1, ← hT, hL] at this; omega
  rw [hL, Nat.add_sub_cancel] at HFL
  rw [hL] at HTlt HTinc HTf
  have HEs : Hid (∀ W, Below w.heap.size w W → Calls Try.prog 70 #[.slice a n cap] W fun e w' => ∃ b c, e = .returned (.slice b (L + 1) c) ∧ Own w' W.heap.size (.slice b (L + 1) c) (M.iL T) ∧ Below W.heap.size W w') := fun W hW => by
    have := essentialTerms a n cap l W (h.below hW) p2 (fun i hi => p3 i (by rw [h.1]; exact hi))
    rw [← hT, hL] at this; exact this
  clear h hp p3 hT hL hLp
  go_enter Try.func33, Try.ntmps33
  go_wp2_with fail
  refine (isPolynomial_b _ _ _ l _ true HP.out HI.out).mono ?_
  rintro e w' ⟨rfl, rfl⟩
  go_wp2_with fail
  refine (missing n _ rfl p2 _).mono ?_
  rintro e w1 ⟨gf, hgf, rfl, ho1, hb1⟩
  have hgf2 : gf < w1.heap.size := (own_lt ho1 rfl).2
  have HO1 := Lib.hid ho1
  have HB1 := Lib.hid hb1
  clear ho1 hb1
  go_wp2_with fail
  refine (HEs.out _ HB1.out).mono ?_
  rintro e w2 ⟨bt, ct, rfl, ho2, hb2⟩
  obtain ⟨gt, rfl, hgt1, hgt2⟩ := own_addr ho2 (Nat.succ_pos L)
  have HO2 := Lib.hid ho2
  have HB2 := Lib.hid (HB1.out.trans (hb2.mono HB1.out.size))
  have HF2 := Lib.hid (HO1.out.below hb2)
  have hct : L + 1 ≤ ct := by
    obtain ⟨a', c', hv, h1, -⟩ := own_form ho2
    injection hv with e1 e2 e3
    rw [M.iL_len] at h1 e2
    omega
  clear ho2 hb2 HO1
  obtain ⟨t0, ht0⟩ : ∃ t0, t0 = T.getD 0 0 := ⟨_, rfl⟩
  have hc0 : w2.cell? ⟨gt, 0, none⟩ = some (.int .i64 t0) := by
    have := HO2.out.cellAt 0 (Nat.succ_pos L)
    rw [M.iL_get (by have := HL.out; omega), ← ht0] at this; exact this
  have ht0n : t0 < n := by rw [ht0]; exact HTlt.out 0 (by omega)
  have ht0i : (t0 : Int) < (n : Int) := by omega
  obtain ⟨b, off, y, rfl, hbl, hy, hcy⟩ := HI.out.at t0 ht0n
  have hcy2 := (HB2.out.cell (p := ⟨b, off + t0, none⟩) hbl).trans hcy
  have hcf := HF2.out.cellAt t0 ht0n
  have hff := HF2.out.frozenAt t0
  have hFN := Own.set HF2.out t0 y
  have hy2 : y = M.tV l 0 := by rw [hy, HTv.out, ht0]
  have ht2 : t0 = M.tI l 0 := by rw [ht0, HTi.out]
  rw [hy2] at hFN
  have hFN2 : Own (w2.setCell ⟨gf, t0, none⟩ (.int .i64 y)) w.heap.size (.slice (some ⟨gf, 0, none⟩) n n) (M.fullK (M.tI l) (M.tV l) n 0) := by
    rw [← M.fullK_zero, ← ht2, hy2]; exact hFN
  have HFN := Lib.hid hFN2
  have HBN := Lib.hid (HB2.out.drew.setCell (p := ⟨gf, t0, none⟩) hgf (.int .i64 y))
  have HTN : Hid (Own (w2.setCell ⟨gf, t0, none⟩ (.int .i64 y)) w1.heap.size (.slice (some ⟨gt, 0, none⟩) (L + 1) ct) (M.iL T)) := own_other HO2.out hgf2
  have hL0 : (0 : Int) < ((L + 1 : Nat) : Int) := by omega
  have hL0' : (0 : Int) < (L : Int) + 1 := by omega
  clear hy hcy hFN hFN2 hy2 ht2 ht0
  go_wp2
  go_still_tail 11, (by kernel_rfl)
  change wpList _ _ _ _ _ w2.drew
  by_cases hc1 : ct = 1
  · have hL00 : L = 0 := by omega
    subst hc1
    subst hL00
    go_wp2
    go_loopw [32] (fun iv wr => iv = .int .i64 0 ∧ wr = w2.drew.setCell ⟨gf, t0, none⟩ (.int .i64 y)) (fun _ _ => 0)
    case atStart => exact ⟨rfl, rfl⟩
    case round =>
      obtain ⟨rfl, rfl⟩ := hrel
      go_wp2
      go_ret2
      rw [HFL.out]
      exact ⟨_, _, rfl, HFN.out.keep (fun _ _ _ => rfl), HBN.out⟩
  · go_wp2
    clear hcy2 hcf hff hc0 ht0i ht0n
    go_loopw [32] (fun iv wr => ∃ s : Nat, s ≤ L ∧ iv = .int .i64 s ∧ Hid (Own wr w.heap.size (.slice (some ⟨gf, 0, none⟩) n n) (M.fullK (M.tI l) (M.tV l) n s)) ∧ Hid (Own wr w1.heap.size (.slice (some ⟨gt, 0, none⟩) (L + 1) ct) (M.iL T)) ∧ Hid (Below w.heap.size w wr)) (fun iv _ => L - (intOf iv).toNat)
    case atStart => exact ⟨0, Nat.zero_le _, rfl, HFN.out.keep (fun _ _ _ => rfl), HTN.out.keep (fun _ _ _ => rfl), HBN⟩
    case round =>
      obtain ⟨s, hs, rfl, HFs, HTs, HBs⟩ := hrel
      obtain ⟨wo, rfl⟩ : ∃ x, x = wr := ⟨_, rfl⟩
      clear HFN HTN HBN
      by_cases hsl : s < L
      · have hsi : (s : Int) < (L : Int) := by omega
        have hsi2 : (s : Int) < (L : Int) + 1 := by omega
        obtain ⟨i, hi⟩ : ∃ i, i = T.getD s 0 := ⟨_, rfl⟩
        obtain ⟨k, hk⟩ : ∃ k, k = T.getD (s + 1) 0 := ⟨_, rfl⟩
        have hck : wo.cell? ⟨gt, 1 + s, none⟩ = some (.int .i64 k) := by
          have := HTs.out.cellAt (s + 1) (by omega)
          rw [M.iL_get (by have := HL.out; omega), ← hk, Nat.add_comm s 1] at this; exact this
        have hci : wo.cell? ⟨gt, s, none⟩ = some (.int .i64 i) := by
          have := HTs.out.cellAt s (by omega)
          rw [M.iL_get (by have := HL.out; omega), ← hi] at this; exact this
        have hik : i < k := by rw [hi, hk]; exact HTinc.out s (s + 1) (by omega) (by omega)
        have hkn : k < n := by rw [hk]; exact HTlt.out (s + 1) (by omega)
        have hfi := HTf.out s (by omega)
        have hfk := HTf.out (s + 1) (by omega)
        have Hti : Hid (M.tI l s = i) := by show _ = _; rw [HTi.out, hi]
        have Htk : Hid (M.tI l (s + 1) = k) := by show _ = _; rw [HTi.out, hk]
        obtain ⟨u, hu⟩ : ∃ u, u = l.getD i 0 := ⟨_, rfl⟩
        obtain ⟨v, hv⟩ : ∃ v, v = l.getD k 0 := ⟨_, rfl⟩
        have Htu : Hid (M.tV l s = u) := by show _ = _; rw [HTv.out, ← hi, hu]
        have Htv : Hid (M.tV l (s + 1) = v) := by show _ = _; rw [HTv.out, ← hk, hv]
        rw [← hi, ← hu] at hfi
        rw [← hk, ← hv] at hfk
        obtain ⟨hu1, hu2⟩ := hfi
        obtain ⟨hv1, hv2⟩ := hfk
        have HU := Lib.hid hu
        have HVv := Lib.hid hv
        have HX0 : Hid (Own wo w.heap.size (.slice (some ⟨gf, 0, none⟩) n n) (M.fullX (M.tI l) (M.tV l) n s (i + 1))) := by show Own _ _ _ _; rw [← Hti.out, M.fullX_start]; exact HFs.out
        have HXe : Hid (M.fullX (M.tI l) (M.tV l) n s (k + 1) = M.fullK (M.tI l) (M.tV l) n (s + 1)) := by show _ = _; rw [← Htk.out]; exact M.fullX_end _ _ _ _
        have HXs : Hid (∀ x : Nat, i < x → (M.fullX (M.tI l) (M.tV l) n s x).set x ((u * ((k : Int) - x) + v * ((x : Int) - i)) / ((k : Int) - i)) = M.fullX (M.tI l) (M.tV l) n s (x + 1)) := fun x hx => by
          rw [← M.fullX_set _ _ _ _ _ (show M.tI l s < x by rw [Hti.out]; exact hx)]
          show _ = (M.fullX (M.tI l) (M.tV l) n s x).set x ((M.tV l s * ((M.tI l (s + 1) : Int) - x) + M.tV l (s + 1) * ((x : Int) - M.tI l s)) / ((M.tI l (s + 1) : Int) - M.tI l s))
          rw [Htu.out, Htv.out, Hti.out, Htk.out]
        clear hi hk hu hv
        go_wp2
        clear hck hci
        go_loopw [9] (fun xv wr => ∃ x : Nat, i + 1 ≤ x ∧ x ≤ k + 1 ∧ xv = .int .i64 x ∧ Hid (Own wr w.heap.size (.slice (some ⟨gf, 0, none⟩) n n) (M.fullX (M.tI l) (M.tV l) n s x)) ∧ Hid (Own wr w1.heap.size (.slice (some ⟨gt, 0, none⟩) (L + 1) ct) (M.iL T)) ∧ Hid (Below w.heap.size w wr)) (fun xv _ => k + 1 - (intOf xv).toNat)
        case atStart => exact ⟨i + 1, Nat.le_refl _, by omega, by go_num, HX0, HTs, HBs⟩
        case round =>
          obtain ⟨x, hx1, hx2, rfl, HFx, HTx, HBx⟩ := hrel
          by_cases hxk : x ≤ k
          · have hxi : (x : Int) ≤ (k : Int) := by omega
            have hxn : (x : Int) < (n : Int) := by omega
            have hin : (i : Int) < (n : Int) := by omega
            have hkni : (k : Int) < (n : Int) := by omega
            have hix : (i : Int) < (x : Int) := by omega
            obtain ⟨b1, o1, u', hbb, -, hu', hcu⟩ := (HI.out.below HBx.out).at i (by omega)
            injection hbb with hbb
            injection hbb with e1 e2
            subst e1 e2
            obtain ⟨b2, o2, v', hbb, -, hv', hcv⟩ := (HI.out.below HBx.out).at k hkn
            injection hbb with hbb
            injection hbb with e1 e2
            subst e1 e2
            rw [← HU.out] at hu'
            rw [← HVv.out] at hv'
            subst hu' hv'
            obtain ⟨q1, q2⟩ := M.mul_bd9 (a := u') (b := (k : Int) - x) (by omega) (by omega) (by omega) (by omega)
            obtain ⟨r1, r2⟩ := M.mul_bd9 (a := v') (b := (x : Int) - i) (by omega) (by omega) (by omega) (by omega)
            have w1' : IntKind.i64.wrap ((k : Int) - x) = (k : Int) - x := IntWalk.i64_in _ (by omega)
            have w2' : IntKind.i64.wrap (u' * ((k : Int) - x)) = u' * ((k : Int) - x) := IntWalk.i64_in _ (by omega)
            have w3' : IntKind.i64.wrap ((x : Int) - i) = (x : Int) - i := IntWalk.i64_in _ (by omega)
            have w4' : IntKind.i64.wrap (v' * ((x : Int) - i)) = v' * ((x : Int) - i) := IntWalk.i64_in _ (by omega)
            have w5' : IntKind.i64.wrap (u' * ((k : Int) - x) + v' * ((x : Int) - i)) = u' * ((k : Int) - x) + v' * ((x : Int) - i) := IntWalk.i64_in _ (by omega)
            have w6' : IntKind.i64.wrap ((k : Int) - i) = (k : Int) - i := IntWalk.i64_in _ (by omega)
            obtain ⟨z, hz⟩ : ∃ z, z = (u' * ((k : Int) - x) + v' * ((x : Int) - i)) / ((k : Int) - i) := ⟨_, rfl⟩
            have hdb := M.div_bd (a := u' * ((k : Int) - x) + v' * ((x : Int) - i)) (b := (k : Int) - i) (by omega) (by omega) (by omega)
            have hC : ∀ w, Calls Try.prog 76 #[.int .i64 (u' * ((k : Int) - x) + v' * ((x : Int) - i)), .int .i64 ((k : Int) - i)] w fun e w' => e = .returned (.int .i64 z) ∧ w = w' := fun w => by rw [hz]; exact roundedDown _ _ w (by omega) (by omega) (by omega) (by omega)
            have HC := Lib.hid hC
            have hcx := HFx.out.cellAt x (by omega)
            have hfx := HFx.out.frozenAt x
            have hN := Own.set HFx.out x z
            rw [hz, HXs.out x (by omega), ← hz] at hN
            have HN := Lib.hid hN
            have HBn := Lib.hid (HBx.out.drew.setCell (p := ⟨gf, x, none⟩) hgf (.int .i64 z))
            have HTn : Hid (Own (wr.setCell ⟨gf, x, none⟩ (.int .i64 z)) w1.heap.size (.slice (some ⟨gt, 0, none⟩) (L + 1) ct) (M.iL T)) := own_other HTx.out hgf2
            clear hz hdb hC hN
            go_wp2
            go_still_tail 24, (by kernel_rfl)
            still_call (st_of (HC.out _))
            repeat still_step
            refine wpStill_nil ?_
            change wpList _ _ _ _ _ wr.drew
            go_wp2
            first
              | exact ⟨⟨x + 1, by omega, by omega, by go_num, HN.out.keep (fun _ _ _ => rfl), HTn.out.keep (fun _ _ _ => rfl), HBn⟩, by simp [intOf]; omega⟩
              | (go_roundw
                 case rel => exact ⟨x + 1, by omega, by omega, by go_num, HN.out.keep (fun _ _ _ => rfl), HTn.out.keep (fun _ _ _ => rfl), HBn⟩
                 case measure => simp [intOf]; omega)
          · obtain rfl : x = k + 1 := by omega
            have hxi : ¬ ((k + 1 : Nat) : Int) ≤ (k : Int) := by omega
            have hxi2 : ¬ (k : Int) + 1 ≤ (k : Int) := by omega
            have HFe : Hid (Own wr w.heap.size (.slice (some ⟨gf, 0, none⟩) n n) (M.fullK (M.tI l) (M.tV l) n (s + 1))) := by show Own _ _ _ _; rw [← HXe.out]; exact HFx.out
            go_wp2
            go_roundw
            case rel => exact ⟨s + 1, by omega, by go_num, HFe, HTx, HBx⟩
            case measure => simp [intOf]; omega
      · obtain rfl : s = L := by omega
        go_wp2
        go_ret2
        rw [HFL.out]
        exact ⟨_, _, rfl, HFs.out, HBs.out⟩
set_option maxRecDepth 100000 in
set_option maxHeartbeats 400000 in
theorem fullPolynomial (a : Option Addr) (n cap : Nat) (l : List Int) (w : World) (h : Ints .i64 w a n l) :
    Calls Try.prog 33 #[.slice a n cap] w (VRes (M.fullRes l) w) := by
  have HI := Lib.hid h
  obtain ⟨v1, hv1⟩ : ∃ v, v = M.isPoly l := ⟨_, rfl⟩
  have HV1 := Lib.hid hv1.symm
  cases v1 with
  | false =>
    have HE : Hid (M.fullRes l = ([], 1)) := by show _ = _; unfold M.fullRes; rw [← hv1]; rfl
    clear h hv1
    go_enter Try.func33, Try.ntmps33
    go_wp2_with fail
    refine (isPolynomial_b _ _ _ l _ false HV1.out HI.out).mono ?_
    rintro e w' ⟨rfl, rfl⟩
    go_wp2
    go_ret2
    exact VRes.nil HE.out (Below.refl _ _)
  | true =>
    have HE : M.fullRes l = (M.fullL l, 0) := by unfold M.fullRes; rw [← hv1]; rfl
    rw [HE]
    refine (fullPolynomial_ok a n cap l w h hv1.symm).mono ?_
    rintro e w' ⟨b, c, rfl, ho, hb⟩
    exact ⟨b, n, c, rfl, ho, hb⟩
set_option maxRecDepth 100000 in
set_option maxHeartbeats 4000000 in
theorem sFullPolynomial_ok (a : Option Addr) (n cap : Nat) (l : List Int) (w : World) (h : Ints .i64 w a n l) (hp : M.isPoly l = true) :
    Calls Try.prog 34 #[.slice a n cap] w fun e w' => ∃ b c, e = .returned (.tuple #[.slice b n c, .int .i64 0]) ∧ Own w' w.heap.size (.slice b n c) (M.fullL l) ∧ Below w.heap.size w w' := by
  have HI := Lib.hid h
  have HP := Lib.hid hp
  have HLn := Lib.hid h.1
  obtain ⟨p1, p2, p3, -⟩ := M.isPoly_t hp
  rw [h.1] at p1 p2
  have hLp := M.tL_pos hp
  obtain ⟨T, hT⟩ : ∃ T, T = M.tL l := ⟨_, rfl⟩
  have HTi : Hid (∀ j, M.tI l j = T.getD j 0) := fun j => by rw [hT]; rfl
  have HTv : Hid (∀ j, M.tV l j = l.getD (T.getD j 0) 0) := fun j => by rw [hT]; rfl
  have HTlt : Hid (∀ j, j < T.length → T.getD j 0 < n) := fun j hj => by have := M.tL_lt (c := l) (j := j) (by rw [← hT]; exact hj); rw [h.1, ← hT] at this; exact this
  have HTinc : Hid (∀ i j, i < j → j < T.length → T.getD i 0 < T.getD j 0) := fun i j hij hj => by have := M.tL_inc (c := l) (i := i) (j := j) hij (by rw [← hT]; exact hj); rw [← hT] at this; exact this
  have HTf : Hid (∀ j, j < T.length → -1000000 ≤ l.getD (T.getD j 0) 0 ∧ l.getD (T.getD j 0) 0 ≤ 1000000) := fun j hj => by have := M.tL_fin hp (j := j) (by rw [← hT]; exact hj); rw [← hT] at this; exact this
  have HFL : Hid (M.fullL l = M.fullK (M.tI l) (M.tV l) n (T.length - 1)) := by show _ = _; unfold M.fullL M.fullK; rw [h.1, hT]
  obtain ⟨L, hL⟩ : ∃ L, T.length = L + 1 := ⟨T.length - 1, by rw [hT]; omega⟩
  have HL := Lib.hid hL
  have hL12 : L + 1 ≤ 12 := by have := M.tL_len l; rw [h.1, ← hT, hL] at this; omega
  rw [hL, Nat.add_sub_cancel] at HFL
  rw [hL] at HTlt HTinc HTf
  have HEs : Hid (Calls Try.prog 73 #[.slice a n cap] w fun e w' => ∃ b c, e = .returned (.slice b (L + 1) c) ∧ Own w' w.heap.size (.slice b (L + 1) c) (M.iL T) ∧ Below w.heap.size w w') := by
    have := sTerms9 a n cap l w h p2 (fun i hi => p3 i (by rw [h.1]; exact hi))
    rw [← hT, hL] at this; exact this
  clear h hp p3 hT hL hLp
  go_enter Try.func34, Try.ntmps34
  go_wp2_with fail
  refine (sIsPolynomial_b _ _ _ l _ true HP.out HI.out).mono ?_
  rintro e w' ⟨rfl, rfl⟩
  go_wp2_with fail
  refine (HEs.out).mono ?_
  rintro e w1 ⟨bt, ct, rfl, ho1, hb1⟩
  obtain ⟨gt, rfl, hgt1, hgt2⟩ := own_addr ho1 (Nat.succ_pos L)
  have HO1 := Lib.hid ho1
  have HB1 := Lib.hid hb1
  clear ho1 hb1
  go_wp2_with fail
  refine (sBottom 1 n _ (by omega) (by omega)).mono ?_
  rintro e w2 ⟨am, cm, rfl, hom, hb2⟩
  obtain ⟨gm, ra, rc, rfl, hcm, hro⟩ := hom.row0 (by omega)
  have hrl : ((M.botM 1 n).getD 0 []) = (List.range n).map fun _ => -1000000000000000 := M.mk_row 1 n _ 0 (by omega)
  rw [hrl] at hcm hro
  have hrl2 : ((List.range n).map fun _ => (-1000000000000000 : Int)).length = n := by simp
  rw [hrl2] at hcm hro
  obtain ⟨gf, rfl, hgf1, hgf2⟩ := own_addr hro (by omega)
  have HF2 := Lib.hid hro
  have HO2 := Lib.hid (HO1.out.below hb2)
  have HB2 := Lib.hid (HB1.out.trans (hb2.mono HB1.out.size))
  have hgne : gt < w1.heap.size := hgt2
  clear hom hb2 hro hrl hrl2
  obtain ⟨t0, ht0⟩ : ∃ t0, t0 = T.getD 0 0 := ⟨_, rfl⟩
  have hc0 : w2.cell? ⟨gt, 0, none⟩ = some (.int .i64 t0) := by
    have := HO2.out.cellAt 0 (Nat.succ_pos L)
    rw [M.iL_get (by have := HL.out; omega), ← ht0] at this; exact this
  have ht0n : t0 < n := by rw [ht0]; exact HTlt.out 0 (by omega)
  have ht0i : (t0 : Int) < (n : Int) := by omega
  obtain ⟨b, off, y, rfl, hbl, hy, hcy⟩ := HI.out.at t0 ht0n
  have hcy2 := (HB2.out.cell (p := ⟨b, off + t0, none⟩) hbl).trans hcy
  have hcf := HF2.out.cellAt t0 ht0n
  have hff := HF2.out.frozenAt t0
  have hFN := Own.set HF2.out t0 y
  have hy2 : y = M.tV l 0 := by rw [hy, HTv.out, ht0]
  have ht2 : t0 = M.tI l 0 := by rw [ht0, HTi.out]
  rw [hy2] at hFN
  have hFN2 : Own (w2.setCell ⟨gf, t0, none⟩ (.int .i64 y)) w1.heap.size (.slice (some ⟨gf, 0, none⟩) n rc) (M.fullK (M.tI l) (M.tV l) n 0) := by
    rw [← M.fullK_zero, ← ht2, hy2]; exact hFN
  have HFN := Lib.hid hFN2
  have hgfw : w.heap.size ≤ gf := Nat.le_trans HB1.out.size hgf1
  have HBN := Lib.hid (HB2.out.drew.setCell (p := ⟨gf, t0, none⟩) hgfw (.int .i64 y))
  have HTN : Hid (Own (w2.setCell ⟨gf, t0, none⟩ (.int .i64 y)) w.heap.size (.slice (some ⟨gt, 0, none⟩) (L + 1) ct) (M.iL T)) := own_ne HO2.out (by omega)
  have hL0 : (0 : Int) < ((L + 1 : Nat) : Int) := by omega
  have hL0' : (0 : Int) < (L : Int) + 1 := by omega
  clear hy hcy hFN hFN2 hy2 ht2 ht0
  go_wp2
  clear hcm
  go_still_tail 11, (by kernel_rfl)
  change wpList _ _ _ _ _ w2.drew
  go_wp2
  clear hcy2 hcf hff hc0 ht0i ht0n
  go_loopw [6] (fun iv wr => ∃ s : Nat, s ≤ L ∧ iv = .int .i64 ((s + 1 : Nat) : Int) ∧ Hid (Own wr w1.heap.size (.slice (some ⟨gf, 0, none⟩) n rc) (M.fullK (M.tI l) (M.tV l) n s)) ∧ Hid (Own wr w.heap.size (.slice (some ⟨gt, 0, none⟩) (L + 1) ct) (M.iL T)) ∧ Hid (Below w.heap.size w wr)) (fun iv _ => L + 1 - (intOf iv).toNat)
  case atStart => exact ⟨0, Nat.zero_le _, rfl, HFN.out.keep (fun _ _ _ => rfl), HTN.out.keep (fun _ _ _ => rfl), HBN⟩
  case round =>
    obtain ⟨s, hs, rfl, HFs, HTs, HBs⟩ := hrel
    obtain ⟨wo, rfl⟩ : ∃ x, x = wr := ⟨_, rfl⟩
    clear HFN HTN HBN
    obtain ⟨s1, hs1⟩ : ∃ s1, s1 = s + 1 := ⟨_, rfl⟩
    rw [← hs1]
    by_cases hsl : s < L
    · have hsi : (s1 : Int) < ((L + 1 : Nat) : Int) := by omega
      have hsi1 : (s1 : Int) < (L : Int) + 1 := by omega
      have hsi2 : (s : Int) < (L : Int) + 1 := by omega
      have hsi3 : (s : Int) < ((L + 1 : Nat) : Int) := by omega
      have ews : IntKind.i64.wrap ((s1 : Int) - 1) = (s : Int) := by rw [IntWalk.i64_in _ (by omega)]; omega
      obtain ⟨i, hi⟩ : ∃ i, i = T.getD s 0 := ⟨_, rfl⟩
      obtain ⟨k, hk⟩ : ∃ k, k = T.getD s1 0 := ⟨_, rfl⟩
      have hck : wo.cell? ⟨gt, s1, none⟩ = some (.int .i64 k) := by
        have := HTs.out.cellAt s1 (by omega)
        rw [M.iL_get (by have := HL.out; omega), ← hk] at this; exact this
      have hci : wo.cell? ⟨gt, s, none⟩ = some (.int .i64 i) := by
        have := HTs.out.cellAt s (by omega)
        rw [M.iL_get (by have := HL.out; omega), ← hi] at this; exact this
      have hik : i < k := by rw [hi, hk]; exact HTinc.out s s1 (by omega) (by omega)
      have hkn : k < n := by rw [hk]; exact HTlt.out s1 (by omega)
      have hfi := HTf.out s (by omega)
      have hfk := HTf.out s1 (by omega)
      have Hti : Hid (M.tI l s = i) := by show _ = _; rw [HTi.out, hi]
      have Htk : Hid (M.tI l (s + 1) = k) := by show _ = _; rw [HTi.out, hk, hs1]
      obtain ⟨u, hu⟩ : ∃ u, u = l.getD i 0 := ⟨_, rfl⟩
      obtain ⟨v, hv⟩ : ∃ v, v = l.getD k 0 := ⟨_, rfl⟩
      have Htu : Hid (M.tV l s = u) := by show _ = _; rw [HTv.out, ← hi, hu]
      have Htv : Hid (M.tV l (s + 1) = v) := by show _ = _; rw [HTv.out, ← hs1, ← hk, hv]
      rw [← hi, ← hu] at hfi
      rw [← hk, ← hv] at hfk
      obtain ⟨hu1, hu2⟩ := hfi
      obtain ⟨hv1, hv2⟩ := hfk
      have HU := Lib.hid hu
      have HVv := Lib.hid hv
      have HS1 := Lib.hid hs1
      have HX0 : Hid (Own wo w1.heap.size (.slice (some ⟨gf, 0, none⟩) n rc) (M.fullX (M.tI l) (M.tV l) n s (i + 1))) := by show Own _ _ _ _; rw [← Hti.out, M.fullX_start]; exact HFs.out
      have HXe : Hid (M.fullX (M.tI l) (M.tV l) n s (k + 1) = M.fullK (M.tI l) (M.tV l) n (s + 1)) := by show _ = _; rw [← Htk.out]; exact M.fullX_end _ _ _ _
      have HXs : Hid (∀ x : Nat, i < x → (M.fullX (M.tI l) (M.tV l) n s x).set x ((u * ((k : Int) - x) + v * ((x : Int) - i)) / ((k : Int) - i)) = M.fullX (M.tI l) (M.tV l) n s (x + 1)) := fun x hx => by
        rw [← M.fullX_set _ _ _ _ _ (show M.tI l s < x by rw [Hti.out]; exact hx)]
        show _ = (M.fullX (M.tI l) (M.tV l) n s x).set x ((M.tV l s * ((M.tI l (s + 1) : Int) - x) + M.tV l (s + 1) * ((x : Int) - M.tI l s)) / ((M.tI l (s + 1) : Int) - M.tI l s))
        rw [Htu.out, Htv.out, Hti.out, Htk.out]
      clear hi hk hu hv hs1
      go_wp2
      go_quiet (fail)
      go_wp2
      clear hck hci
      go_loopw [9] (fun xv wr => ∃ x : Nat, i + 1 ≤ x ∧ x ≤ k + 1 ∧ xv = .int .i64 x ∧ Hid (Own wr w1.heap.size (.slice (some ⟨gf, 0, none⟩) n rc) (M.fullX (M.tI l) (M.tV l) n s x)) ∧ Hid (Own wr w.heap.size (.slice (some ⟨gt, 0, none⟩) (L + 1) ct) (M.iL T)) ∧ Hid (Below w.heap.size w wr)) (fun xv _ => k + 1 - (intOf xv).toNat)
      case atStart => exact ⟨i + 1, Nat.le_refl _, by omega, by go_num, HX0.out.keep (fun _ _ _ => rfl), HTs.out.keep (fun _ _ _ => rfl), below_drewN HBs.out _⟩
      case round =>
        obtain ⟨x, hx1, hx2, rfl, HFx, HTx, HBx⟩ := hrel
        by_cases hxk : x ≤ k
        · have hxi : (x : Int) ≤ (k : Int) := by omega
          have hxn : (x : Int) < (n : Int) := by omega
          have hin : (i : Int) < (n : Int) := by omega
          have hkni : (k : Int) < (n : Int) := by omega
          have hix : (i : Int) < (x : Int) := by omega
          obtain ⟨b1, o1, u', hbb, -, hu', hcu⟩ := (HI.out.below HBx.out).at i (by omega)
          injection hbb with hbb
          injection hbb with e1 e2
          subst e1 e2
          obtain ⟨b2, o2, v', hbb, -, hv', hcv⟩ := (HI.out.below HBx.out).at k hkn
          injection hbb with hbb
          injection hbb with e1 e2
          subst e1 e2
          rw [← HU.out] at hu'
          rw [← HVv.out] at hv'
          subst hu' hv'
          obtain ⟨q1, q2⟩ := M.mul_bd9 (a := u') (b := (k : Int) - x) (by omega) (by omega) (by omega) (by omega)
          obtain ⟨r1, r2⟩ := M.mul_bd9 (a := v') (b := (x : Int) - i) (by omega) (by omega) (by omega) (by omega)
          have w1' : IntKind.i64.wrap ((k : Int) - x) = (k : Int) - x := IntWalk.i64_in _ (by omega)
          have w2' : IntKind.i64.wrap (u' * ((k : Int) - x)) = u' * ((k : Int) - x) := IntWalk.i64_in _ (by omega)
          have w3' : IntKind.i64.wrap ((x : Int) - i) = (x : Int) - i := IntWalk.i64_in _ (by omega)
          have w4' : IntKind.i64.wrap (v' * ((x : Int) - i)) = v' * ((x : Int) - i) := IntWalk.i64_in _ (by omega)
          have w5' : IntKind.i64.wrap (u' * ((k : Int) - x) + v' * ((x : Int) - i)) = u' * ((k : Int) - x) + v' * ((x : Int) - i) := IntWalk.i64_in _ (by omega)
          have w6' : IntKind.i64.wrap ((k : Int) - i) = (k : Int) - i := IntWalk.i64_in _ (by omega)
          obtain ⟨z, hz⟩ : ∃ z, z = (u' * ((k : Int) - x) + v' * ((x : Int) - i)) / ((k : Int) - i) := ⟨_, rfl⟩
          have hC : ∀ w, Calls Try.prog 77 #[.int .i64 (u' * ((k : Int) - x) + v' * ((x : Int) - i)), .int .i64 ((k : Int) - i)] w fun e w' => e = .returned (.int .i64 z) ∧ w = w' := fun w => by rw [hz]; exact sFloor9 _ _ w (by omega) (by omega) (by omega) (by omega)
          have HC := Lib.hid hC
          have hcx := HFx.out.cellAt x (by omega)
          have hfx := HFx.out.frozenAt x
          have hN := Own.set HFx.out x z
          rw [hz, HXs.out x (by omega), ← hz] at hN
          have HN := Lib.hid hN
          have HBn := Lib.hid (HBx.out.drew.setCell (p := ⟨gf, x, none⟩) hgfw (.int .i64 z))
          have HTn : Hid (Own (wr.setCell ⟨gf, x, none⟩ (.int .i64 z)) w.heap.size (.slice (some ⟨gt, 0, none⟩) (L + 1) ct) (M.iL T)) := own_ne HTx.out (by omega)
          clear hz hC hN
          go_wp2
          go_still_tail 24, (by kernel_rfl)
          still_call (st_of (HC.out _))
          repeat still_step
          refine wpStill_nil ?_
          change wpList _ _ _ _ _ wr.drew
          go_wp2
          first
            | exact ⟨⟨x + 1, by omega, by omega, by go_num, HN.out.keep (fun _ _ _ => rfl), HTn.out.keep (fun _ _ _ => rfl), HBn⟩, by simp [intOf]; omega⟩
            | (go_roundw
               case rel => exact ⟨x + 1, by omega, by omega, by go_num, HN.out.keep (fun _ _ _ => rfl), HTn.out.keep (fun _ _ _ => rfl), HBn⟩
               case measure => simp [intOf]; omega)
        · obtain rfl : x = k + 1 := by omega
          have hxi : ¬ ((k + 1 : Nat) : Int) ≤ (k : Int) := by omega
          have hxi2 : ¬ (k : Int) + 1 ≤ (k : Int) := by omega
          have HFe : Hid (Own wr w1.heap.size (.slice (some ⟨gf, 0, none⟩) n rc) (M.fullK (M.tI l) (M.tV l) n s1)) := by show Own _ _ _ _; rw [HS1.out, ← HXe.out]; exact HFx.out
          go_wp2
          go_roundw
          case rel => exact ⟨s1, by have := HS1.out; omega, by go_num, HFe, HTx, HBx⟩
          case measure => simp [intOf]; omega
    · obtain rfl : s = L := by omega
      have hsi : ¬ (s1 : Int) < ((s + 1 : Nat) : Int) := by omega
      have hsi1 : ¬ (s1 : Int) < (s : Int) + 1 := by omega
      clear hs1
      go_wp2
      go_ret2
      rw [HFL.out]
      exact ⟨_, _, rfl, HFs.out.mono HB1.out.size, HBs.out⟩
set_option maxRecDepth 100000 in
set_option maxHeartbeats 400000 in
theorem sFullPolynomial (a : Option Addr) (n cap : Nat) (l : List Int) (w : World) (h : Ints .i64 w a n l) :
    Calls Try.prog 34 #[.slice a n cap] w (VRes (M.fullRes l) w) := by
  have HI := Lib.hid h
  obtain ⟨v1, hv1⟩ : ∃ v, v = M.isPoly l := ⟨_, rfl⟩
  have HV1 := Lib.hid hv1.symm
  cases v1 with
  | false =>
    have HE : Hid (M.fullRes l = ([], 1)) := by show _ = _; unfold M.fullRes; rw [← hv1]; rfl
    clear h hv1
    go_enter Try.func34, Try.ntmps34
    go_wp2_with fail
    refine (sIsPolynomial_b _ _ _ l _ false HV1.out HI.out).mono ?_
    rintro e w' ⟨rfl, rfl⟩
    go_wp2
    go_ret2
    exact VRes.nil HE.out (Below.refl _ _)
  | true =>
    have HE : M.fullRes l = (M.fullL l, 0) := by unfold M.fullRes; rw [← hv1]; rfl
    rw [HE]
    refine (sFullPolynomial_ok a n cap l w h hv1.symm).mono ?_
    rintro e w' ⟨b, c, rfl, ho, hb⟩
    exact ⟨b, n, c, rfl, ho, hb⟩
end V
end Go.Proofs.Ytlljnfljcdljaaa
