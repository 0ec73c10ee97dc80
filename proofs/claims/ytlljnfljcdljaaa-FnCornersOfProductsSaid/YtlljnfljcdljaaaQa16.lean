/- Texts laid together: Plf. -/
import Derived.Test.YtlljnfljcdljaaaQa15
import Derived.Test.YtlljnfljcdljaaaQa8
set_option linter.unusedSimpArgs false
set_option linter.unusedVariables false
set_option linter.unusedSectionVars false
namespace Go.Proofs.Ytlljnfljcdljaaa
namespace M
theorem terms_next {c : Nat → Int} {k : Nat} (h : c k ≠ -1000000000000000) : termsL c (k + 1) = (termsL c k).take (popN c (fun i => (termsL c k).getD i 0) k (termsL c k).length) ++ [k] := by rw [termsL, if_neg h]
theorem terms_skip {c : Nat → Int} {k : Nat} (h : c k = -1000000000000000) : termsL c (k + 1) = termsL c k := by rw [termsL, if_pos h]
theorem terms_next_len {c : Nat → Int} {k : Nat} (h : c k ≠ -1000000000000000) : (termsL c (k + 1)).length = popN c (fun i => (termsL c k).getD i 0) k (termsL c k).length + 1 := by
  have p1 := (popN_spec c (fun i => (termsL c k).getD i 0) k (termsL c k).length).1
  rw [terms_next h, List.length_append, List.length_take, Nat.min_eq_left p1]; rfl
theorem termRes_len (c : List Int) : (termRes c).1.length ≤ 20 := by
  unfold termRes
  cases h : isPoly c with
  | false => simp
  | true =>
    have := (isPoly_t h).2.1
    have := tL_len c
    simp only [if_true, iL_len]; omega
theorem mul_bd9 {a b : Int} (a1 : -2000000 ≤ a) (a2 : a ≤ 2000000) (b1 : 0 ≤ b) (b2 : b ≤ 12) : -24000000 ≤ a * b ∧ a * b ≤ 24000000 := by
  have e1 := Int.mul_le_mul_of_nonneg_right a2 b1
  have e2 := Int.mul_le_mul_of_nonneg_right a1 b1
  omega
/-- What the essential terms among the first k ask. -/
def Fin6 (l : List Int) (k : Nat) : Prop := ∀ j, j < (termsL (cf l) k).length → -1000000 ≤ l.getD ((termsL (cf l) k).getD j 0) 0 ∧ l.getD ((termsL (cf l) k).getD j 0) 0 ≤ 1000000
theorem fin6 {l : List Int} (hv : ∀ i, i < l.length → isVal (l.getD i 0) = true) {k : Nat} (hk : k ≤ l.length) : Fin6 l k := fun j hj => by
  have h1 := terms_nB (c := cf l) hj
  have h2 := isVal_t (hv _ (Nat.lt_of_lt_of_le (terms_lt (c := cf l) hj) hk))
  rcases h2 with h2 | h2
  · exact absurd h2 h1
  · exact h2
end M
namespace V
set_option maxRecDepth 100000
open Go.RowKit
theorem own_cut {w : World} {B g N c i : Nat} {l : List Int} (h : Own w B (.slice (some ⟨g, 0, none⟩) N c) l) (hi : i ≤ N) : Own w B (.slice (some ⟨g, 0, none⟩) i c) (l.take i) := by
  have e := h.len
  subst e
  have := ownsRow_cut (W := w) (B := B) (e := 2) (g := g) (N := l.length) (c := c) (i := i) h hi
  unfold Own
  rw [List.length_take, Nat.min_eq_left hi, List.map_take]
  exact this
set_option maxRecDepth 100000 in
set_option maxHeartbeats 2000000 in
theorem essentialTerms (a : Option Addr) (n cap : Nat) (l : List Int) (w : World) (h : Ints .i64 w a n l) (hn : n ≤ 12) (hv : ∀ i, i < n → M.isVal (l.getD i 0) = true) :
    Calls Try.prog 70 #[.slice a n cap] w fun e w' => ∃ b c, e = .returned (.slice b (M.tL l).length c) ∧ Own w' w.heap.size (.slice b (M.tL l).length c) (M.iL (M.tL l)) ∧ Below w.heap.size w w' := by
  have HI := Lib.hid h
  have HL := Lib.hid h.1
  have HV := Lib.hid hv
  have HF : Hid (∀ k, k ≤ n → M.Fin6 l k) := fun k hk => M.fin6 (by rw [h.1]; exact hv) (by rw [h.1]; exact hk)
  have HE : Hid (M.tL l = M.termsL (M.cf l) n) := by show _ = _; unfold M.tL; rw [h.1]
  clear h hv
  go_enter Try.func70, Try.ntmps70
  go_wp2
  go_loopw [3, 8] (fun tv iv wr => ∃ (k L : Nat) (b : Option Addr) (c : Nat), k ≤ n ∧ iv = .int .i64 k ∧ tv = .slice b L c ∧ Hid (L = (M.termsL (M.cf l) k).length) ∧ Hid (Own wr w.heap.size (.slice b L c) (M.iL (M.termsL (M.cf l) k))) ∧ Hid (Below w.heap.size w wr)) (fun _ iv _ => n - (intOf iv).toNat)
  case atStart => exact ⟨0, 0, none, 0, Nat.zero_le _, rfl, rfl, rfl, World.ownsRow_nil _ _ _ _, Below.refl _ _⟩
  case round =>
    obtain ⟨k, L, b, c, hk, rfl, rfl, HLn, HO, HB⟩ := hrel
    by_cases hlt : k < n
    · have hki : (k : Int) < (n : Int) := by omega
      obtain ⟨ib, io, y, rfl, -, hy, hcy⟩ := (HI.out.below HB.out).at k hlt
      have HY := Lib.hid hy
      by_cases hB : y = -1000000000000000
      · have HS : Hid (M.termsL (M.cf l) (k + 1) = M.termsL (M.cf l) k) := M.terms_skip (show l.getD k 0 = _ by rw [← hy]; exact hB)
        subst hB
        clear hy
        go_wp2
        go_roundw
        case rel => exact ⟨k + 1, L, b, c, by omega, by go_num, rfl, by show _ = _; rw [HS.out]; exact HLn.out, by show Own _ _ _ _; rw [HS.out]; exact HO.out, HB⟩
        case measure => simp [intOf]; omega
      · have hne : (y == -1000000000000000) = false := by simpa using hB
        have hne2 : (y != -1000000000000000) = true := by simpa using hB
        have hkB : M.cf l k ≠ -1000000000000000 := by show l.getD k 0 ≠ _; rw [← hy]; exact hB
        have HS := Lib.hid (M.terms_next hkB)
        have HSl := Lib.hid (M.terms_next_len hkB)
        have hyv := M.isVal_t (HV.out k hlt)
        have HW : Hid (Calls Try.prog 92 #[.slice (some ⟨ib, io, none⟩) n cap, .slice b L c, .int .i64 k] wr fun e w' => ∃ b' c', e = .returned (.slice b' ((M.termsL (M.cf l) (k + 1)).length) c') ∧ Own w' wr.heap.size (.slice b' ((M.termsL (M.cf l) (k + 1)).length) c') (M.iL (M.termsL (M.cf l) (k + 1))) ∧ Below wr.heap.size wr w') := by
          show Calls _ _ _ _ _
          rw [HSl.out, HS.out]
          exact withTerm (some ⟨ib, io, none⟩) n cap l b L c w.heap.size (M.termsL (M.cf l) k) k _ wr (HI.out.below HB.out) hn HO.out hlt (fun i j hij hj => M.terms_inc hij (by rw [← HLn.out]; exact hj)) (fun j hj => M.terms_lt (by rw [← HLn.out]; exact hj)) (fun j hj => HF.out k hk j (by rw [← HLn.out]; exact hj))
            (by rcases hyv with q | q
                · exact absurd q hkB
                · exact q) (by rw [HLn.out])
        clear hy hyv hkB hB
        go_wp2_with (go_at_call 92; refine (HW.out).mono ?_; rintro e w2 ⟨b2, c2, rfl, ho2, hb2⟩; have HO2 := Lib.hid (ho2.mono HB.out.size); have HB2 := Lib.hid (bnext HB.out hb2); clear ho2 hb2)
        go_roundw
        case rel => exact ⟨k + 1, _, b2, c2, by omega, by go_num, rfl, rfl, HO2, HB2⟩
        case measure => simp [intOf]; omega
    · obtain rfl : k = n := by omega
      go_wp2
      go_ret
      rw [HE.out, ← HLn.out]
      exact ⟨_, _, rfl, HO.out, HB.out⟩
set_option maxRecDepth 100000 in
set_option maxHeartbeats 1000000 in
theorem essentialTermsX (a : Option Addr) (n cap : Nat) (l : List Int) (w : World) (h : Ints .i64 w a n l) :
    Calls Try.prog 38 #[.slice a n cap] w (VRes (M.termRes l) w) := by
  have HI := Lib.hid h
  obtain ⟨v1, hv1⟩ : ∃ v, v = M.isPoly l := ⟨_, rfl⟩
  have HV1 := Lib.hid hv1.symm
  cases v1 with
  | false =>
    have HE : Hid (M.termRes l = ([], 1)) := by show _ = _; unfold M.termRes; rw [← hv1]; rfl
    clear h hv1
    go_enter Try.func38, Try.ntmps38
    go_wp2_with fail
    refine (isPolynomial_b _ _ _ l _ false HV1.out HI.out).mono ?_
    rintro e w' ⟨rfl, rfl⟩
    go_wp2
    go_ret2
    exact VRes.nil HE.out (Below.refl _ _)
  | true =>
    have HE : Hid (M.termRes l = (M.iL (M.tL l), 0)) := by show _ = _; unfold M.termRes; rw [← hv1]; rfl
    obtain ⟨-, p2, p3, -⟩ := M.isPoly_t hv1.symm
    rw [h.1] at p2
    have HV : Hid (∀ i, i < n → M.isVal (l.getD i 0) = true) := fun i hi => p3 i (by rw [h.1]; exact hi)
    clear h hv1 p3
    go_enter Try.func38, Try.ntmps38
    go_wp2_with fail
    refine (isPolynomial_b _ _ _ l _ true HV1.out HI.out).mono ?_
    rintro e w' ⟨rfl, rfl⟩
    go_wp2_with fail
    refine (essentialTerms _ _ _ l _ HI.out p2 HV.out).mono ?_
    rintro e w1 ⟨b1, c1, rfl, ho, hb⟩
    have HO := Lib.hid ho
    have HB := Lib.hid hb
    clear ho hb
    go_wp2
    go_ret2
    rw [HE.out]
    exact ⟨_, _, _, rfl, HO.out, HB.out⟩
set_option maxRecDepth 100000 in
set_option maxHeartbeats 4000000 in
theorem sTerms9 (a : Option Addr) (n cap : Nat) (l : List Int) (w : World) (h : Ints .i64 w a n l) (hn : n ≤ 12) (hv : ∀ i, i < n → M.isVal (l.getD i 0) = true) :
    Calls Try.prog 73 #[.slice a n cap] w fun e w' => ∃ b c, e = .returned (.slice b (M.tL l).length c) ∧ Own w' w.heap.size (.slice b (M.tL l).length c) (M.iL (M.tL l)) ∧ Below w.heap.size w w' := by
  have HI := Lib.hid h
  have HL := Lib.hid h.1
  have HV := Lib.hid hv
  have HF : Hid (∀ k, k ≤ n → M.Fin6 l k) := fun k hk => M.fin6 (by rw [h.1]; exact hv) (by rw [h.1]; exact hk)
  have HE : Hid (M.tL l = M.termsL (M.cf l) n) := by show _ = _; unfold M.tL; rw [h.1]
  clear h hv
  go_enter Try.func73, Try.ntmps73
  go_wp2
  go_loopw [3, 4] (fun tv iv wr => ∃ (k L g c : Nat), k ≤ n ∧ iv = .int .i64 k ∧ tv = .slice (some ⟨g, 0, none⟩) L c ∧ Hid (L = (M.termsL (M.cf l) k).length) ∧ Hid (Own wr w.heap.size (.slice (some ⟨g, 0, none⟩) L c) (M.iL (M.termsL (M.cf l) k))) ∧ Hid (Below w.heap.size w wr)) (fun _ iv _ => n - (intOf iv).toNat)
  case atStart => exact ⟨0, 0, w.heap.size, 0, Nat.zero_le _, rfl, rfl, rfl, own_lit0 w _ (Nat.le_refl _), b_alloc _ _⟩
  case round =>
    obtain ⟨k, L, g, c, hk, rfl, rfl, HLn, HO, HB⟩ := hrel
    obtain ⟨wo, rfl⟩ : ∃ y, y = wr := ⟨_, rfl⟩
    by_cases hlt : k < n
    · have hki : (k : Int) < (n : Int) := by omega
      obtain ⟨ib, io, z, rfl, hib, hz, hcz⟩ := HI.out.at k hlt
      have hczo := (HB.out.cell (p := ⟨ib, io + k, none⟩) hib).trans hcz
      have HY := Lib.hid hz
      by_cases hB : z = -1000000000000000
      · have HS : Hid (M.termsL (M.cf l) (k + 1) = M.termsL (M.cf l) k) := M.terms_skip (show l.getD k 0 = _ by rw [← hz]; exact hB)
        subst hB
        clear hz hcz
        go_wp2
        go_roundw
        case rel => exact ⟨k + 1, L, g, c, by omega, by go_num, rfl, by show _ = _; rw [HS.out]; exact HLn.out, by show Own _ _ _ _; rw [HS.out]; exact HO.out, HB⟩
        case measure => simp [intOf]; omega
      · have hne : (z == -1000000000000000) = false := by simpa using hB
        have hkB : M.cf l k ≠ -1000000000000000 := by show l.getD k 0 ≠ _; rw [← hz]; exact hB
        have HS := Lib.hid (M.terms_next hkB)
        have HSl := Lib.hid (M.terms_next_len hkB)
        have hzv : -1000000 ≤ z ∧ z ≤ 1000000 := by
          have := M.isVal_t (HV.out k hlt)
          rw [← hz] at this
          rcases this with q | q
          · exact absurd q hB
          · exact q
        obtain ⟨hz1, hz2⟩ := hzv
        have HFk := Lib.hid (HF.out k hk)
        have HT1 : Hid (∀ i j, i < j → j < L → (M.termsL (M.cf l) k).getD i 0 < (M.termsL (M.cf l) k).getD j 0) := fun i j hij hj => M.terms_inc hij (by rw [← HLn.out]; exact hj)
        have HT2 : Hid (∀ j, j < L → (M.termsL (M.cf l) k).getD j 0 < k) := fun j hj => M.terms_lt (by rw [← HLn.out]; exact hj)
        have hL12 : L ≤ 12 := by rw [HLn.out]; have := M.terms_len (M.cf l) k; omega
        obtain ⟨K, hK⟩ : ∃ K, K = M.popN (M.cf l) (fun i => (M.termsL (M.cf l) k).getD i 0) k (M.termsL (M.cf l) k).length := ⟨_, rfl⟩
        rw [← hK] at HS HSl
        have HKp : Hid (M.popN (M.cf l) (fun i => (M.termsL (M.cf l) k).getD i 0) k L = K) := by show _ = _; rw [HLn.out, hK]
        unfold M.Fin6 at HFk
        have HTL : Hid (L = (M.termsL (M.cf l) k).length) := HLn.out
        clear hz hcz hkB hB hK HLn
        generalize M.termsL (M.cf l) k = T at *
        have HIT : Hid ((M.iL T).length = L) := by show _ = _; rw [M.iL_len]; exact HTL.out.symm
        go_wp2
        clear hczo
        go_loopw [3] (fun tv wr => ∃ m, m ≤ L ∧ (0 < L → 0 < m) ∧ tv = .slice (some ⟨g, 0, none⟩) m c ∧ Hid (M.popN (M.cf l) (fun i => T.getD i 0) k m = K) ∧ Hid (Own wr w.heap.size (.slice (some ⟨g, 0, none⟩) m c) ((M.iL T).take m)) ∧ Hid (Below w.heap.size w wr)) (fun tv _ => match tv with | .slice _ m _ => m | _ => 0)
        case atStart => exact ⟨L, Nat.le_refl _, id, rfl, HKp, by show Own _ _ _ _; rw [List.take_of_length_le (Nat.le_of_eq HIT.out)]; exact HO.out, HB⟩
        case round =>
          obtain ⟨m, hm, hm0, rfl, HP, HOm, HBm⟩ := hrel
          have HITm : Hid (((M.iL T).take m).length = m) := by show _ = _; rw [List.length_take, HIT.out]; omega
          by_cases hm2 : m ≤ 1
          · have hx1 : ¬ (m : Int) > 1 := by omega
            have hKm : Hid (K = m) := by
              show _ = _
              rw [← HP.out]
              have : m = 0 ∨ m = 1 := by omega
              rcases this with rfl | rfl <;> rfl
            go_wp2_with (at_builtin; refine append1 _ rfl (.tmp 66) (.tmp 68) rfl w.heap.size _ ((M.iL T).take m) k m HITm.out rfl HOm.out rfl (by have := HITm.out; omega) HBm.out.size ?_)
            intro b6 c6 w6 ho6 hb6 _
            have HO6 := Lib.hid ho6
            have HB6 := Lib.hid (HBm.out.trans hb6)
            clear ho6 hb6
            obtain ⟨g6, rfl, -, -⟩ := own_addr HO6.out (Nat.succ_pos m)
            go_wp2
            go_roundw
            case rel => exact ⟨k + 1, m + 1, g6, c6, by omega, by go_num, rfl, by show _ = _; rw [HSl.out, hKm.out], by show Own _ _ _ _; have := HO6.out; rw [M.iL_take, ← hKm.out, ← HS.out, hKm.out] at this; exact this, HB6⟩
            case measure => simp [intOf]; omega
          · obtain ⟨r, hr⟩ : ∃ r, m = r + 2 := ⟨m - 2, by omega⟩
            obtain ⟨r1, hr1⟩ : ∃ r1, r1 = r + 1 := ⟨_, rfl⟩
            have hx1 : (m : Int) > 1 := by omega
            have ew2 : IntKind.i64.wrap ((m : Int) - 2) = (r : Int) := by rw [IntWalk.i64_in _ (by omega)]; omega
            have ew1 : IntKind.i64.wrap ((m : Int) - 1) = (r1 : Int) := by rw [IntWalk.i64_in _ (by omega)]; omega
            have HEx1 : Hid ((m : Int) - 1 = (r1 : Int)) := by show _ = _; omega
            have hrL : (r : Int) < (m : Int) := by omega
            have hrL1 : (r1 : Int) < (m : Int) := by omega
            obtain ⟨i, hi⟩ : ∃ i, i = T.getD r 0 := ⟨_, rfl⟩
            obtain ⟨j, hj⟩ : ∃ j, j = T.getD r1 0 := ⟨_, rfl⟩
            have hij : i < j := by rw [hi, hj]; exact HT1.out r r1 (by omega) (by omega)
            have hjk : j < k := by rw [hj]; exact HT2.out r1 (by omega)
            have hfi := HFk.out r (by have := HTL.out; omega)
            have hfj := HFk.out r1 (by have := HTL.out; omega)
            rw [← hi] at hfi
            rw [← hj] at hfj
            have hci : wr.cell? ⟨g, r, none⟩ = some (.int .i64 i) := by
              have := HOm.out.cellAt r (by omega)
              rw [List.getD_eq_getElem?_getD, List.getElem?_take_of_lt (by omega), ← List.getD_eq_getElem?_getD, M.iL_get (by have := HTL.out; omega), ← hi] at this; exact this
            have hcj : wr.cell? ⟨g, r1, none⟩ = some (.int .i64 j) := by
              have := HOm.out.cellAt r1 (by omega)
              rw [List.getD_eq_getElem?_getD, List.getElem?_take_of_lt (by omega), ← List.getD_eq_getElem?_getD, M.iL_get (by have := HTL.out; omega), ← hj] at this; exact this
            obtain ⟨xb, xo, x, hxa, -, hx, hcx⟩ := (HI.out.below HBm.out).at i (by omega)
            injection hxa with hxa
            injection hxa with e1 e2
            subst e1 e2
            obtain ⟨yb, yo, y, hya, -, hy, hcy⟩ := (HI.out.below HBm.out).at j (by omega)
            injection hya with hya
            injection hya with e1 e2
            subst e1 e2
            obtain ⟨zb, zo, z', hza, -, hz', hcz⟩ := (HI.out.below HBm.out).at k hlt
            injection hza with hza
            injection hza with e1 e2
            subst e1 e2
            have hzz : z' = z := hz'.trans HY.out.symm
            subst hzz
            rw [← hx] at hfi
            rw [← hy] at hfj
            obtain ⟨hx1', hx2'⟩ := hfi
            obtain ⟨hy1', hy2'⟩ := hfj
            have hkn : k ≤ 12 := by omega
            obtain ⟨p1, p2⟩ := M.mul_bd9 (a := y - x) (b := (k : Int) - j) (by omega) (by omega) (by omega) (by omega)
            obtain ⟨q1, q2⟩ := M.mul_bd9 (a := z' - y) (b := (j : Int) - i) (by omega) (by omega) (by omega) (by omega)
            have w1 : IntKind.i64.wrap (y - x) = y - x := IntWalk.i64_in _ (by omega)
            have w2 : IntKind.i64.wrap ((k : Int) - j) = (k : Int) - j := IntWalk.i64_in _ (by omega)
            have w3 : IntKind.i64.wrap ((y - x) * ((k : Int) - j)) = (y - x) * ((k : Int) - j) := IntWalk.i64_in _ (by omega)
            have w4 : IntKind.i64.wrap (z' - y) = z' - y := IntWalk.i64_in _ (by omega)
            have w5 : IntKind.i64.wrap ((j : Int) - i) = (j : Int) - i := IntWalk.i64_in _ (by omega)
            have w6 : IntKind.i64.wrap ((z' - y) * ((j : Int) - i)) = (z' - y) * ((j : Int) - i) := IntWalk.i64_in _ (by omega)
            have hin : (i : Int) < (n : Int) := by omega
            have hjn : (j : Int) < (n : Int) := by omega
            have HCr : Hid (M.popN (M.cf l) (fun i => T.getD i 0) k m = if M.crit (M.cf l) i j k then m else M.popN (M.cf l) (fun i => T.getD i 0) k r1) := by rw [hr, hi, hj, hr1]; rfl
            have HCt : Hid (M.crit (M.cf l) i j k ↔ (z' - y) * ((j : Int) - i) < (y - x) * ((k : Int) - j)) := by
              show _ ↔ _
              unfold M.crit M.cf
              rw [← hx, ← hy, ← hz']
            have HR1 := Lib.hid hr1
            have HRr := Lib.hid hr
            clear hi hj hx hy hz' hr hr1
            by_cases hc : M.crit (M.cf l) i j k
            · have hgt := HCt.out.1 hc
              have HKr : Hid (K = m) := by show _ = _; rw [← HP.out, HCr.out, if_pos hc]
              clear hc
              go_wp2
              go_quiet (fail)
              go_wp2
              go_quiet (fail)
              go_wp2_with (at_builtin; refine append1 _ rfl (.tmp 66) (.tmp 68) rfl w.heap.size _ ((M.iL T).take m) k m HITm.out rfl (by exact HOm.out) rfl (by have := HITm.out; omega) (by exact HBm.out.size) ?_)
              intro b6 c6 w6 ho6 hb6 _
              have HO6 := Lib.hid ho6
              have HB6 : Hid (Below w.heap.size w w6) := by first | exact (below_drewN HBm.out _).trans hb6 | exact (below_drewN (below_drewN HBm.out _) _).trans hb6
              clear ho6 hb6
              obtain ⟨g6, rfl, -, -⟩ := own_addr HO6.out (Nat.succ_pos m)
              go_wp2
              go_roundw
              case rel => exact ⟨k + 1, m + 1, g6, c6, by omega, by go_num, rfl, by show _ = _; rw [HSl.out, HKr.out], by show Own _ _ _ _; have := HO6.out; rw [M.iL_take, ← HKr.out, ← HS.out, HKr.out] at this; exact this, HB6⟩
              case measure => simp [intOf]; omega
            · have hgt : ¬ (z' - y) * ((j : Int) - i) < (y - x) * ((k : Int) - j) := fun q => hc (HCt.out.2 q)
              have HKr : Hid (M.popN (M.cf l) (fun i => T.getD i 0) k r1 = K) := by show _ = _; rw [← HP.out, HCr.out, if_neg hc]
              have hr1c : (r1 : Int) ≤ (c : Int) := by
                obtain ⟨a', c', hv, h1, -⟩ := own_form HOm.out
                injection hv with e1 e2 e3
                have := HITm.out
                omega
              clear hc
              go_wp2
              go_quiet (fail)
              go_wp2
              go_quiet (fail)
              have ex1 := HEx1.out
              have HOc : Hid (Own wr w.heap.size (.slice (some ⟨g, 0, none⟩) r1 c) ((M.iL T).take r1)) := by
                have := own_cut HOm.out (i := r1) (by omega)
                rw [List.take_take, Nat.min_eq_left (by omega)] at this
                exact this
              go_wp2
              go_roundw
              case rel => exact ⟨r1, by omega, fun _ => by have := HR1.out; omega, rfl, HKr, by exact HOc.out, by first | exact below_drewN HBm.out _ | exact below_drewN (below_drewN HBm.out _) _⟩
              case measure => first | omega | (simp; omega)
    · obtain rfl : k = n := by omega
      go_wp2
      go_ret
      rw [HE.out, ← HLn.out]
      exact ⟨_, _, rfl, HO.out, HB.out⟩
end V
end Go.Proofs.Ytlljnfljcdljaaa
