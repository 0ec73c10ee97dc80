/- Texts laid together: Sev, ReaZ, Eig, Cpe, Egs. -/
import Derived.Test.YtcofjjipjcekjaaGreatQy10
import Derived.Test.YtcofjjipjcekjaaGreatQy4
import Derived.Test.YtcofjjipjcekjaaGreatQy6
import Derived.Test.YtcofjjipjcekjaaGreatQy3
set_option linter.unusedSimpArgs false
set_option linter.unusedVariables false
set_option linter.unusedSectionVars false
namespace Go.Proofs.YtcofjjipjcekjaaGreat
namespace V
set_option maxRecDepth 100000
open Go.RowKit
set_option maxRecDepth 100000 in
set_option maxHeartbeats 4000000 in
theorem sEigenVector (a : Option Addr) (n cap : Nat) (R : List (List Int)) (w : World) (h : Mat w a n R) :
    Calls Tryz.prog 7 #[.slice a n cap] w (EPost (M.eigRes R) w) := by
  have HA := Lib.hid h
  have hRn : R.length = n := h.1
  have HRn := Lib.hid hRn
  have HB0 : Hid (Below w.heap.size w (w.alloc (.cells #[.int .i64 0, .int .i64 0] 28))) := b_alloc _ _
  by_cases hc : (M.cycMeanRes R).2 = 0
  · obtain ⟨c, L, hs, hcyc, hnear, hp, hq, hcl, hvx, hov⟩ := M.eig_t hc
    have hE : M.eigRes R = M.eigOk R := by unfold M.eigRes; rw [if_pos hc]
    have hcm := (M.cyc_t hc).2.2.2
    have hrow := M.eig_row hcl hvx
    unfold M.stcM at hrow
    rw [hRn] at hcyc hnear hp hcl hov hcm hrow
    obtain ⟨hr, n1, n2, hsm⟩ := sq_parts h hs
    have HR := Lib.hid hr
    have HSm := Lib.hid hsm
    have HQ := Lib.hid (sq_of h hs)
    obtain ⟨r, hrr⟩ : ∃ r, r = M.bestR (M.ent R) n := ⟨_, rfl⟩
    have hOk : M.eigOk R = if M.isVec (M.eigL R) then (M.eigL R, r, 0) else ([], (0, 0), 3) := by unfold M.eigOk; rw [hRn, hrr]
    rw [← hrr] at hnear hp hov hcm hrow
    have HNear := Lib.hid hnear
    have HP := Lib.hid hp
    have HSs := Lib.hid hs
    have HB2 : Hid (M.best2 R = M.bestCyc R) := by show _ = _; unfold M.best2; rw [hRn, hcyc, if_pos rfl]
    have HOv := Lib.hid hov
    have HCm := Lib.hid hcm
    have HRow := Lib.hid hrow
    have HQq := Lib.hid hq
    obtain ⟨r1, r2⟩ := r
    have HBm : Hid (∀ i j, i < n → j < n → M.Sm 1000001000000 (M.bestF (M.shf (M.ent R) r1 r2) n i j)) := fun i j hi hj => by
      unfold M.bestF
      split
      · exact M.sh_sm HSm.out HNear.out i j hi hj
      · exact .inl rfl
    obtain ⟨l, hl⟩ : ∃ l, l = M.eigL R := ⟨_, rfl⟩
    obtain ⟨bv, hbv⟩ : ∃ b, b = M.isVec l := ⟨_, rfl⟩
    have HV := Lib.hid hbv.symm
    have hll : l.length = n := by rw [hl, M.eigL_len, hRn]
    have HLl := Lib.hid hll
    have HE : Hid (M.eigRes R = if bv then (l, (r1, r2), 0) else ([], (0, 0), 3)) := by show _ = _; rw [hE, hOk, ← hl, ← hbv]
    rw [← hl] at HRow
    have hci : (c : Int) < (n : Int) := by omega
    clear hRn h hc hs hcyc hnear hp hq hvx hov hE hcm hrow hr hsm hrr hOk hl hbv hll
    go_enter Tryz.func7, Tryz.ntmps7
    go_wp2_with fail
    refine (sCycleMean _ _ _ R _ (HA.out.below HB0.out)).mono ?_
    rintro e w1 ⟨rfl, hb⟩
    rw [HCm.out]
    have HB1 := Lib.hid hb
    clear hb
    obtain ⟨wb, hwb⟩ : ∃ x, x = w1.alloc (rbox r1 r2) := ⟨_, rfl⟩
    have HX : Hid (Boxed w1 wb r1 r2) := by show Boxed _ _ _ _; rw [hwb]; exact boxed _ _ _
    have HBx := Lib.hid (HB1.out.trans (HX.out.below.mono HB1.out.size))
    have HBy := Lib.hid (HB0.out.trans (HBx.out.mono HB0.out.size))
    go_wp2_with fail
    change Calls _ _ _ (w1.alloc (rbox r1 r2)) _
    rw [← hwb]
    clear hwb
    refine (sBest _ _ _ R _ (HA.out.below HBy.out) HSs.out).mono ?_
    rintro e w4 ⟨b4, n4, c4, rfl, ho, hb⟩
    rw [HB2.out, HQq.out] at ho
    obtain ⟨cb, co, x0, rfl, hcb, hx0, cx0⟩ := ho.ints'.at 0 (by rw [ho.len]; simp)
    have hn4 : 0 < n4 := by rw [ho.len]; simp
    rw [Nat.add_zero] at cx0
    have hx1 : x0 = (c : Int) := hx0
    clear hx0
    subst hx1
    have HB4 := Lib.hid hb
    clear ho hb
    obtain ⟨p0, p1⟩ := HX.out.cells HB4.out
    go_wp2_with fail
    refine (sShift _ _ _ R r1 r2 _ (HA.out.below (HBy.out.trans (HB4.out.mono HBy.out.size))) HR.out n1 n2 HSm.out HNear.out).mono ?_
    rintro e w5 ⟨b5, c5, rfl, ho, hb⟩
    have HSq5 : Hid (Sq w5 b5 n (M.mk n n (M.shf (M.ent R) r1 r2))) := ⟨ho.mat, rect_mk _ _ _, fun i j hi hj => by rw [M.ent_mk _ _ _ _ _ hi hj]; exact M.sh_sm HSm.out HNear.out i j hi hj, n1, n2⟩
    have HB5 := Lib.hid (HB4.out.trans (hb.mono HB4.out.size))
    have hcx5 := (hb.cell (p := ⟨cb, co, none⟩) (cell_lt cx0)).trans cx0
    have hcb5 : cb < w5.heap.size := Nat.lt_of_lt_of_le (cell_lt cx0) hb.size
    clear ho hb cx0 p0 p1
    go_wp2_with fail
    refine (sStar _ _ _ (M.mk n n (M.shf (M.ent R) r1 r2)) _ HSq5.out).mono ?_
    rintro e w6 ⟨b6, c6, rfl, ho, hb⟩
    have hnp : M.noPos (M.ent (M.mk n n (M.shf (M.ent R) r1 r2))) n = true := by rw [M.noPos_mk]; exact HP.out
    rw [M.bm_star n2 HSq5.out.2.2.1 hnp, M.starM_mk] at ho
    rw [hnp]
    clear hnp
    obtain ⟨m6, hm6⟩ : ∃ m6, m6 = n := ⟨_, rfl⟩
    subst hm6
    have HO6 := Lib.hid ho
    have HB6 := Lib.hid (HB5.out.trans (hb.mono HB5.out.size))
    have cx6 := (hb.cell (p := ⟨cb, co, none⟩) hcb5).trans hcx5
    have hcb6 : cb < w6.heap.size := Nat.lt_of_lt_of_le hcb5 hb.size
    clear ho hb hcx5 hcb5
    go_wp2
    go_region_with (go_at_call 32; refine (sTurn _ _ _ m6 (M.mk m6 m6 (M.starF (M.shf (M.ent R) r1 r2) m6)) _ (HO6.out.mat.below (below_drewN (Below.refl _ _) _)) (rect_mk _ _ _) n1 n2 n1 n2).mono ?_; rintro e w7 ⟨b7, c7, rfl, ho, hb⟩; obtain ⟨g7, ra7, rc7, rfl, hcr7, hro7⟩ := ho.row c hcl; rw [HRow.out, HLl.out] at hcr7 hro7; have cx7 := (hb.cell (p := ⟨cb, co, none⟩) hcb6).trans cx6; have HO7 := Lib.hid hro7; have HB7 := Lib.hid ((below_drewN (Below.refl w6.heap.size w6) _).trans hb); clear hro7 ho hb)
    all_goals
      have HB8 := Lib.hid (HBx.out.trans ((HB6.out.trans (HB7.out.mono HB6.out.size)).mono HBx.out.size))
      have HX7 := HX.out.cells (HB6.out.trans (HB7.out.mono HB6.out.size))
      obtain ⟨p0, p1⟩ := HX7
      have hz8 := HB8.out.size
      simp at hz8
      obtain ⟨hcc, hff⟩ := bcell HB8.out
      have z1 : w.heap.size < w7.heap.size := by omega
      have hlt6 : w.heap.size < w6.heap.size := by have h1 := HB6.out.size; have h2 := HBx.out.size; simp at h2; omega
      have hlo : w.heap.size ≤ w6.heap.size := by omega
      cases bv with
      | false =>
        go_wp2_with fail
        refine (sVector_b _ _ _ l _ false HV.out HO7.out.ints').mono ?_
        rintro e w' ⟨rfl, rfl⟩
        go_wp2
        exact bodyPost_ret (v := .tuple #[.slice none 0 0, .agg #[.int .i64 0, .int .i64 0], .int .i64 3]) (by simp [results, Tryz.results7, go_sem, z1, hcc]) rfl (EPost.nil HE.out (bel1s HB8.out))
      | true =>
        go_wp2_with fail
        refine (sVector_b _ _ _ l _ true HV.out HO7.out.ints').mono ?_
        rintro e w' ⟨rfl, rfl⟩
        go_wp2
        go_region
        all_goals (try go_wp2)
        all_goals
          exact bodyPost_ret (v := .tuple #[.slice ra7 m6 rc7, .agg #[.int .i64 r1, .int .i64 r2], .int .i64 0]) (by simp [results, Tryz.results7, go_sem, z1, hcc]) rfl (by
            rw [HE.out]
            refine ⟨ra7, m6, rc7, rfl, (HO7.out.keep fun k k1 _ => ?_).mono hlo, by first | exact bel1s HB8.out | exact bel1s (below_drewN HB8.out 1)⟩
            have k2 : w6.heap.size ≤ k := k1
            exact (Below.heap_setCell _ _ _ k (by show k ≠ w.heap.size; omega)).trans (Below.heap_setCell _ _ _ k (by show k ≠ w.heap.size; omega)))
  · have HE : Hid (M.eigRes R = ([], (0, 0), (M.cycMeanRes R).2)) := by show _ = _; unfold M.eigRes; rw [if_neg hc]
    obtain ⟨r, hr⟩ : ∃ r, r = M.cycMeanRes R := ⟨_, rfl⟩
    rw [← hr] at hc HE
    have HR := Lib.hid hr.symm
    obtain ⟨⟨r1, r2⟩, r3⟩ := r
    have hr3 : (r3 != 0) = true := by simpa using hc
    clear h hc hr
    go_enter Tryz.func7, Tryz.ntmps7
    go_wp2_with fail
    refine (sCycleMean _ _ _ R _ (HA.out.below HB0.out)).mono ?_
    rintro e w1 ⟨rfl, hb⟩
    rw [HR.out]
    have hz := hb.size
    simp at hz
    obtain ⟨hcc, hff⟩ := bcell hb
    have z1 : w.heap.size < w1.heap.size := by omega
    go_wp2
    exact bodyPost_ret (v := .tuple #[.slice none 0 0, .agg #[.int .i64 0, .int .i64 0], .int .i64 r3]) (by simp [results, Tryz.results7, go_sem, z1, hcc]) rfl (EPost.nil HE.out ((bel1s hb).alloc (bel1s hb).size _))
end V
end Go.Proofs.YtcofjjipjcekjaaGreat

namespace Go.Proofs.YtcofjjipjcekjaaGreat
namespace M
/-- The node v reaches i. -/
def Rch (A : Nat → Nat → Int) (n v i : Nat) : Prop :=
  ∃ (t : Nat) (x : Nat → Nat), x 0 = v ∧ x t = i ∧ (∀ u, u ≤ t → x u < n) ∧ ∀ u, u < t → A (x (u + 1)) (x u) ≠ -1000000000000000
/-- By at most r arcs. -/
def RcN (A : Nat → Nat → Int) (n v r i : Nat) : Prop :=
  ∃ (t : Nat) (x : Nat → Nat), t ≤ r ∧ x 0 = v ∧ x t = i ∧ (∀ u, u ≤ t → x u < n) ∧ ∀ u, u < t → A (x (u + 1)) (x u) ≠ -1000000000000000
variable {A : Nat → Nat → Int} {n : Nat}
theorem Rch.of {v r i : Nat} (h : RcN A n v r i) : Rch A n v i := by
  obtain ⟨t, x, -, h⟩ := h
  exact ⟨t, x, h⟩
theorem rch_self {v : Nat} (hv : v < n) : Rch A n v v := ⟨0, fun _ => v, rfl, rfl, fun _ _ => hv, fun u hu => absurd hu (Nat.not_lt_zero u)⟩
theorem rcn_self {v : Nat} (hv : v < n) (r : Nat) : RcN A n v r v := ⟨0, fun _ => v, Nat.zero_le _, rfl, rfl, fun _ _ => hv, fun u hu => absurd hu (Nat.not_lt_zero u)⟩
theorem Rch.lt {v i : Nat} (h : Rch A n v i) : v < n ∧ i < n := by
  obtain ⟨t, x, h1, h2, h3, -⟩ := h
  exact ⟨by rw [← h1]; exact h3 0 (Nat.zero_le _), by rw [← h2]; exact h3 t (Nat.le_refl _)⟩
theorem rcn_step {v r k i : Nat} (h : RcN A n v r k) (hi : i < n) (ha : A i k ≠ -1000000000000000) : RcN A n v (r + 1) i := by
  obtain ⟨t, x, h0, h1, h2, h3, h4⟩ := h
  refine ⟨t + 1, fun u => if u ≤ t then x u else i, by omega, ?_, ?_, ?_, ?_⟩
  · show (if 0 ≤ t then x 0 else i) = v
    rw [if_pos (Nat.zero_le _), h1]
  · show (if t + 1 ≤ t then _ else i) = i
    rw [if_neg (by omega)]
  · intro u hu
    show (if u ≤ t then x u else i) < n
    split
    · next h => exact h3 u h
    · exact hi
  · intro u hu
    show A (if u + 1 ≤ t then x (u + 1) else i) (if u ≤ t then x u else i) ≠ _
    by_cases e : u = t
    · subst e
      rw [if_neg (by omega), if_pos (Nat.le_refl _), h2]; exact ha
    · rw [if_pos (by omega), if_pos (by omega)]; exact h4 u (by omega)
theorem rcn_mono {v r r' i : Nat} (h : RcN A n v r i) (hr : r ≤ r') : RcN A n v r' i := by
  obtain ⟨t, x, h0, h⟩ := h
  exact ⟨t, x, by omega, h⟩
theorem rch_rcn {v i : Nat} (h : Rch A n v i) : ∃ r, RcN A n v r i := by
  obtain ⟨t, x, h⟩ := h
  exact ⟨t, t, x, Nat.le_refl _, h⟩
theorem rch_step {v k i : Nat} (h : Rch A n v k) (hi : i < n) (ha : A i k ≠ -1000000000000000) : Rch A n v i := by
  obtain ⟨r, h⟩ := rch_rcn h
  exact Rch.of (rcn_step h hi ha)
theorem rcn_next {v r i : Nat} (h : RcN A n v (r + 1) i) : RcN A n v r i ∨ ∃ k, k < n ∧ RcN A n v r k ∧ i < n ∧ A i k ≠ -1000000000000000 := by
  obtain ⟨t, x, h0, h1, h2, h3, h4⟩ := h
  by_cases e : t ≤ r
  · exact .inl ⟨t, x, e, h1, h2, h3, h4⟩
  · obtain rfl : t = r + 1 := by omega
    refine .inr ⟨x r, h3 r (by omega), ⟨r, x, Nat.le_refl _, h1, rfl, fun u hu => h3 u (by omega), fun u hu => h4 u (by omega)⟩, by rw [← h2]; exact h3 _ (Nat.le_refl _), ?_⟩
    rw [← h2]; exact h4 r (by omega)
theorem rcn_zero {v i : Nat} (h : RcN A n v 0 i) : i = v := by
  obtain ⟨t, x, h0, h1, h2, -⟩ := h
  obtain rfl : t = 0 := by omega
  rw [← h1, ← h2]
/-- What holds at the start and is handed on along arcs holds at all nodes that are reached. -/
theorem Rch.ind {P : Nat → Prop} {v i : Nat} (h : Rch A n v i) (h0 : v < n → P v) (hs : ∀ k i, Rch A n v k → P k → i < n → A i k ≠ -1000000000000000 → P i) : P i := by
  obtain ⟨t, x, h1, h2, h3, h4⟩ := h
  have : ∀ u, u ≤ t → P (x u) := by
    intro u
    induction u with
    | zero => intro _; rw [h1]; exact h0 (by rw [← h1]; exact h3 0 (Nat.zero_le _))
    | succ u ih =>
      intro hu
      exact hs (x u) _ ⟨u, x, h1, rfl, fun w hw => h3 w (by omega), fun w hw => h4 w (by omega)⟩ (ih (by omega)) (h3 _ hu) (h4 u (by omega))
  rw [← h2]; exact this t (Nat.le_refl _)
theorem rch_trans {v k i : Nat} (h : Rch A n v k) (h' : Rch A n k i) : Rch A n v i :=
  h'.ind (P := fun i => Rch A n v i) (fun _ => h) fun _ _ _ ih hi ha => rch_step ih hi ha
/-- A walk need not be longer than there are nodes. -/
theorem rch_short {v i : Nat} (h : Rch A n v i) : RcN A n v n i := by
  obtain ⟨t, h⟩ : ∃ t, ∃ x : Nat → Nat, x 0 = v ∧ x t = i ∧ (∀ u, u ≤ t → x u < n) ∧ ∀ u, u < t → A (x (u + 1)) (x u) ≠ -1000000000000000 := h
  induction t using Nat.strongRecOn with
  | _ t ih =>
    obtain ⟨x, h1, h2, h3, h4⟩ := h
    by_cases e : t ≤ n
    · exact ⟨t, x, e, h1, h2, h3, h4⟩
    · obtain ⟨a, b, hab, hb, he⟩ := pigeon n x (fun u hu => h3 u (by omega))
      refine ih (t - (b - a)) (by omega) ⟨fun u => if u < a then x u else x (u + (b - a)), ?_, ?_, ?_, ?_⟩
      · show (if 0 < a then x 0 else x (0 + (b - a))) = v
        split
        · exact h1
        · obtain rfl : a = 0 := by omega
          rw [Nat.zero_add, Nat.sub_zero, ← he, h1]
      · show (if t - (b - a) < a then _ else x (t - (b - a) + (b - a))) = i
        rw [if_neg (by omega), show t - (b - a) + (b - a) = t by omega, h2]
      · intro u hu
        show (if u < a then x u else x (u + (b - a))) < n
        split
        · exact h3 u (by omega)
        · exact h3 _ (by omega)
      · intro u hu
        show A (if u + 1 < a then x (u + 1) else x (u + 1 + (b - a))) (if u < a then x u else x (u + (b - a))) ≠ _
        by_cases e1 : u + 1 < a
        · rw [if_pos e1, if_pos (by omega)]; exact h4 u (by omega)
        · by_cases e2 : u < a
          · rw [if_neg e1, if_pos e2, show u + 1 + (b - a) = b by omega, ← he, show a = u + 1 by omega]
            exact h4 u (by omega)
          · rw [if_neg e1, if_neg e2, show u + 1 + (b - a) = u + (b - a) + 1 by omega]
            exact h4 _ (by omega)
/-- Turned arcs turn what reaches what. -/
theorem rch_turn {B : Nat → Nat → Int} (hB : ∀ i j, i < n → j < n → B i j = A j i) {v i : Nat} (h : Rch B n v i) : Rch A n i v := by
  obtain ⟨t, x, h1, h2, h3, h4⟩ := h
  refine ⟨t, fun u => x (t - u), by show x (t - 0) = i; rw [Nat.sub_zero, h2], by show x (t - t) = v; rw [Nat.sub_self, h1], fun u _ => h3 _ (by omega), fun u hu => ?_⟩
  show A (x (t - (u + 1))) (x (t - u)) ≠ _
  have := h4 (t - (u + 1)) (by omega)
  rw [hB _ _ (h3 _ (by omega)) (h3 _ (by omega)), show t - (u + 1) + 1 = t - u by omega] at this
  exact this
theorem rch_congr {B : Nat → Nat → Int} (hB : ∀ i j, i < n → j < n → B i j = A i j) {v i : Nat} (h : Rch B n v i) : Rch A n v i := by
  obtain ⟨t, x, h1, h2, h3, h4⟩ := h
  refine ⟨t, x, h1, h2, h3, fun u hu => ?_⟩
  rw [← hB _ _ (h3 _ (by omega)) (h3 _ (by omega))]; exact h4 u hu
/-- The same, as a test. -/
def rsB (A : Nat → Nat → Int) (n v : Nat) : Nat → Nat → Bool
  | 0, i => decide (i = v) && decide (v < n)
  | r + 1, i => rsB A n v r i || (decide (i < n) && (List.range n).any fun k => rsB A n v r k && decide (A i k ≠ -1000000000000000))
theorem rsB_t {v : Nat} (r : Nat) : ∀ i, rsB A n v r i = true ↔ RcN A n v r i := by
  induction r with
  | zero =>
    intro i
    show (decide (i = v) && decide (v < n)) = true ↔ _
    rw [Bool.and_eq_true, decide_eq_true_eq, decide_eq_true_eq]
    exact ⟨fun ⟨e, hv⟩ => by subst e; exact rcn_self hv 0, fun h => ⟨rcn_zero h, (Rch.of h).lt.1⟩⟩
  | succ r ih =>
    intro i
    show (rsB A n v r i || (decide (i < n) && (List.range n).any fun k => rsB A n v r k && decide (A i k ≠ -1000000000000000))) = true ↔ _
    rw [Bool.or_eq_true, Bool.and_eq_true, decide_eq_true_eq, List.any_eq_true, ih]
    constructor
    · rintro (h | ⟨hi, k, -, hk⟩)
      · exact rcn_mono h (Nat.le_succ r)
      · rw [Bool.and_eq_true, decide_eq_true_eq, ih] at hk
        exact rcn_step hk.1 hi hk.2
    · intro h
      rcases rcn_next h with h | ⟨k, hk, h1, h2, h3⟩
      · exact .inl h
      · exact .inr ⟨h2, k, List.mem_range.2 hk, by rw [Bool.and_eq_true, decide_eq_true_eq, ih]; exact ⟨h1, h3⟩⟩
def rchB (A : Nat → Nat → Int) (n v i : Nat) : Bool := rsB A n v n i
theorem rchB_t {v i : Nat} : rchB A n v i = true ↔ Rch A n v i := (rsB_t n i).trans ⟨Rch.of, rch_short⟩
theorem rchB_eq {v i : Nat} {b : Bool} (h : b = true ↔ Rch A n v i) : rchB A n v i = b := by
  rw [Bool.eq_iff_iff, rchB_t, h]
theorem rchB_turn {B : Nat → Nat → Int} (hB : ∀ i j, i < n → j < n → B i j = A j i) (v i : Nat) : rchB B n v i = rchB A n i v :=
  rchB_eq (by rw [rchB_t]; exact ⟨fun h => rch_turn (A := B) (B := A) (fun i j hi hj => (hB j i hj hi).symm) h, fun h => rch_turn hB h⟩)
theorem rchB_congr {B : Nat → Nat → Int} (hB : ∀ i j, i < n → j < n → B i j = A i j) (v i : Nat) : rchB B n v i = rchB A n v i :=
  rchB_eq (by rw [rchB_t]; exact ⟨fun h => rch_congr (fun i j hi hj => (hB i j hi hj).symm) h, fun h => rch_congr hB h⟩)
/-- A set that holds the start, only what is reached, and all that an arc leads to from it, is what is reached. -/
theorem rch_set {v : Nat} {S : Nat → Bool} (hv : v < n) (h0 : S v = true) (hS : ∀ i, S i = true → Rch A n v i) (hc : ∀ k i, k < n → S k = true → i < n → A i k ≠ -1000000000000000 → S i = true) (i : Nat) : S i = rchB A n v i :=
  (rchB_eq ⟨fun h => hS i h, fun h => h.ind (P := fun i => S i = true) (fun _ => h0) fun k i hk ih hi ha => hc k i hk.lt.2 ih hi ha⟩).symm
/-- The rounds of the model's search: what n rounds have found. -/
theorem rch_rounds {v : Nat} {S : Nat → Bool} (hS : ∀ i, S i = true → Rch A n v i) (hr : ∀ i, RcN A n v n i → S i = true) (i : Nat) : S i = rchB A n v i :=
  (rchB_eq ⟨fun h => hS i h, fun h => hr i (rch_short h)⟩).symm

/-! Matrices without some arcs. -/
theorem owk_sub {A' : Nat → Nat → Int} (h : ∀ i j, i < n → j < n → A' i j = A i j ∨ A' i j = -1000000000000000) {v : Nat → Nat} {s : Nat} (hv : ∀ u, u ≤ s → v u < n) {w : Int} (hw : owk (fun i j => o (A' i j)) v s = some w) : owk (fun i j => o (A i j)) v s = some w := by
  induction s generalizing w with
  | zero => exact hw
  | succ s ih =>
    have hw : omul (o (A' (v (s + 1)) (v s))) (owk (fun i j => o (A' i j)) v s) = some w := hw
    show omul (o (A (v (s + 1)) (v s))) (owk (fun i j => o (A i j)) v s) = some w
    cases e : owk (fun i j => o (A' i j)) v s with
    | none => rw [e, omul_none] at hw; cases hw
    | some x =>
      rw [e] at hw
      rw [ih (fun u hu => hv u (by omega)) e]
      rcases h (v (s + 1)) (v s) (hv _ (Nat.le_refl _)) (hv _ (by omega)) with q | q
      · rw [← q]; exact hw
      · rw [q, o_bot, none_omul] at hw; cases hw
theorem owk_keep {A' : Nat → Nat → Int} {v : Nat → Nat} {s : Nat} (h : ∀ u, u < s → A' (v (u + 1)) (v u) = A (v (u + 1)) (v u)) : owk (fun i j => o (A' i j)) v s = owk (fun i j => o (A i j)) v s := by
  induction s with
  | zero => rfl
  | succ s ih =>
    show omul (o (A' _ _)) (owk _ v s) = omul (o (A _ _)) (owk _ v s)
    rw [ih fun u hu => h u (by omega), h s (by omega)]
section
variable {A' : Nat → Nat → Int} (hn : n ≤ 10) (hA : ∀ i j, i < n → j < n → Sm 1000000 (A i j)) (hsub : ∀ i j, i < n → j < n → A' i j = A i j ∨ A' i j = -1000000000000000)
include hn hA hsub
omit hn in
theorem sub_sm : ∀ i j, i < n → j < n → Sm 1000000 (A' i j) := fun i j hi hj => by
  rcases hsub i j hi hj with q | q
  · rw [q]; exact hA i j hi hj
  · rw [q]; exact .inl rfl
theorem sub_cyc (h : hasCyc A' n = true) : hasCyc A n = true := by
  obtain ⟨v, s, h1, h2, h3, h4⟩ := cyc_closed hn (sub_sm hA hsub) h
  cases e : owk (fun i j => o (A' i j)) v s with
  | none => exact absurd e h4
  | some w => exact closed_cyc hn hA ⟨h1, h2, h3, by rw [owk_sub hsub h3 e]; simp⟩
/-- Fewer arcs: no greater mean. -/
theorem sub_le (h : hasCyc A' n = true) : (bestR A' n).1 * (bestR A n).2 ≤ (bestR A n).1 * (bestR A' n).2 := by
  obtain ⟨⟨b1, b2, b3, -⟩, -⟩ := bestR_best hn hA (sub_cyc hn hA hsub h)
  obtain ⟨⟨c1, c2, -, v, s, w, c4, c5, c6, c7, c8, c9⟩, -⟩ := bestR_best hn (sub_sm hA hsub) h
  exact cross_le (show (0 : Int) < s by omega) (b3 v s w c6 c7 (owk_sub hsub c7 c8)) c9 (by omega) (by omega)
/-- A cycle of the greatest mean that is left keeps the greatest mean. -/
theorem sub_same {v : Nat → Nat} {s : Nat} {w : Int} (h1 : 1 ≤ s) (h2 : v s = v 0) (h3 : ∀ u, u ≤ s → v u < n) (h4 : owk (fun i j => o (A i j)) v s = some w) (h5 : (bestR A n).2 * w = s * (bestR A n).1)
    (hk : ∀ u, u < s → A' (v (u + 1)) (v u) = A (v (u + 1)) (v u)) : hasCyc A' n = true ∧ bestR A' n = bestR A n := by
  have h4' := h4
  rw [← owk_keep hk] at h4'
  have hc : hasCyc A' n = true := closed_cyc hn (sub_sm hA hsub) ⟨h1, h2, h3, by rw [h4']; simp⟩
  refine ⟨hc, ?_⟩
  have hle := sub_le hn hA hsub hc
  obtain ⟨⟨b1, b2, b3, -⟩, -⟩ := bestR_best hn hA (sub_cyc hn hA hsub hc)
  obtain ⟨⟨c1, c2, c3, -⟩, -⟩ := bestR_best hn (sub_sm hA hsub) hc
  have hge := cross_le (show (0 : Int) < s by omega) (c3 v s w h2 h3 h4') h5 (by omega) (by omega)
  obtain ⟨e1, e2⟩ := lowest_eq c1 b1 c2 b2 (by omega)
  exact Prod.ext e1 e2
/-- All cycles are left. -/
theorem sub_all (hall : ∀ v s, Closed A n v s → ∀ u, u < s → A' (v (u + 1)) (v u) = A (v (u + 1)) (v u)) : hasCyc A' n = hasCyc A n ∧ (hasCyc A n = true → bestR A' n = bestR A n) := by
  cases hc : hasCyc A n with
  | false =>
    refine ⟨?_, fun h => by cases h⟩
    cases h : hasCyc A' n with
    | false => rfl
    | true => rw [sub_cyc hn hA hsub h] at hc; cases hc
  | true =>
    obtain ⟨⟨b1, b2, b3, v, s, w, c4, c5, c6, c7, c8, c9⟩, -⟩ := bestR_best hn hA hc
    obtain ⟨e1, e2⟩ := sub_same hn hA hsub c4 c6 c7 c8 c9 (hall v s ⟨c4, c6, c7, by rw [c8]; simp⟩)
    exact ⟨e1, fun _ => e2⟩
end
end M
end Go.Proofs.YtcofjjipjcekjaaGreat

namespace Go.Proofs.YtcofjjipjcekjaaGreat
namespace M
variable {A : Nat → Nat → Int} {n : Nat}
def relB (A : Nat → Nat → Int) (n v w : Nat) : Bool := rchB A n v w && rchB A n w v
theorem relB_t {v w : Nat} : relB A n v w = true ↔ Rch A n v w ∧ Rch A n w v := by
  unfold relB
  rw [Bool.and_eq_true, rchB_t, rchB_t]
theorem relB_self {v : Nat} (h : v < n) : relB A n v v = true := relB_t.2 ⟨rch_self h, rch_self h⟩
theorem relB_symm (v w : Nat) : relB A n v w = relB A n w v := by unfold relB; rw [Bool.and_comm]
theorem relB_eq {v w : Nat} (h : relB A n v w = true) (u : Nat) : relB A n v u = relB A n w u := by
  obtain ⟨h1, h2⟩ := relB_t.1 h
  rw [Bool.eq_iff_iff, relB_t, relB_t]
  exact ⟨fun ⟨k1, k2⟩ => ⟨rch_trans h2 k1, rch_trans k2 h1⟩, fun ⟨k1, k2⟩ => ⟨rch_trans h1 k1, rch_trans k2 h2⟩⟩
/-- The component of v among the first k nodes. -/
def compP (A : Nat → Nat → Int) (n v k : Nat) : List Int := ((List.range k).filter (relB A n v)).map fun i : Nat => (i : Int)
def compL (A : Nat → Nat → Int) (n v : Nat) : List Int := compP A n v n
theorem compP_next (A : Nat → Nat → Int) (n v k : Nat) : compP A n v (k + 1) = compP A n v k ++ (if relB A n v k then [(k : Int)] else []) := by
  unfold compP
  rw [List.range_succ, List.filter_append, List.map_append]
  congr 1
  cases h : relB A n v k <;> simp [h]
theorem compP_len (A : Nat → Nat → Int) (n v k : Nat) : (compP A n v k).length ≤ k := by
  unfold compP
  rw [List.length_map]
  have := List.length_filter_le (relB A n v) (List.range k)
  rw [List.length_range] at this
  exact this
theorem mem_compP {v k : Nat} {x : Int} : x ∈ compP A n v k ↔ ∃ w : Nat, w < k ∧ relB A n v w = true ∧ x = w := by
  unfold compP
  simp only [List.mem_map, List.mem_filter, List.mem_range]
  exact ⟨fun ⟨w, ⟨h1, h2⟩, h3⟩ => ⟨w, h1, h2, h3.symm⟩, fun ⟨w, h1, h2, h3⟩ => ⟨w, ⟨h1, h2⟩, h3.symm⟩⟩
theorem compL_eq {v w : Nat} (h : relB A n v w = true) : compL A n v = compL A n w := by
  unfold compL compP
  congr 1
  exact List.filter_congr fun u _ => relB_eq h u
theorem compL_pos {v : Nat} (h : v < n) : 1 ≤ (compL A n v).length := List.length_pos_of_mem (mem_compP.2 ⟨v, h, relB_self h, rfl⟩)
theorem compL_at {v k : Nat} (h : k < (compL A n v).length) : ∃ w : Nat, w < n ∧ relB A n v w = true ∧ (compL A n v).getD k 0 = w := by
  have hm : (compL A n v).getD k 0 ∈ compL A n v := by
    rw [List.getD_eq_getElem?_getD, List.getElem?_eq_getElem h]; exact List.getElem_mem h
  exact mem_compP.1 hm
/-- The first node of the component. -/
def repN (A : Nat → Nat → Int) (n v : Nat) : Nat := ((compL A n v).getD 0 0).toNat
theorem rep_t {v : Nat} (h : v < n) : repN A n v < n ∧ relB A n v (repN A n v) = true ∧ (compL A n v).getD 0 0 = (repN A n v : Int) := by
  obtain ⟨w, h1, h2, h3⟩ := compL_at (A := A) (k := 0) (compL_pos h)
  unfold repN
  rw [h3]
  exact ⟨h1, h2, rfl⟩
theorem rep_eq {v w : Nat} (h : relB A n v w = true) : repN A n v = repN A n w := by unfold repN; rw [compL_eq h]
def compsP (A : Nat → Nat → Int) (n m : Nat) : List (List Int) := (List.range m).flatMap fun v => if repN A n v = v then [compL A n v] else []
def compsL (A : Nat → Nat → Int) (n : Nat) : List (List Int) := compsP A n n
theorem compsP_next (A : Nat → Nat → Int) (n m : Nat) : compsP A n (m + 1) = compsP A n m ++ (if repN A n m = m then [compL A n m] else []) := by
  unfold compsP
  rw [List.range_succ, List.flatMap_append]
  simp
theorem compsP_len (A : Nat → Nat → Int) (n m : Nat) : (compsP A n m).length ≤ m := by
  induction m with
  | zero => exact Nat.le_refl _
  | succ m ih => rw [compsP_next, List.length_append]; split <;> simp <;> omega
theorem mem_compsP {m : Nat} {l : List Int} : l ∈ compsP A n m ↔ ∃ v, v < m ∧ repN A n v = v ∧ l = compL A n v := by
  unfold compsP
  simp only [List.mem_flatMap, List.mem_range]
  constructor
  · rintro ⟨v, hv, h⟩
    split at h
    · next e => exact ⟨v, hv, e, by simpa using h⟩
    · simp at h
  · rintro ⟨v, hv, e, h⟩
    exact ⟨v, hv, by rw [if_pos e]; simp [h]⟩
def sumLen (L : List (List Int)) : Nat := L.foldr (fun l s => l.length + s) 0
theorem sumLen_app (L K : List (List Int)) : sumLen (L ++ K) = sumLen L + sumLen K := by
  induction L with
  | nil => simp [sumLen]
  | cons l L ih =>
    show l.length + sumLen (L ++ K) = l.length + sumLen L + sumLen K
    rw [ih]; omega
/-- How many of the first k nodes pass a test. -/
def cnt (p : Nat → Bool) (k : Nat) : Nat := ((List.range k).filter p).length
theorem cnt_next (p : Nat → Bool) (k : Nat) : cnt p (k + 1) = cnt p k + (if p k then 1 else 0) := by
  unfold cnt
  rw [List.range_succ, List.filter_append, List.length_append]
  cases h : p k <;> simp [h]
theorem cnt_congr {p q : Nat → Bool} {k : Nat} (h : ∀ i, i < k → p i = q i) : cnt p k = cnt q k := by
  unfold cnt
  rw [List.filter_congr fun i hi => h i (List.mem_range.1 hi)]
theorem cnt_or {p q r : Nat → Bool} {k : Nat} (h : ∀ i, i < k → r i = (p i || q i)) (hd : ∀ i, i < k → p i = true → q i = false) : cnt r k = cnt p k + cnt q k := by
  induction k with
  | zero => rfl
  | succ k ih =>
    rw [cnt_next, cnt_next, cnt_next, ih (fun i hi => h i (by omega)) (fun i hi => hd i (by omega)), h k (by omega)]
    have := hd k (by omega)
    cases e1 : p k <;> cases e2 : q k <;> simp_all <;> omega
theorem cnt_all (k : Nat) : cnt (fun _ => true) k = k := by
  unfold cnt
  rw [List.filter_eq_self.2 fun _ _ => rfl, List.length_range]
theorem cnt_none {p : Nat → Bool} {k : Nat} (h : ∀ i, i < k → p i = false) : cnt p k = 0 := by
  unfold cnt
  rw [List.filter_eq_nil_iff.2 fun i hi => by rw [h i (List.mem_range.1 hi)]; exact Bool.false_ne_true]
  rfl
theorem sum_comps (m : Nat) (hm : m ≤ n) : sumLen (compsP A n m) = cnt (fun w => decide (repN A n w < m)) n := by
  induction m with
  | zero =>
    rw [cnt_none fun i _ => decide_eq_false (Nat.not_lt_zero _)]
    rfl
  | succ m ih =>
    rw [compsP_next, sumLen_app, ih (by omega), cnt_or (p := fun w => decide (repN A n w < m)) (q := fun w => decide (repN A n w = m)) (r := fun w => decide (repN A n w < m + 1)) (fun i _ => by
      rw [Bool.eq_iff_iff, Bool.or_eq_true, decide_eq_true_eq, decide_eq_true_eq, decide_eq_true_eq]; omega) (fun i _ h => by rw [decide_eq_true_eq] at h; rw [decide_eq_false_iff_not]; omega)]
    congr 1
    by_cases e : repN A n m = m
    · rw [if_pos e]
      show (compL A n m).length + 0 = _
      unfold compL compP
      rw [List.length_map]
      show cnt (relB A n m) n + 0 = _
      rw [Nat.add_zero]
      refine cnt_congr fun w hw => ?_
      rw [Bool.eq_iff_iff, decide_eq_true_eq]
      constructor
      · intro h; rw [← rep_eq h, e]
      · intro h
        have := (rep_t (A := A) hw).2.1
        rw [h, relB_symm] at this; exact this
    · rw [if_neg e]
      refine (cnt_none fun w hw => ?_).symm
      rw [decide_eq_false_iff_not]
      intro h
      apply e
      have := (rep_t (A := A) hw).2.1
      rw [h] at this
      rw [← rep_eq this, h]
/-- The components divide the nodes. -/
theorem sum_compsL : sumLen (compsL A n) = n := by
  unfold compsL
  rw [sum_comps n (Nat.le_refl _), cnt_congr (q := fun _ => true) fun w hw => by simpa using (rep_t (A := A) hw).1, cnt_all]
theorem compsL_first (h : 1 ≤ n) : ∃ L, compsL A n = compL A n 0 :: L ∧ ∀ l, l ∈ L → 1 ≤ l.length := by
  obtain ⟨m, rfl⟩ : ∃ m, n = m + 1 := ⟨n - 1, by omega⟩
  have h0 : repN A (m + 1) 0 = 0 := by
    have hm : (0 : Int) ∈ compL A (m + 1) 0 := mem_compP.2 ⟨0, by omega, relB_self (by omega), rfl⟩
    unfold repN compL compP
    rw [List.range_succ_eq_map, List.filter_cons, if_pos (relB_self (by omega))]
    rfl
  have e : compsL A (m + 1) = compL A (m + 1) 0 :: (List.map Nat.succ (List.range m)).flatMap fun v => if repN A (m + 1) v = v then [compL A (m + 1) v] else [] := by
    unfold compsL compsP
    rw [List.range_succ_eq_map, List.flatMap_cons, if_pos h0]
    rfl
  refine ⟨_, e, fun l hl => ?_⟩
  have : l ∈ compsP A (m + 1) (m + 1) := by
    show l ∈ compsL A (m + 1)
    rw [e]; exact List.mem_cons_of_mem _ hl
  obtain ⟨v, hv, -, rfl⟩ := mem_compsP.1 this
  exact compL_pos hv
/-- One component alone: the first one holds all nodes. -/
theorem irr_eq (h : 1 ≤ n) : decide ((compL A n 0).length = n) = decide ((compsL A n).length = 1) := by
  obtain ⟨L, e, hL⟩ := compsL_first (A := A) h
  have hs := sum_compsL (A := A) (n := n)
  rw [e] at hs ⊢
  have hs : (compL A n 0).length + sumLen L = n := hs
  rw [Bool.eq_iff_iff, decide_eq_true_eq, decide_eq_true_eq]
  cases L with
  | nil =>
    have : sumLen ([] : List (List Int)) = 0 := rfl
    constructor
    · intro _; rfl
    · intro _; omega
  | cons l L =>
    have hl := hL l List.mem_cons_self
    have : sumLen (l :: L) = l.length + sumLen L := rfl
    constructor
    · intro h; omega
    · intro h; simp at h
end M
end Go.Proofs.YtcofjjipjcekjaaGreat

namespace Go.Proofs.YtcofjjipjcekjaaGreat
namespace M
variable {A : Nat → Nat → Int} {n : Nat}
def upd (S : Nat → Bool) (v i : Nat) : Bool := decide (i = v) || S i
/-- What a visit of v makes of the found nodes. -/
def Dfs (A : Nat → Nat → Int) (n v : Nat) (S S' : Nat → Bool) : Prop :=
  (∀ i, S i = true → S' i = true) ∧ S' v = true ∧ (∀ i, S' i = true → S i = true ∨ Rch A n v i) ∧ ∀ j i, j < n → S' j = true → S j = false → i < n → A i j ≠ -1000000000000000 → S' i = true
/-- .. and what it has made of them when k arcs have been looked at. -/
def Part (A : Nat → Nat → Int) (n v : Nat) (S : Nat → Bool) (k : Nat) (S' : Nat → Bool) : Prop :=
  (∀ i, S i = true → S' i = true) ∧ S' v = true ∧ (∀ i, S' i = true → S i = true ∨ Rch A n v i) ∧ (∀ j i, j < n → j ≠ v → S' j = true → S j = false → i < n → A i j ≠ -1000000000000000 → S' i = true) ∧ ∀ i, i < k → A i v ≠ -1000000000000000 → S' i = true
theorem dfs_start {v : Nat} {S : Nat → Bool} (hv : v < n) : Part A n v S 0 (upd S v) := by
  refine ⟨fun i h => by unfold upd; rw [h, Bool.or_true], by unfold upd; simp, fun i h => ?_, fun j i _ hne h hn => ?_, fun i h => absurd h (Nat.not_lt_zero i)⟩
  · unfold upd at h
    rw [Bool.or_eq_true, decide_eq_true_eq] at h
    rcases h with h | h
    · subst h; exact .inr (rch_self hv)
    · exact .inl h
  · unfold upd at h
    rw [hn, Bool.or_false, decide_eq_true_eq] at h
    exact absurd h hne
theorem dfs_skip {v k : Nat} {S S' : Nat → Bool} (h : Part A n v S k S') (hk : A k v = -1000000000000000 ∨ S' k = true) : Part A n v S (k + 1) S' := by
  obtain ⟨h1, h2, h3, h4, h5⟩ := h
  refine ⟨h1, h2, h3, h4, fun i hi ha => ?_⟩
  by_cases e : i = k
  · subst e
    rcases hk with hk | hk
    · exact absurd hk ha
    · exact hk
  · exact h5 i (by omega) ha
theorem dfs_call {v k : Nat} {S S' S'' : Nat → Bool} (hv : v < n) (hk : k < n) (ha : A k v ≠ -1000000000000000) (h : Part A n v S k S') (hd : Dfs A n k S' S'') : Part A n v S (k + 1) S'' := by
  obtain ⟨h1, h2, h3, h4, h5⟩ := h
  obtain ⟨d1, d2, d3, d4⟩ := hd
  refine ⟨fun i hi => d1 i (h1 i hi), d1 v h2, fun i hi => ?_, fun j i hj hne hs hn hi ha' => ?_, fun i hi ha' => ?_⟩
  · rcases d3 i hi with q | q
    · exact h3 i q
    · exact .inr (rch_trans (rch_step (rch_self hv) hk ha) q)
  · cases e : S' j with
    | true => exact d1 i (h4 j i hj hne e hn hi ha')
    | false => exact d4 j i hj hs e hi ha'
  · by_cases e : i = k
    · subst e; exact d2
    · exact d1 i (h5 i (by omega) ha')
theorem dfs_end {v : Nat} {S S' : Nat → Bool} (h : Part A n v S n S') : Dfs A n v S S' := by
  obtain ⟨h1, h2, h3, h4, h5⟩ := h
  refine ⟨h1, h2, h3, fun j i hj hs hn hi ha => ?_⟩
  by_cases e : j = v
  · subst e; exact h5 i hi ha
  · exact h4 j i hj e hs hn hi ha
theorem dfs_mono {v k : Nat} {S S' : Nat → Bool} (h : Part A n v S k S') : ∀ i, upd S v i = true → S' i = true := fun i hi => by
  unfold upd at hi
  rw [Bool.or_eq_true, decide_eq_true_eq] at hi
  rcases hi with q | q
  · subst q; exact h.2.1
  · exact h.1 i q
theorem cnt_le {p q : Nat → Bool} {k : Nat} (h : ∀ i, i < k → p i = true → q i = true) : cnt p k ≤ cnt q k := by
  induction k with
  | zero => exact Nat.le_refl _
  | succ k ih =>
    rw [cnt_next, cnt_next]
    have := ih fun i hi => h i (by omega)
    have h1 := h k (by omega)
    cases e1 : p k <;> cases e2 : q k <;> simp_all <;> omega
theorem cnt_max (p : Nat → Bool) (k : Nat) : cnt p k ≤ k := by
  induction k with
  | zero => exact Nat.le_refl _
  | succ k ih => rw [cnt_next]; split <;> omega
theorem cnt_lt {p q : Nat → Bool} {k v : Nat} (hv : v < k) (hp : p v = false) (hq : q v = true) (h : ∀ i, i < k → p i = true → q i = true) : cnt p k < cnt q k := by
  induction k with
  | zero => omega
  | succ k ih =>
    rw [cnt_next, cnt_next]
    by_cases e : v = k
    · subst e
      have := cnt_le (p := p) (q := q) (k := v) fun i hi => h i (by omega)
      rw [hp, hq]; simp; omega
    · have := ih (by omega) fun i hi => h i (by omega)
      have h1 := h k (by omega)
      cases e1 : p k <;> cases e2 : q k <;> simp_all <;> omega
theorem cnt_upd {S : Nat → Bool} {v : Nat} (hv : v < n) (h : S v = false) : cnt (upd S v) n = cnt S n + 1 := by
  have e := cnt_or (p := S) (q := fun i => decide (i = v)) (r := upd S v) (k := n) (fun i _ => by unfold upd; rw [Bool.or_comm]) (fun i _ hi => by
    rw [decide_eq_false_iff_not]; intro e; subst e; rw [h] at hi; cases hi)
  rw [e]
  congr 1
  clear e h
  induction n with
  | zero => omega
  | succ n ih =>
    rw [cnt_next]
    by_cases e : n = v
    · subst e
      rw [cnt_none fun i hi => decide_eq_false (by omega)]; simp
    · rw [ih (by omega)]; simp [e]
/-- Fewer nodes are left behind a visit's start. -/
theorem cnt_left {v f : Nat} {S S' : Nat → Bool} (hv : v < n) (hs : S v = false) (hm : ∀ i, upd S v i = true → S' i = true) (h : cnt (fun i => !S i) n ≤ f + 1) : cnt (fun i => !S' i) n ≤ f := by
  have := cnt_lt (p := fun i => !S' i) (q := fun i => !S i) (k := n) hv (by
    have := hm v (by unfold upd; simp)
    simp [this]) (by simp [hs]) (fun i _ hi => by
    cases e : S i with
    | false => rfl
    | true =>
      have := hm i (by unfold upd; rw [e, Bool.or_true])
      simp [this] at hi)
  omega
theorem dfs_all {v : Nat} {S' : Nat → Bool} (hv : v < n) (h : Dfs A n v (fun _ => false) S') (i : Nat) : S' i = rchB A n v i := by
  obtain ⟨-, h2, h3, h4⟩ := h
  exact rch_set hv h2 (fun i hi => by
    rcases h3 i hi with q | q
    · cases q
    · exact q) (fun k i hk hs hi ha => h4 k i hk hs rfl hi ha) i
end M
end Go.Proofs.YtcofjjipjcekjaaGreat

namespace Go.Proofs.YtcofjjipjcekjaaGreat
namespace M
def upF (A : Nat → Nat → Int) (n v i j : Nat) : Int := if rchB A n i v then A i j else -1000000000000000
def upF2 (A : Nat → Nat → Int) (n v i j : Nat) : Int := if rchB A n i v && rchB A n j v then A i j else -1000000000000000
def upK (A : Nat → Nat → Int) (n v k i j : Nat) : Int := if i < k then upF A n v i j else A i j
def upRes (R : List (List Int)) (x : Int) : (Int × Int) × Int := if sqB R then (if inN R.length x then cycMeanRes (mk R.length R.length (upF (ent R) R.length x.toNat)) else ((0, 0), 2)) else ((0, 0), 1)
theorem inN_j {n : Nat} {x : Int} (h : inN n x = true) : ∃ k : Nat, k < n ∧ x = k := by
  unfold inN at h
  rw [Bool.and_eq_true, decide_eq_true_eq, decide_eq_true_eq] at h
  exact ⟨x.toNat, by omega, by omega⟩
theorem sq_mk {n : Nat} {F : Nat → Nat → Int} (n1 : 1 ≤ n) (n2 : n ≤ 10) (hF : ∀ i j, i < n → j < n → isVal (F i j) = true) : sqB (mk n n F) = true := by
  unfold sqB
  rw [isMat_mk n1 n2 n1 n2 fun i hi j hj => hF i j hi hj, mk_wid n n F (by omega), mk_length]
  simp
/-- Without arcs that lie on no cycle the cycle mean is the same. -/
theorem cyc_mk {n : Nat} {F G : Nat → Nat → Int} (n1 : 1 ≤ n) (n2 : n ≤ 10) (hF : ∀ i j, i < n → j < n → isVal (F i j) = true) (hG : ∀ i j, i < n → j < n → G i j = F i j ∨ G i j = -1000000000000000)
    (hall : ∀ v s, Closed (ent (mk n n F)) n v s → ∀ u, u < s → G (v (u + 1)) (v u) = F (v (u + 1)) (v u)) : cycMeanRes (mk n n G) = cycMeanRes (mk n n F) := by
  have hG' : ∀ i j, i < n → j < n → isVal (G i j) = true := fun i j hi hj => by
    rcases hG i j hi hj with e | e
    · rw [e]; exact hF i j hi hj
    · rw [e]; simp [isVal]
  have hA : ∀ i j, i < n → j < n → Sm 1000000 (ent (mk n n F) i j) := fun i j hi hj => by rw [ent_mk _ _ _ _ _ hi hj]; exact sm_val (hF i j hi hj)
  obtain ⟨e1, e2⟩ := sub_all (A := ent (mk n n F)) (A' := ent (mk n n G)) n2 hA (fun i j hi hj => by rw [ent_mk _ _ _ _ _ hi hj, ent_mk _ _ _ _ _ hi hj]; exact hG i j hi hj) (fun v s hc u hu => by
    have h1 := hc.2.2.1 (u + 1) (by omega)
    have h2 := hc.2.2.1 u (by omega)
    rw [ent_mk _ _ _ _ _ h1 h2, ent_mk _ _ _ _ _ h1 h2]
    exact hall v s hc u hu)
  unfold cycMeanRes
  rw [sq_mk n1 n2 hG', sq_mk n1 n2 hF, mk_length, mk_length, e1]
  cases hc : hasCyc (ent (mk n n F)) n with
  | false => simp only [Bool.false_eq_true, if_false]
  | true => rw [e2 hc]
theorem up_val {R : List (List Int)} (hs : sqB R = true) (v : Nat) : ∀ i j, i < R.length → j < R.length → isVal (upF (ent R) R.length v i j) = true := fun i j hi hj => by
  obtain ⟨h1, h2⟩ := sqB_t hs
  unfold upF
  split
  · exact (isMat_t h1).2.2.2.2.2 i hi j (by rw [← h2]; exact hj)
  · simp [isVal]
theorem up_both {R : List (List Int)} (hs : sqB R = true) (v : Nat) : cycMeanRes (mk R.length R.length (upF2 (ent R) R.length v)) = cycMeanRes (mk R.length R.length (upF (ent R) R.length v)) := by
  obtain ⟨n1, n2, hA⟩ := sq_sm hs
  refine cyc_mk n1 n2 (up_val hs v) (fun i j hi hj => ?_) (fun x s hc u hu => ?_)
  · unfold upF2 upF
    cases rchB (ent R) R.length i v <;> cases rchB (ent R) R.length j v <;> simp
  · obtain ⟨c1, c2, c3, c4⟩ := hc
    have ha := owk_arc c4
    have hr : ∀ t, t < s → rchB (ent R) R.length (x (t + 1)) v = true := fun t ht => by
      have := ha t ht
      rw [ent_mk _ _ _ _ _ (c3 _ (by omega)) (c3 _ (by omega))] at this
      cases e : rchB (ent R) R.length (x (t + 1)) v with
      | true => rfl
      | false => unfold upF at this; rw [e, if_neg Bool.false_ne_true] at this; exact absurd (Eq.refl _) this
    have h1 := hr u hu
    have h2 : rchB (ent R) R.length (x u) v = true := by
      by_cases e : u = 0
      · have := hr (s - 1) (by omega)
        rw [show s - 1 + 1 = s by omega, c2] at this
        rw [e]; exact this
      · have := hr (u - 1) (by omega)
        rw [show u - 1 + 1 = u by omega] at this
        exact this
    unfold upF2 upF
    rw [h1, h2]; rfl
theorem mk_setrow {m n : Nat} (f : Nat → Nat → Int) (g : Nat → Int) (k : Nat) : (mk m n f).set k ((List.range n).map g) = mk m n fun i j => if i = k then g j else f i j := by
  unfold mk
  apply List.ext_getElem
  · simp
  · intro i h1 h2
    rw [List.getElem_set]
    simp only [List.getElem_map, List.getElem_range]
    by_cases e : k = i
    · rw [if_pos e]; subst e; simp
    · rw [if_neg e]
      have : ¬ i = k := fun h => e h.symm
      simp [this]
theorem upK_cut {A : Nat → Nat → Int} {n v k : Nat} (h : rchB A n k v = false) : (mk n n (upK A n v k)).set k ((List.range n).map fun _ => -1000000000000000) = mk n n (upK A n v (k + 1)) := by
  rw [mk_setrow]
  refine mk_congr fun i _ j _ => ?_
  unfold upK
  by_cases e : i = k
  · subst e
    rw [if_pos rfl, if_pos (by omega)]; unfold upF; rw [h]; rfl
  · rw [if_neg e]
    by_cases e2 : i < k
    · rw [if_pos e2, if_pos (by omega)]
    · rw [if_neg e2, if_neg (by omega)]
theorem upK_same {A : Nat → Nat → Int} {n v k : Nat} (h : rchB A n k v = true) : mk n n (upK A n v k) = mk n n (upK A n v (k + 1)) := by
  refine mk_congr fun i _ j _ => ?_
  unfold upK
  by_cases e : i = k
  · subst e
    rw [if_neg (by omega), if_pos (by omega)]; unfold upF; rw [h]; rfl
  · by_cases e2 : i < k
    · rw [if_pos e2, if_pos (by omega)]
    · rw [if_neg e2, if_neg (by omega)]
end M
end Go.Proofs.YtcofjjipjcekjaaGreat

namespace Go.Proofs.YtcofjjipjcekjaaGreat
namespace M
def imgB (R : List (List Int)) (a b : Int) (x : List Int) : Bool := sqB R && isRat a b && isVec x && decide (x.length = R.length) && x.any fun v => decide (v ≠ -1000000000000000)
def imgL (R : List (List Int)) (a b : Int) (x : List Int) : List Int := applyM (shM R a b) x
def atMostB (y x : List Int) : Bool := (List.range y.length).all fun i => decide (y.getD i 0 ≤ x.getD i 0)
def eigB (R : List (List Int)) (a b : Int) (x : List Int) : Bool := imgB R a b x && decide (imgL R a b x = x)
def subB (R : List (List Int)) (a b : Int) (x : List Int) : Bool := imgB R a b x && atMostB (imgL R a b x) x
def eigY (R : List (List Int)) (b : Int) (x : List Int) (i : Nat) : Int := sumN R.length fun j => times (shf (ent R) 0 b i j) (x.getD j 0)
def eigZ (a : Int) (x : List Int) (i : Nat) : Int := times a (x.getD i 0)
/-- What the model's comparison has found after i nodes. -/
def cmpUp (R : List (List Int)) (a b : Int) (x : List Int) (i : Nat) : Bool := (List.range i).any fun k => decide (eigZ a x k < eigY R b x k)
def cmpLo (R : List (List Int)) (a b : Int) (x : List Int) (i : Nat) : Bool := (List.range i).any fun k => decide (eigY R b x k < eigZ a x k)
def cmpSome (x : List Int) (i : Nat) : Bool := (List.range i).any fun k => decide (x.getD k 0 ≠ -1000000000000000)
def cmpOk (R : List (List Int)) (a b : Int) (x : List Int) : Bool := sqB R && isRat a b && isVec x && decide (x.length = R.length)
def cmpE (R : List (List Int)) (a b : Int) (x : List Int) : Int :=
  if cmpOk R a b x then (if cmpUp R a b x x.length then 1 else if cmpSome x x.length then (if cmpLo R a b x x.length then -1 else 0) else 1) else 1
theorem any_next (i : Nat) (p : Nat → Bool) : (List.range (i + 1)).any p = ((List.range i).any p || p i) := by
  rw [List.range_succ, List.any_append]; simp
theorem sum_move {k : Nat} {f g : Nat → Int} {a : Int} (h : ∀ j, j < k → (f j = -1000000000000000 ∧ g j = -1000000000000000) ∨ (f j = g j + a ∧ -10000000000000 ≤ g j ∧ g j ≤ 10000000000000)) (ha : -1000000 ≤ a) (hb : a ≤ 1000000) :
    (sumN k f = -1000000000000000 ∧ sumN k g = -1000000000000000) ∨ (sumN k f = sumN k g + a ∧ -10000000000000 ≤ sumN k g ∧ sumN k g ≤ 10000000000000) := by
  induction k with
  | zero => exact .inl ⟨rfl, rfl⟩
  | succ k ih =>
    have ih := ih fun j hj => h j (by omega)
    have hk := h k (by omega)
    show (max (sumN k f) (f k) = _ ∧ max (sumN k g) (g k) = _) ∨ (max (sumN k f) (f k) = max (sumN k g) (g k) + a ∧ _ ≤ max (sumN k g) (g k) ∧ max (sumN k g) (g k) ≤ _)
    omega
section
variable {R : List (List Int)} {a b : Int} {x : List Int}
theorem cmpOk_t (h : cmpOk R a b x = true) : sqB R = true ∧ isRat a b = true ∧ isVec x = true ∧ x.length = R.length := by
  unfold cmpOk at h
  rw [Bool.and_eq_true, Bool.and_eq_true, Bool.and_eq_true, decide_eq_true_eq] at h
  exact ⟨h.1.1.1, h.1.1.2, h.1.2, h.2⟩
theorem imgB_cmp : imgB R a b x = (cmpOk R a b x && x.any fun v => decide (v ≠ -1000000000000000)) := rfl
theorem imgL_at (h : cmpOk R a b x = true) {i : Nat} (hi : i < R.length) : (imgL R a b x).getD i 0 = sumN R.length fun j => times (shf (ent R) a b i j) (x.getD j 0) := by
  obtain ⟨h1, h2, h3, h4⟩ := cmpOk_t h
  unfold imgL applyM
  rw [List.getD_eq_getElem?_getD, List.getElem?_map, sh_len, List.getElem?_range hi]
  show dotV _ _ i _ = _
  unfold dotV
  rw [h4]
  refine sumN_congr fun j hj => ?_
  rw [sh_ent R a b hi hj]
theorem imgL_len : (imgL R a b x).length = R.length := by unfold imgL applyM; rw [List.length_map, List.length_range, sh_len]
theorem cmp_at (h : cmpOk R a b x = true) {i : Nat} (hi : i < R.length) : (eigZ a x i < eigY R b x i ↔ x.getD i 0 < (imgL R a b x).getD i 0) ∧ (eigY R b x i < eigZ a x i ↔ (imgL R a b x).getD i 0 < x.getD i 0) := by
  rw [imgL_at h hi]
  obtain ⟨h1, h2, h3, h4⟩ := cmpOk_t h
  obtain ⟨n1, n2, hA⟩ := sq_sm h1
  obtain ⟨r1, r2, r3, r4, -⟩ := isRat_t h2
  have hx : ∀ j, j < R.length → x.getD j 0 = -1000000000000000 ∨ (-1000000 ≤ x.getD j 0 ∧ x.getD j 0 ≤ 1000000) := fun j hj => isVal_t ((isVec_t h3).2.2 j (by omega))
  have hn := near_rat h2
  have hn0 : Near 0 b := by unfold Near; omega
  have hm := sum_move (k := R.length) (f := fun j => times (shf (ent R) 0 b i j) (x.getD j 0)) (g := fun j => times (shf (ent R) a b i j) (x.getD j 0)) (a := a) (fun j hj => by
    show (times _ _ = _ ∧ times _ _ = _) ∨ (times _ _ = times _ _ + a ∧ _ ≤ times _ _ ∧ times _ _ ≤ _)
    by_cases e : ent R i j = -1000000000000000
    · left
      unfold shf times
      rw [if_pos e, if_pos e, if_pos (.inl rfl)]
      exact ⟨rfl, rfl⟩
    · rcases hx j hj with q | q
      · left
        unfold times
        rw [if_pos (.inr q), if_pos (.inr q)]
        exact ⟨rfl, rfl⟩
      · right
        obtain ⟨f1, f2, f3⟩ := shf_fin hn (hA i j hi hj) e
        obtain ⟨g1, g2, g3⟩ := shf_fin hn0 (hA i j hi hj) e
        unfold times
        rw [f1, g1, if_neg (by omega), if_neg (by omega)]
        omega) r1 r2
  have hxi := hx i hi
  unfold eigZ
  show (times a (x.getD i 0) < sumN R.length (fun j => times (shf (ent R) 0 b i j) (x.getD j 0)) ↔ _) ∧ (sumN R.length (fun j => times (shf (ent R) 0 b i j) (x.getD j 0)) < _ ↔ _)
  generalize sumN R.length (fun j => times (shf (ent R) 0 b i j) (x.getD j 0)) = s at *
  generalize sumN R.length (fun j => times (shf (ent R) a b i j) (x.getD j 0)) = t at *
  generalize x.getD i 0 = y at *
  unfold times
  by_cases e : y = -1000000000000000
  · rw [if_pos (.inr e)]; omega
  · rw [if_neg (by omega)]; omega
theorem some_eq : cmpSome x x.length = x.any fun v => decide (v ≠ -1000000000000000) := by
  unfold cmpSome
  rw [Bool.eq_iff_iff, List.any_eq_true, List.any_eq_true]
  constructor
  · rintro ⟨k, hk, h⟩
    have hk := List.mem_range.1 hk
    refine ⟨x[k], List.getElem_mem hk, ?_⟩
    simpa [hk] using h
  · rintro ⟨v, hv, h⟩
    obtain ⟨k, hk, rfl⟩ := List.mem_iff_getElem.1 hv
    exact ⟨k, List.mem_range.2 hk, by simpa [hk] using h⟩
theorem atMost_eq (h : cmpOk R a b x = true) : atMostB (imgL R a b x) x = !cmpUp R a b x x.length := by
  obtain ⟨-, -, -, h4⟩ := cmpOk_t h
  rw [Bool.eq_iff_iff, Bool.not_eq_true']
  unfold atMostB cmpUp
  rw [List.all_eq_true, List.any_eq_false, imgL_len]
  constructor
  · intro hh k hk
    have hk := List.mem_range.1 hk
    have := hh k (List.mem_range.2 (by omega))
    rw [decide_eq_true_eq] at this ⊢
    rw [(cmp_at h (i := k) (by omega)).1]; omega
  · intro hh k hk
    have hk := List.mem_range.1 hk
    have := hh k (List.mem_range.2 (by omega))
    rw [decide_eq_true_eq] at this ⊢
    rw [(cmp_at h (i := k) (by omega)).1] at this; omega
theorem same_eq (h : cmpOk R a b x = true) : decide (imgL R a b x = x) = (!cmpUp R a b x x.length && !cmpLo R a b x x.length) := by
  rw [← atMost_eq h]
  obtain ⟨-, -, -, h4⟩ := cmpOk_t h
  have hl := imgL_len (R := R) (a := a) (b := b) (x := x)
  rw [Bool.eq_iff_iff, Bool.and_eq_true, decide_eq_true_eq, Bool.not_eq_true']
  unfold cmpLo
  rw [List.any_eq_false]
  constructor
  · intro e
    refine ⟨?_, fun k hk => ?_⟩
    · unfold atMostB
      rw [List.all_eq_true]
      intro k hk
      rw [e]; simp
    · have hk := List.mem_range.1 hk
      rw [decide_eq_true_eq, (cmp_at h (i := k) (by omega)).2, e]; omega
  · rintro ⟨h1, h2⟩
    unfold atMostB at h1
    rw [List.all_eq_true, hl] at h1
    apply List.ext_getElem (by omega)
    intro k k1 k2
    have e1 := h1 k (List.mem_range.2 (by omega))
    have e2 := h2 k (List.mem_range.2 (by omega))
    rw [decide_eq_true_eq] at e1 e2
    rw [(cmp_at h (i := k) (by omega)).2] at e2
    have p1 : (imgL R a b x).getD k 0 = (imgL R a b x)[k] := by simp [k1]
    have p2 : x.getD k 0 = x[k] := by simp [k2]
    omega
theorem eig_cmp : eigB R a b x = decide (cmpE R a b x = 0) := by
  unfold eigB cmpE
  rw [imgB_cmp]
  by_cases h : cmpOk R a b x = true
  · rw [if_pos h, h, ← some_eq, same_eq h]
    cases cmpUp R a b x x.length <;> cases cmpSome x x.length <;> cases cmpLo R a b x x.length <;> rfl
  · rw [if_neg h]
    simp only [Bool.not_eq_true] at h
    rw [h]; rfl
theorem sub_cmp : subB R a b x = decide (cmpE R a b x ≤ 0) := by
  unfold subB cmpE
  rw [imgB_cmp]
  by_cases h : cmpOk R a b x = true
  · rw [if_pos h, h, ← some_eq, atMost_eq h]
    cases cmpUp R a b x x.length <;> cases cmpSome x x.length <;> cases cmpLo R a b x x.length <;> rfl
  · rw [if_neg h]
    simp only [Bool.not_eq_true] at h
    rw [h]; rfl
/-- A potential is a vector without Bottom that the image does not exceed. -/
theorem pot_img : isPotB R a b x = (imgB R a b x && (!(x.any fun v => decide (v = -1000000000000000)) && atMostB (imgL R a b x) x)) := by
  unfold isPotB holdsB
  rw [imgB_cmp]
  cases h1 : sqB R with
  | false => simp [cmpOk, h1]
  | true =>
    cases h2 : isRat a b with
    | false => simp [cmpOk, h1, h2]
    | true =>
      obtain ⟨n1, n2, -⟩ := sq_sm h1
      by_cases h4 : x.length = R.length
      · rw [decide_eq_true h4]
        have hl := imgL_len (R := R) (a := a) (b := b) (x := x)
        cases h3 : x.all isFin with
        | true =>
          have hf := List.all_eq_true.1 h3
          have hv : isVec x = true := by
            rw [isVec_all (by omega) (by omega)]
            exact List.all_eq_true.2 fun v hv => by unfold isVal; rw [hf v hv, Bool.or_true]
          have hok : cmpOk R a b x = true := by unfold cmpOk; rw [h1, h2, hv, decide_eq_true h4]; rfl
          have hne : ∀ v, v ∈ x → v ≠ -1000000000000000 := fun v hv e => by
            have := hf v hv
            simp [isFin] at this
            omega
          have e1 : (x.any fun v => decide (v ≠ -1000000000000000)) = true := by
            rw [List.any_eq_true]
            exact ⟨x[0]'(by omega), List.getElem_mem _, by rw [decide_eq_true_eq]; exact hne _ (List.getElem_mem _)⟩
          have e2 : (x.any fun v => decide (v = -1000000000000000)) = false := by
            rw [List.any_eq_false]
            intro v hv
            rw [decide_eq_true_eq]; exact hne v hv
          rw [hok, e1, e2]
          simp only [Bool.and_true, Bool.not_false, Bool.true_and]
          unfold atMostB
          rw [hl, Bool.eq_iff_iff, List.all_eq_true, List.all_eq_true]
          constructor
          · intro h i hi
            have hi' := List.mem_range.1 hi
            rw [imgL_at hok hi']; exact h i hi
          · intro h i hi
            have hi' := List.mem_range.1 hi
            rw [← imgL_at hok hi']; exact h i hi
        | false =>
          have : (isVec x && !(x.any fun v => decide (v = -1000000000000000))) = false := by
            cases hv : isVec x with
            | false => rfl
            | true =>
              rw [Bool.true_and, Bool.not_eq_false']
              rw [List.all_eq_false] at h3
              obtain ⟨v, hv1, hv2⟩ := h3
              rw [isVec_all (by omega) (by omega)] at hv
              have := List.all_eq_true.1 hv v hv1
              unfold isVal at this
              rw [Bool.or_eq_true, decide_eq_true_eq] at this
              rw [List.any_eq_true]
              exact ⟨v, hv1, by rw [decide_eq_true_eq]; rcases this with q | q
                                · exact q
                                · exact absurd q hv2⟩
          unfold cmpOk
          rw [h1, h2]
          cases h5 : isVec x with
          | false => simp
          | true =>
            rw [h5, Bool.true_and] at this
            rw [this]; simp
      · unfold cmpOk
        rw [decide_eq_false h4]; simp
end
end M
end Go.Proofs.YtcofjjipjcekjaaGreat

namespace Go.Proofs.YtcofjjipjcekjaaGreat
namespace M
def loV (b : Bool) : Int := if b then -1 else 0
def cmpAt (R : List (List Int)) (a b : Int) (x : List Int) (n : Nat) : Int := if cmpSome x n then loV (cmpLo R a b x n) else 1
theorem cmpE_no {R : List (List Int)} {a b : Int} {x : List Int} (h : cmpOk R a b x = false) : cmpE R a b x = 1 := by unfold cmpE; rw [h]; rfl
theorem cmpE_up {R : List (List Int)} {a b : Int} {x : List Int} {k : Nat} (h : cmpOk R a b x = true) (hk : k < x.length) (hu : eigZ a x k < eigY R b x k) : cmpE R a b x = 1 := by
  unfold cmpE
  rw [if_pos h, if_pos]
  unfold cmpUp
  rw [List.any_eq_true]
  exact ⟨k, List.mem_range.2 hk, by rw [decide_eq_true_eq]; exact hu⟩
theorem cmpE_end {R : List (List Int)} {a b : Int} {x : List Int} (h : cmpOk R a b x = true) (hu : cmpUp R a b x x.length = false) : cmpE R a b x = cmpAt R a b x x.length := by
  unfold cmpE cmpAt loV
  rw [if_pos h, hu]
  rfl
theorem up_next (R : List (List Int)) (a b : Int) (x : List Int) (k : Nat) : cmpUp R a b x (k + 1) = (cmpUp R a b x k || decide (eigZ a x k < eigY R b x k)) := any_next _ _
theorem lo_next (R : List (List Int)) (a b : Int) (x : List Int) (k : Nat) : cmpLo R a b x (k + 1) = (cmpLo R a b x k || decide (eigY R b x k < eigZ a x k)) := any_next _ _
theorem some_next (x : List Int) (k : Nat) : cmpSome x (k + 1) = (cmpSome x k || decide (x.getD k 0 ≠ -1000000000000000)) := any_next _ _
theorem cmpOk_of {R : List (List Int)} {a b : Int} {x : List Int} {c d e f : Bool} (h1 : sqB R = c) (h2 : isRat a b = d) (h3 : isVec x = e) (h4 : decide (x.length = R.length) = f) : cmpOk R a b x = (c && d && e && f) := by unfold cmpOk; rw [h1, h2, h3, h4]
end M
namespace V
open Go.RowKit
set_option maxRecDepth 100000 in
set_option maxHeartbeats 400000 in
theorem sStretch (a : Option Addr) (n cap : Nat) (R : List (List Int)) (k : Int) (w : World) (h : Mat w a n R) (hr : Rect R n n) (n1 : 1 ≤ n) (n2 : n ≤ 10) (hs : ∀ i j, i < n → j < n → M.Sm 1000000 (M.ent R i j)) (k1 : 1 ≤ k) (k2 : k ≤ 1000000) :
    Calls Tryz.prog 43 #[.slice a n cap, .int .i64 k] w (MPost n (M.mk n n (M.shf (M.ent R) 0 k)) w) := by
  have HA := Lib.hid h
  have HR := Lib.hid hr
  have HS := Lib.hid hs
  have HN : Hid (M.Near 0 k) := by show M.Near 0 k; unfold M.Near; omega
  clear h hr hs
  go_enter Tryz.func43, Tryz.ntmps43
  go_wp2_with fail
  refine (sShift _ _ _ R 0 k _ HA.out HR.out n1 n2 HS.out HN.out).mono ?_
  rintro e w1 ⟨b, c, rfl, ho, hb⟩
  have HO := Lib.hid ho
  have HB := Lib.hid hb
  clear ho hb
  go_wp2
  go_ret
  exact ⟨_, _, rfl, HO.out, HB.out⟩
set_option maxRecDepth 100000 in
set_option maxHeartbeats 4000000 in
theorem sCompareE (a : Option Addr) (n cap : Nat) (R : List (List Int)) (num den : Int) (a' : Option Addr) (N cap' : Nat) (l : List Int) (w0 : World) (h : Mat w0 a n R) (h' : Ints .i64 w0 a' N l) :
    Calls Tryz.prog 46 #[.slice a n cap, .agg #[.int .i64 num, .int .i64 den], .slice a' N cap'] w0 fun e w' => e = .returned (.int .i64 (M.cmpE R num den l)) ∧ Below w0.heap.size w0 w' := by
  obtain ⟨w, hwd⟩ : ∃ w, w = w0.alloc (rbox num den) := ⟨_, rfl⟩
  have HX : Hid (Boxed w0 w num den) := by show Boxed _ _ _ _; rw [hwd]; exact boxed _ _ _
  have HA : Hid (Mat w a n R) := h.below HX.out.below
  have HI : Hid (Ints .i64 w a' N l) := h'.below HX.out.below
  have HL := Lib.hid h'.1
  have hRl : R.length = n := h.1
  have HRl := Lib.hid hRl
  have HZ := Lib.hid HX.out.size
  have HCe : Hid (∀ wr, Below w.heap.size w wr → wr.cell? ⟨w0.heap.size, 0, none⟩ = some (.int .i64 num) ∧ wr.cell? ⟨w0.heap.size, 1, none⟩ = some (.int .i64 den)) := fun wr hb => HX.out.cells hb
  obtain ⟨bs, hs⟩ : ∃ b, b = M.sqB R := ⟨_, rfl⟩
  have HS := Lib.hid hs.symm
  obtain ⟨br, hr⟩ : ∃ b, b = M.isRat num den := ⟨_, rfl⟩
  have HR := Lib.hid hr.symm
  obtain ⟨bv, hv⟩ : ∃ b, b = M.isVec l := ⟨_, rfl⟩
  have HV := Lib.hid hv.symm
  cases bs with
  | false =>
    have HE : Hid (M.cmpE R num den l = 1) := M.cmpE_no (by unfold M.cmpOk; rw [← hs]; rfl)
    clear h h' hs hr hv hRl
    go_enter Tryz.func46, Tryz.ntmps46
    go_wp2_with fail
    simp only [← hwd] at *
    clear hwd
    refine (sSquare_b _ _ _ R _ false HS.out HA.out).mono ?_
    rintro e w' ⟨rfl, q, rfl⟩
    obtain ⟨p0, p1⟩ := HCe.out _ (b_draws w q)
    have HI0 : Hid (Ints .i64 (w.drewN q) a' N l) := HI.out.below (b_draws w q)
    go_wp2
    go_ret
    exact ⟨by rw [HE.out]; rfl, HX.out.trans (b_draws w q)⟩
  | true =>
    cases br with
    | false =>
      have HE : Hid (M.cmpE R num den l = 1) := M.cmpE_no (by unfold M.cmpOk; rw [← hr]; simp)
      clear h h' hs hr hv hRl
      go_enter Tryz.func46, Tryz.ntmps46
      go_wp2_with fail
      simp only [← hwd] at *
      clear hwd
      refine (sSquare_b _ _ _ R _ true HS.out HA.out).mono ?_
      rintro e w' ⟨rfl, q, rfl⟩
      obtain ⟨p0, p1⟩ := HCe.out _ (b_draws w q)
      have HI0 : Hid (Ints .i64 (w.drewN q) a' N l) := HI.out.below (b_draws w q)
      go_wp2_with fail
      refine (sIsRatio_b _ _ false HR.out _).mono ?_
      rintro e w1 ⟨rfl, hb1⟩
      have HB1 : Hid (Below w.heap.size w w1) := (b_draws w q).trans hb1
      have HI1 : Hid (Ints .i64 w1 a' N l) := HI0.out.below hb1
      obtain ⟨p2, p3⟩ := HCe.out _ HB1.out
      clear hb1
      go_wp2
      go_ret
      exact ⟨by rw [HE.out]; rfl, HX.out.trans HB1.out⟩
    | true =>
      cases bv with
      | false =>
        have HE : Hid (M.cmpE R num den l = 1) := M.cmpE_no (by unfold M.cmpOk; rw [← hv]; simp)
        clear h h' hs hr hv hRl
        go_enter Tryz.func46, Tryz.ntmps46
        go_wp2_with fail
        simp only [← hwd] at *
        clear hwd
        refine (sSquare_b _ _ _ R _ true HS.out HA.out).mono ?_
        rintro e w' ⟨rfl, q, rfl⟩
        obtain ⟨p0, p1⟩ := HCe.out _ (b_draws w q)
        have HI0 : Hid (Ints .i64 (w.drewN q) a' N l) := HI.out.below (b_draws w q)
        go_wp2_with fail
        refine (sIsRatio_b _ _ true HR.out _).mono ?_
        rintro e w1 ⟨rfl, hb1⟩
        have HB1 : Hid (Below w.heap.size w w1) := (b_draws w q).trans hb1
        have HI1 : Hid (Ints .i64 w1 a' N l) := HI0.out.below hb1
        obtain ⟨p2, p3⟩ := HCe.out _ HB1.out
        clear hb1
        go_wp2_with fail
        refine (sVector_b _ _ _ l _ false HV.out HI1.out).mono ?_
        rintro e w' ⟨rfl, rfl⟩
        go_wp2
        go_ret
        exact ⟨by rw [HE.out]; rfl, HX.out.trans HB1.out⟩
      | true =>
        by_cases hN : N = n
        · subst hN
          have hok : M.cmpOk R num den l = true := by unfold M.cmpOk; rw [← hs, ← hr, ← hv, HL.out, hRl]; simp
          have HOk := Lib.hid hok
          obtain ⟨rR, n1, n2, hsm⟩ := sq_parts HA.out hs.symm
          have HRe := Lib.hid rR
          have HSm := Lib.hid hsm
          obtain ⟨d1, d2, d3, d4, -⟩ := M.isRat_t hr.symm
          obtain ⟨-, -, v3⟩ := M.isVec_t hv.symm
          have HVal : Hid (∀ k, k < N → l.getD k 0 = -1000000000000000 ∨ (-1000000 ≤ l.getD k 0 ∧ l.getD k 0 ≤ 1000000)) := fun k hk => M.isVal_t (v3 k (by rw [HL.out]; exact hk))
          have HN0 : Hid (M.Near 0 den) := by show M.Near 0 den; unfold M.Near; omega
          have HB : Hid (∀ k, k < N → M.Big (l.getD k 0)) := fun k hk => M.big_val (v3 k (by rw [HL.out]; exact hk))
          have HM : Hid (∀ i k, i < N → k < N → M.Big (M.ent (M.mk N N (M.shf (M.ent R) 0 den)) i k)) := fun i k hi hk => by
            rw [M.ent_mk _ _ _ _ _ hi hk]; exact M.big_sm (M.shf_sm HN0.out (hsm i k hi hk)) (by omega)
          obtain ⟨y, hy⟩ : ∃ y, y = M.applyM (M.mk N N (M.shf (M.ent R) 0 den)) l := ⟨_, rfl⟩
          have HYe : Hid (∀ k, k < N → y.getD k 0 = M.eigY R den l k) := fun k hk => by
            rw [hy]
            unfold M.applyM
            rw [List.getD_eq_getElem?_getD, List.getElem?_map, M.mk_length, List.getElem?_range hk]
            show M.dotV _ _ k _ = _
            unfold M.dotV M.eigY
            rw [HL.out, hRl]
            exact M.sumN_congr fun j hj => by rw [M.ent_mk _ _ _ _ _ hk hj]
          have HY := Lib.hid hy
          have HNb : Hid (M.Big num) := M.big_sm (L := 1000000) (.inr ⟨d1, d2⟩) (by omega)
          clear h h' hs hr hv hRl hok rR hsm v3 hy
          go_enter Tryz.func46, Tryz.ntmps46
          go_wp2_with fail
          simp only [← hwd] at *
          clear hwd
          refine (sSquare_b _ _ _ R _ true HS.out HA.out).mono ?_
          rintro e w' ⟨rfl, q, rfl⟩
          obtain ⟨p0, p1⟩ := HCe.out _ (b_draws w q)
          have HI0 : Hid (Ints .i64 (w.drewN q) a' N l) := HI.out.below (b_draws w q)
          go_wp2_with fail
          refine (sIsRatio_b _ _ true HR.out _).mono ?_
          rintro e w1 ⟨rfl, hb1⟩
          have HB1 : Hid (Below w.heap.size w w1) := (b_draws w q).trans hb1
          have HI1 : Hid (Ints .i64 w1 a' N l) := HI0.out.below hb1
          obtain ⟨p2, p3⟩ := HCe.out _ HB1.out
          clear hb1
          go_wp2_with fail
          refine (sVector_b _ _ _ l _ true HV.out HI1.out).mono ?_
          rintro e w' ⟨rfl, rfl⟩
          go_wp2_with fail
          refine (sStretch _ _ _ R den _ (HA.out.below HB1.out) HRe.out n1 n2 HSm.out d3 d4).mono ?_
          rintro e w3 ⟨b3, c3, rfl, ho, hb⟩
          have HO3 := Lib.hid ho
          have HB3 := Lib.hid (HB1.out.trans (hb.mono HB1.out.size))
          have HI3 : Hid (Ints .i64 w3 a' N l) := HI1.out.below hb
          clear ho hb p0 p1 p2 p3
          go_wp2_with fail
          refine (sApplyB _ _ _ _ _ _ _ l _ HO3.out.mat HI3.out (rect_mk _ _ _) HM.out HB.out n2 n1 n2).mono ?_
          rintro e w4 ⟨b4, c4, rfl, ho, hb⟩
          rw [← HY.out] at ho
          have HYi := Lib.hid ho.ints'
          have HB4 := Lib.hid (HB3.out.trans (hb.mono HB3.out.size))
          have HI4 : Hid (Ints .i64 w4 a' N l) := HI3.out.below hb
          clear ho hb
          go_wp2
          go_loopw [8, 9, 10, 11] (fun lo so i _ wr => ∃ k : Nat, k ≤ N ∧ i = .int .i64 k ∧ lo = .int .i64 (M.loV (M.cmpLo R num den l k)) ∧ so = .bool (M.cmpSome l k) ∧ Hid (M.cmpUp R num den l k = false) ∧ ∃ q, wr = w4.drewN q) (fun _ _ i _ _ => N - (intOf i).toNat)
          case atStart => exact ⟨0, Nat.zero_le _, rfl, rfl, rfl, rfl, 0, rfl⟩
          case round =>
            obtain ⟨k, hk, rfl, rfl, rfl, HU, q2, rfl⟩ := hrel
            have HBq : Hid (Below w.heap.size w (w4.drewN q2)) := below_drewN HB4.out _
            by_cases hlt : k < N
            · have hki : (k : Int) < (N : Int) := by omega
              obtain ⟨e1, e2, u, rfl, -, hu, cu⟩ := HYi.out.at k hlt
              obtain ⟨e3, e4, v, rfl, -, hv, cv⟩ := HI4.out.at k hlt
              rw [HYe.out k hlt] at hu
              obtain ⟨z, hz⟩ : ∃ z, z = M.eigZ num l k := ⟨_, rfl⟩
              have HCt : Hid (∀ w : World, Calls Tryz.prog 72 #[.int .i64 num, .int .i64 v] w fun e w' => e = .returned (.int .i64 z) ∧ w = w') := by
                intro w
                rw [hz, hv]
                exact sTimesB _ _ _ HNb.out (HB.out k hlt)
              obtain ⟨p0, p1⟩ := HCe.out _ HB4.out
              have hsn := M.some_next l k
              rw [← hv] at hsn
              have hln := M.lo_next R num den l k
              have hun := M.up_next R num den l k
              rw [← hu, ← hz] at hln hun
              rw [HU.out] at hun
              have HLn := Lib.hid hln
              have HUn := Lib.hid hun
              have HUu := Lib.hid hu
              have HZz := Lib.hid hz
              obtain ⟨sk, hsk⟩ : ∃ s, s = M.cmpSome l k := ⟨_, rfl⟩
              have hsn2 : M.cmpSome l (k + 1) = (sk || (v != -1000000000000000)) := by
                rw [hsn, hsk]; congr 1
                by_cases e : v = -1000000000000000 <;> simp [e]
              have HSn := Lib.hid hsn2
              rw [← hsk]
              clear hu hv hz hsn hln hun hsn2 hsk
              cases sk with
              | true =>
                rcases Int.lt_trichotomy z u with hc | hc | hc
                · have HE : Hid (M.cmpE R num den l = 1) := M.cmpE_up HOk.out (by rw [HL.out]; exact hlt) (by rw [← HUu.out, ← HZz.out]; exact hc)
                  generalize M.loV (M.cmpLo R num den l k) = lo at *
                  go_wp2
                  go_quiet ((go_at_call 72; exact q_more_s (HCt.out _)))
                  go_wp2
                  go_ret
                  exact ⟨by rw [HE.out]; rfl, HX.out.trans (below_drewN HB4.out _)⟩
                · have HUN : Hid (M.cmpUp R num den l (k + 1) = false) := by show _ = _; rw [HUn.out, decide_eq_false (by omega)]; rfl
                  have HLN : Hid (M.cmpLo R num den l (k + 1) = M.cmpLo R num den l k) := by show _ = _; rw [HLn.out, decide_eq_false (by omega), Bool.or_false]
                  have hc1 : ¬ z < u := by omega
                  have hc2 : ¬ u < z := by omega
                  clear hc
                  obtain ⟨lo, hlo⟩ : ∃ x, x = M.loV (M.cmpLo R num den l k) := ⟨_, rfl⟩
                  have HLo := Lib.hid hlo
                  rw [← hlo]
                  clear hlo
                  go_wp2
                  go_quiet ((go_at_call 72; exact q_more_s (HCt.out _)))
                  go_wp2
                  go_roundw
                  case rel => exact ⟨k + 1, by omega, by go_num, by rw [HLN.out, HLo.out], by rw [HSn.out]; rfl, HUN, _, rfl⟩
                  case measure => simp [intOf]; omega
                · have HUN : Hid (M.cmpUp R num den l (k + 1) = false) := by show _ = _; rw [HUn.out, decide_eq_false (by omega)]; rfl
                  have HLN : Hid (M.cmpLo R num den l (k + 1) = true) := by show _ = _; rw [HLn.out, decide_eq_true hc, Bool.or_true]
                  have hc1 : ¬ z < u := by omega
                  obtain ⟨lo, hlo⟩ : ∃ x, x = M.loV (M.cmpLo R num den l k) := ⟨_, rfl⟩
                  rw [← hlo]
                  clear hlo
                  go_wp2
                  go_quiet ((go_at_call 72; exact q_more_s (HCt.out _)))
                  go_wp2
                  go_roundw
                  case rel => exact ⟨k + 1, by omega, by go_num, by rw [HLN.out]; rfl, by rw [HSn.out]; rfl, HUN, _, rfl⟩
                  case measure => simp [intOf]; omega
              | false =>
                by_cases hvb : v = -1000000000000000
                · have hv1 : (v != -1000000000000000) = false := by simp [hvb]
                  rw [hv1] at HSn
                  clear hvb
                  rcases Int.lt_trichotomy z u with hc | hc | hc
                  · have HE : Hid (M.cmpE R num den l = 1) := M.cmpE_up HOk.out (by rw [HL.out]; exact hlt) (by rw [← HUu.out, ← HZz.out]; exact hc)
                    generalize M.loV (M.cmpLo R num den l k) = lo at *
                    go_wp2
                    go_quiet ((go_at_call 72; exact q_more_s (HCt.out _)))
                    go_wp2
                    go_ret
                    exact ⟨by rw [HE.out]; rfl, HX.out.trans (below_drewN HB4.out _)⟩
                  · have HUN : Hid (M.cmpUp R num den l (k + 1) = false) := by show _ = _; rw [HUn.out, decide_eq_false (by omega)]; rfl
                    have HLN : Hid (M.cmpLo R num den l (k + 1) = M.cmpLo R num den l k) := by show _ = _; rw [HLn.out, decide_eq_false (by omega), Bool.or_false]
                    have hc1 : ¬ z < u := by omega
                    have hc2 : ¬ u < z := by omega
                    clear hc
                    obtain ⟨lo, hlo⟩ : ∃ x, x = M.loV (M.cmpLo R num den l k) := ⟨_, rfl⟩
                    have HLo := Lib.hid hlo
                    rw [← hlo]
                    clear hlo
                    go_wp2
                    go_quiet ((go_at_call 72; exact q_more_s (HCt.out _)))
                    go_wp2
                    go_roundw
                    case rel => exact ⟨k + 1, by omega, by go_num, by rw [HLN.out, HLo.out], by rw [HSn.out]; rfl, HUN, _, rfl⟩
                    case measure => simp [intOf]; omega
                  · have HUN : Hid (M.cmpUp R num den l (k + 1) = false) := by show _ = _; rw [HUn.out, decide_eq_false (by omega)]; rfl
                    have HLN : Hid (M.cmpLo R num den l (k + 1) = true) := by show _ = _; rw [HLn.out, decide_eq_true hc, Bool.or_true]
                    have hc1 : ¬ z < u := by omega
                    obtain ⟨lo, hlo⟩ : ∃ x, x = M.loV (M.cmpLo R num den l k) := ⟨_, rfl⟩
                    rw [← hlo]
                    clear hlo
                    go_wp2
                    go_quiet ((go_at_call 72; exact q_more_s (HCt.out _)))
                    go_wp2
                    go_roundw
                    case rel => exact ⟨k + 1, by omega, by go_num, by rw [HLN.out]; rfl, by rw [HSn.out]; rfl, HUN, _, rfl⟩
                    case measure => simp [intOf]; omega
                · have hv1 : (v != -1000000000000000) = true := by simpa using hvb
                  rw [hv1] at HSn
                  clear hvb
                  rcases Int.lt_trichotomy z u with hc | hc | hc
                  · have HE : Hid (M.cmpE R num den l = 1) := M.cmpE_up HOk.out (by rw [HL.out]; exact hlt) (by rw [← HUu.out, ← HZz.out]; exact hc)
                    generalize M.loV (M.cmpLo R num den l k) = lo at *
                    go_wp2
                    go_quiet ((go_at_call 72; exact q_more_s (HCt.out _)))
                    go_wp2
                    go_ret
                    exact ⟨by rw [HE.out]; rfl, HX.out.trans (below_drewN HB4.out _)⟩
                  · have HUN : Hid (M.cmpUp R num den l (k + 1) = false) := by show _ = _; rw [HUn.out, decide_eq_false (by omega)]; rfl
                    have HLN : Hid (M.cmpLo R num den l (k + 1) = M.cmpLo R num den l k) := by show _ = _; rw [HLn.out, decide_eq_false (by omega), Bool.or_false]
                    have hc1 : ¬ z < u := by omega
                    have hc2 : ¬ u < z := by omega
                    clear hc
                    obtain ⟨lo, hlo⟩ : ∃ x, x = M.loV (M.cmpLo R num den l k) := ⟨_, rfl⟩
                    have HLo := Lib.hid hlo
                    rw [← hlo]
                    clear hlo
                    go_wp2
                    go_quiet ((go_at_call 72; exact q_more_s (HCt.out _)))
                    go_wp2
                    go_roundw
                    case rel => exact ⟨k + 1, by omega, by go_num, by rw [HLN.out, HLo.out], by rw [HSn.out]; rfl, HUN, _, rfl⟩
                    case measure => simp [intOf]; omega
                  · have HUN : Hid (M.cmpUp R num den l (k + 1) = false) := by show _ = _; rw [HUn.out, decide_eq_false (by omega)]; rfl
                    have HLN : Hid (M.cmpLo R num den l (k + 1) = true) := by show _ = _; rw [HLn.out, decide_eq_true hc, Bool.or_true]
                    have hc1 : ¬ z < u := by omega
                    obtain ⟨lo, hlo⟩ : ∃ x, x = M.loV (M.cmpLo R num den l k) := ⟨_, rfl⟩
                    rw [← hlo]
                    clear hlo
                    go_wp2
                    go_quiet ((go_at_call 72; exact q_more_s (HCt.out _)))
                    go_wp2
                    go_roundw
                    case rel => exact ⟨k + 1, by omega, by go_num, by rw [HLN.out]; rfl, by rw [HSn.out]; rfl, HUN, _, rfl⟩
                    case measure => simp [intOf]; omega
            · obtain rfl : k = N := by omega
              have HE : Hid (M.cmpE R num den l = M.cmpAt R num den l k) := by
                show _ = _
                rw [M.cmpE_end HOk.out (by rw [HL.out]; exact HU.out), HL.out]
              obtain ⟨sk, hsk⟩ : ∃ s, s = M.cmpSome l k := ⟨_, rfl⟩
              have HSk := Lib.hid hsk
              rw [← hsk]
              clear hsk
              cases sk with
              | true =>
                have HF : Hid (M.cmpE R num den l = M.loV (M.cmpLo R num den l k)) := by show _ = _; rw [HE.out]; unfold M.cmpAt; rw [← HSk.out, if_pos rfl]
                generalize M.loV (M.cmpLo R num den l k) = lo at *
                go_wp2
                go_ret
                exact ⟨by rw [HF.out]; rfl, HX.out.trans HBq.out⟩
              | false =>
                have HF : Hid (M.cmpE R num den l = 1) := by show _ = _; rw [HE.out]; unfold M.cmpAt; rw [← HSk.out]; rfl
                generalize M.loV (M.cmpLo R num den l k) = lo at *
                go_wp2
                go_ret
                exact ⟨by rw [HF.out]; rfl, HX.out.trans HBq.out⟩
        · have HE : Hid (M.cmpE R num den l = 1) := M.cmpE_no (by unfold M.cmpOk; rw [decide_eq_false (fun k => hN (by rw [← HL.out, k, hRl]))]; simp)
          have hne : ((N : Int) != (n : Int)) = true := by simp; omega
          have hne2 : ((N : Int) == (n : Int)) = false := by simp; omega
          have hne3 : (N == n) = false := by simpa using hN
          clear h h' hs hr hv hRl
          go_enter Tryz.func46, Tryz.ntmps46
          go_wp2_with fail
          simp only [← hwd] at *
          clear hwd
          refine (sSquare_b _ _ _ R _ true HS.out HA.out).mono ?_
          rintro e w' ⟨rfl, q, rfl⟩
          obtain ⟨p0, p1⟩ := HCe.out _ (b_draws w q)
          have HI0 : Hid (Ints .i64 (w.drewN q) a' N l) := HI.out.below (b_draws w q)
          go_wp2_with fail
          refine (sIsRatio_b _ _ true HR.out _).mono ?_
          rintro e w1 ⟨rfl, hb1⟩
          have HB1 : Hid (Below w.heap.size w w1) := (b_draws w q).trans hb1
          have HI1 : Hid (Ints .i64 w1 a' N l) := HI0.out.below hb1
          obtain ⟨p2, p3⟩ := HCe.out _ HB1.out
          clear hb1
          go_wp2_with fail
          refine (sVector_b _ _ _ l _ true HV.out HI1.out).mono ?_
          rintro e w' ⟨rfl, rfl⟩
          go_wp2
          go_ret
          exact ⟨by rw [HE.out]; rfl, HX.out.trans HB1.out⟩
end V
end Go.Proofs.YtcofjjipjcekjaaGreat

namespace Go.Proofs.YtcofjjipjcekjaaGreat
namespace M
def strRes (R : List (List Int)) (k : Int) : List (List Int) × Int := if sqB R then (if 1 ≤ k ∧ k ≤ 1000000 then (if isMat (shM R 0 k) then (shM R 0 k, 0) else ([], 3)) else ([], 2)) else ([], 1)
theorem strRes_ok (R : List (List Int)) (k : Int) : okM (strRes R k).1 := by
  unfold strRes
  split
  · split
    · split
      · next h => exact .inr h
      · exact .inl rfl
    · exact .inl rfl
  · exact .inl rfl
end M
namespace V
open Go.RowKit
set_option maxRecDepth 100000 in
set_option maxHeartbeats 400000 in
theorem sIsEigenVector (a : Option Addr) (n cap : Nat) (R : List (List Int)) (num den : Int) (a' : Option Addr) (N cap' : Nat) (l : List Int) (w : World) (h : Mat w a n R) (h' : Ints .i64 w a' N l) :
    Calls Tryz.prog 14 #[.slice a n cap, .agg #[.int .i64 num, .int .i64 den], .slice a' N cap'] w fun e w' => e = .returned (.bool (M.eigB R num den l)) ∧ Below w.heap.size w w' := by
  obtain ⟨wb, hwb⟩ : ∃ x, x = w.alloc (rbox num den) := ⟨_, rfl⟩
  have HX : Hid (Boxed w wb num den) := by show Boxed _ _ _ _; rw [hwb]; exact boxed _ _ _
  have HA := Lib.hid (h.below HX.out.below)
  have HI := Lib.hid (h'.below HX.out.below)
  obtain ⟨c0, c1⟩ := HX.out.cells (Below.refl _ _)
  have hz := HX.out.size
  obtain ⟨k, hk⟩ : ∃ k, k = M.cmpE R num den l := ⟨_, rfl⟩
  have HK := Lib.hid hk
  have HE : Hid (M.eigB R num den l = (k == 0)) := by show _ = _; rw [M.eig_cmp, hk]; rfl
  clear h h' hk
  go_enter Tryz.func14, Tryz.ntmps14
  go_wp2_with fail
  simp only [← hwb] at *
  clear hwb
  refine (sCompareE _ _ _ R num den _ _ _ l _ HA.out HI.out).mono ?_
  rintro e w1 ⟨rfl, hb⟩
  rw [← HK.out]
  have HB := Lib.hid (HX.out.trans hb)
  clear hb
  go_wp2
  go_ret
  exact ⟨retB HE.out.symm, HB.out⟩
set_option maxRecDepth 100000 in
set_option maxHeartbeats 400000 in
theorem sIsSubEigen (a : Option Addr) (n cap : Nat) (R : List (List Int)) (num den : Int) (a' : Option Addr) (N cap' : Nat) (l : List Int) (w : World) (h : Mat w a n R) (h' : Ints .i64 w a' N l) :
    Calls Tryz.prog 16 #[.slice a n cap, .agg #[.int .i64 num, .int .i64 den], .slice a' N cap'] w fun e w' => e = .returned (.bool (M.subB R num den l)) ∧ Below w.heap.size w w' := by
  obtain ⟨wb, hwb⟩ : ∃ x, x = w.alloc (rbox num den) := ⟨_, rfl⟩
  have HX : Hid (Boxed w wb num den) := by show Boxed _ _ _ _; rw [hwb]; exact boxed _ _ _
  have HA := Lib.hid (h.below HX.out.below)
  have HI := Lib.hid (h'.below HX.out.below)
  obtain ⟨c0, c1⟩ := HX.out.cells (Below.refl _ _)
  have hz := HX.out.size
  obtain ⟨k, hk⟩ : ∃ k, k = M.cmpE R num den l := ⟨_, rfl⟩
  have HK := Lib.hid hk
  have HE : Hid (M.subB R num den l = decide (k ≤ 0)) := by show _ = _; rw [M.sub_cmp, hk]
  clear h h' hk
  go_enter Tryz.func16, Tryz.ntmps16
  go_wp2_with fail
  simp only [← hwb] at *
  clear hwb
  refine (sCompareE _ _ _ R num den _ _ _ l _ HA.out HI.out).mono ?_
  rintro e w1 ⟨rfl, hb⟩
  rw [← HK.out]
  have HB := Lib.hid (HX.out.trans hb)
  clear hb
  go_wp2
  go_ret
  exact ⟨retB HE.out.symm, HB.out⟩
set_option maxRecDepth 100000 in
set_option maxHeartbeats 1000000 in
theorem stretchMatrix (a : Option Addr) (n cap : Nat) (R : List (List Int)) (k : Int) (w : World) (h : Mat w a n R) :
    Calls Tryz.prog 10 #[.slice a n cap, .int .i64 k] w (MRes (M.strRes R k) w) := by
  have HA := Lib.hid h
  have HRn := Lib.hid h.1
  by_cases hs : M.sqB R = true
  · have HS := Lib.hid hs
    by_cases hk : 1 ≤ k ∧ k ≤ 1000000
    · obtain ⟨r1, n1, n2, r4⟩ := sq_parts HA.out hs
      have HQ := Lib.hid r1
      have HSm := Lib.hid r4
      obtain ⟨k1, k2⟩ := hk
      obtain ⟨b, hb⟩ : ∃ b, b = M.isMat (M.shM R 0 k) := ⟨_, rfl⟩
      have HM := Lib.hid hb.symm
      have HE : Hid (M.strRes R k = if b then (M.shM R 0 k, 0) else ([], 3)) := by
        show _ = _; rw [hb]; unfold M.strRes; rw [if_pos hs, if_pos ⟨k1, k2⟩]
      have HSh : Hid (M.mk n n (M.shf (M.ent R) 0 k) = M.shM R 0 k) := by show _ = _; unfold M.shM; rw [HRn.out]
      have HNr : Hid (M.Near 0 k) := by show M.Near 0 k; unfold M.Near; omega
      clear h hs hb r1 r4
      go_enter Tryz.func10, Tryz.ntmps10
      go_wp2_with fail
      refine (isSquare_b _ _ _ R _ true HS.out HA.out).mono ?_
      rintro e w' ⟨rfl, rfl⟩
      go_wp2_with fail
      refine (shiftedBy _ _ _ R _ _ _ HA.out HQ.out n1 n2 HSm.out HNr.out).mono ?_
      rintro e w2 ⟨a2, cap2, rfl, hO, hb⟩
      rw [HSh.out] at hO
      have HO := Lib.hid hO
      have HB2 := Lib.hid hb
      clear hO hb
      cases b with
      | true =>
        go_wp2_with fail
        refine (checkedMatrix_t _ _ _ _ _ HM.out HO.out.mat).mono ?_
        rintro e w' ⟨rfl, rfl⟩
        go_wp2
        go_ret2
        rw [HE.out]
        exact ⟨_, _, _, rfl, HO.out, HB2.out⟩
      | false =>
        go_wp2_with fail
        refine (checkedMatrix_f _ _ _ _ _ HM.out HO.out.mat).mono ?_
        rintro e w' ⟨rfl, rfl⟩
        go_wp2
        go_ret2
        exact MRes.nil HE.out HB2.out
    · have HE : Hid (M.strRes R k = ([], 2)) := by show _ = _; unfold M.strRes; rw [if_pos hs, if_neg hk]
      have hk' : k < 1 ∨ 1000000 < k := by omega
      clear h hs hk
      rcases hk' with hk | hk
      · go_enter Tryz.func10, Tryz.ntmps10
        go_wp2_with fail
        refine (isSquare_b _ _ _ R _ true HS.out HA.out).mono ?_
        rintro e w' ⟨rfl, rfl⟩
        go_wp2
        go_ret2
        exact MRes.nil HE.out (Below.refl _ _)
      · have hk1 : ¬ k < 1 := by omega
        go_enter Tryz.func10, Tryz.ntmps10
        go_wp2_with fail
        refine (isSquare_b _ _ _ R _ true HS.out HA.out).mono ?_
        rintro e w' ⟨rfl, rfl⟩
        go_wp2
        go_ret2
        exact MRes.nil HE.out (Below.refl _ _)
  · simp only [Bool.not_eq_true] at hs
    have HS := Lib.hid hs
    have HE : Hid (M.strRes R k = ([], 1)) := by show _ = _; unfold M.strRes; rw [hs]; rfl
    clear h hs
    go_enter Tryz.func10, Tryz.ntmps10
    go_wp2_with fail
    refine (isSquare_b _ _ _ R _ false HS.out HA.out).mono ?_
    rintro e w' ⟨rfl, rfl⟩
    go_wp2
    go_ret2
    exact MRes.nil HE.out (Below.refl _ _)
set_option maxRecDepth 100000 in
set_option maxHeartbeats 1000000 in
theorem sStretchMatrix (a : Option Addr) (n cap : Nat) (R : List (List Int)) (k : Int) (w : World) (h : Mat w a n R) :
    Calls Tryz.prog 11 #[.slice a n cap, .int .i64 k] w (MRes (M.strRes R k) w) := by
  have HA := Lib.hid h
  have HRn := Lib.hid h.1
  by_cases hs : M.sqB R = true
  · have HS := Lib.hid hs
    obtain ⟨c, hc⟩ : ∃ c, c = (decide (1 ≤ k) && decide (k ≤ 1000000)) := ⟨_, rfl⟩
    have HC := Lib.hid hc
    cases c with
    | true =>
      have hk : 1 ≤ k ∧ k ≤ 1000000 := by simpa using hc.symm
      obtain ⟨r1, n1, n2, r4⟩ := sq_parts HA.out hs
      have HQ := Lib.hid r1
      have HSm := Lib.hid r4
      obtain ⟨k1, k2⟩ := hk
      obtain ⟨b, hb⟩ : ∃ b, b = M.isMat (M.shM R 0 k) := ⟨_, rfl⟩
      have HM := Lib.hid hb.symm
      have HE : Hid (M.strRes R k = if b then (M.shM R 0 k, 0) else ([], 3)) := by
        show _ = _; rw [hb]; unfold M.strRes; rw [if_pos hs, if_pos ⟨k1, k2⟩]
      have HSh : Hid (M.mk n n (M.shf (M.ent R) 0 k) = M.shM R 0 k) := by show _ = _; unfold M.shM; rw [HRn.out]
      clear h hs hb r1 r4 hc
      go_enter Tryz.func11, Tryz.ntmps11
      go_wp2_with fail
      refine (sSquare_b _ _ _ R _ true HS.out HA.out).mono ?_
      rintro e w' ⟨rfl, q, rfl⟩
      go_wp2_with fail
      refine (sIn _ _ _ _).mono ?_
      rintro e w' ⟨rfl, rfl⟩
      rw [← HC.out]
      go_wp2_with fail
      refine (sStretch _ _ _ R k _ (HA.out.below (b_draws _ _)) HQ.out n1 n2 HSm.out k1 k2).mono ?_
      rintro e w2 ⟨a2, cap2, rfl, hO, hb⟩
      rw [HSh.out] at hO
      have HO := Lib.hid hO
      have HB2 := Lib.hid ((b_draws w q).trans hb)
      clear hO hb
      cases b with
      | true =>
        go_wp2_with fail
        refine (sResult _ _ _ _ true HM.out _ HO.out.mat).mono ?_
        rintro e w' ⟨rfl, q2, rfl⟩
        go_wp2
        go_ret2
        rw [HE.out]
        exact ⟨_, _, _, rfl, HO.out.below (b_draws _ _), below_drewN HB2.out _⟩
      | false =>
        go_wp2_with fail
        refine (sResult _ _ _ _ false HM.out _ HO.out.mat).mono ?_
        rintro e w' ⟨rfl, q2, rfl⟩
        go_wp2
        go_ret2
        exact MRes.nil HE.out (below_drewN HB2.out _)
    | false =>
      have HE : Hid (M.strRes R k = ([], 2)) := by
        show _ = _
        unfold M.strRes
        rw [if_pos hs, if_neg]
        intro k
        rw [decide_eq_true k.1, decide_eq_true k.2] at hc
        cases hc
      clear h hs hc
      go_enter Tryz.func11, Tryz.ntmps11
      go_wp2_with fail
      refine (sSquare_b _ _ _ R _ true HS.out HA.out).mono ?_
      rintro e w' ⟨rfl, q, rfl⟩
      go_wp2_with fail
      refine (sIn _ _ _ _).mono ?_
      rintro e w' ⟨rfl, rfl⟩
      rw [← HC.out]
      go_wp2
      go_ret2
      exact MRes.nil HE.out (b_draws _ _)
  · simp only [Bool.not_eq_true] at hs
    have HS := Lib.hid hs
    have HE : Hid (M.strRes R k = ([], 1)) := by show _ = _; unfold M.strRes; rw [hs]; rfl
    clear h hs
    go_enter Tryz.func11, Tryz.ntmps11
    go_wp2_with fail
    refine (sSquare_b _ _ _ R _ false HS.out HA.out).mono ?_
    rintro e w' ⟨rfl, q, rfl⟩
    go_wp2
    go_ret2
    exact MRes.nil HE.out (b_draws _ _)
end V
end Go.Proofs.YtcofjjipjcekjaaGreat
