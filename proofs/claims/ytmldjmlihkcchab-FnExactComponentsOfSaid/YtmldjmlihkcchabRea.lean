/- Plain facts on which nodes reach each other, and on matrices without the arcs that lie on no cycle. -/
import Derived.Test.YtmldjmlihkcchabMatZ
namespace Go.Proofs.Ytmldjmlihkcchab
namespace M
/-- The node v reaches i. -/
def Rch (A : Nat → Nat → Int) (n v i : Nat) : Prop :=
  ∃ (t : Nat) (x : Nat → Nat), x 0 = v ∧ x t = i ∧ (∀ u, u ≤ t → x u < n) ∧ ∀ u, u < t → A (x (u + 1)) (x u) ≠ -1000000000000000
/-- By at most r arcs. -/
def RcN (A : Nat → Nat → Int) (n v r i : Nat) : Prop :=
  ∃ (t : Nat) (x : Nat → Nat), t ≤ r ∧ x 0 = v ∧ x t = i ∧ (∀ u, u ≤ t → x u < n) ∧ ∀ u, u < t → A (x (u + 1)) (x u) ≠ -1000000000000000
variable {A : Nat → Nat → Int} {n : Nat}
theorem Rch.of {v r i : Nat} (h : RcN A n v r i) : Rch A n v i := by
  obtain ⟨t, x, -, h⟩ := h
  exact ⟨t, x, h⟩
theorem rch_self {v : Nat} (hv : v < n) : Rch A n v v := ⟨0, fun _ => v, rfl, rfl, fun _ _ => hv, fun u hu => absurd hu (Nat.not_lt_zero u)⟩
theorem rcn_self {v : Nat} (hv : v < n) (r : Nat) : RcN A n v r v := ⟨0, fun _ => v, Nat.zero_le _, rfl, rfl, fun _ _ => hv, fun u hu => absurd hu (Nat.not_lt_zero u)⟩
theorem Rch.lt {v i : Nat} (h : Rch A n v i) : v < n ∧ i < n := by
  obtain ⟨t, x, h1, h2, h3, -⟩ := h
  exact ⟨by rw [← h1]; exact h3 0 (Nat.zero_le _), by rw [← h2]; exact h3 t (Nat.le_refl _)⟩
theorem rcn_step {v r k i : Nat} (h : RcN A n v r k) (hi : i < n) (ha : A i k ≠ -1000000000000000) : RcN A n v (r + 1) i := by
  obtain ⟨t, x, h0, h1, h2, h3, h4⟩ := h
  refine ⟨t + 1, fun u => if u ≤ t then x u else i, by omega, ?_, ?_, ?_, ?_⟩
  · show (if 0 ≤ t then x 0 else i) = v
    rw [if_pos (Nat.zero_le _), h1]
  · show (if t + 1 ≤ t then _ else i) = i
    rw [if_neg (by omega)]
  · intro u hu
    show (if u ≤ t then x u else i) < n
    split
    · next h => exact h3 u h
    · exact hi
  · intro u hu
    show A (if u + 1 ≤ t then x (u + 1) else i) (if u ≤ t then x u else i) ≠ _
    by_cases e : u = t
    · subst e
      rw [if_neg (by omega), if_pos (Nat.le_refl _), h2]; exact ha
    · rw [if_pos (by omega), if_pos (by omega)]; exact h4 u (by omega)
theorem rcn_mono {v r r' i : Nat} (h : RcN A n v r i) (hr : r ≤ r') : RcN A n v r' i := by
  obtain ⟨t, x, h0, h⟩ := h
  exact ⟨t, x, by omega, h⟩
theorem rch_rcn {v i : Nat} (h : Rch A n v i) : ∃ r, RcN A n v r i := by
  obtain ⟨t, x, h⟩ := h
  exact ⟨t, t, x, Nat.le_refl _, h⟩
theorem rch_step {v k i : Nat} (h : Rch A n v k) (hi : i < n) (ha : A i k ≠ -1000000000000000) : Rch A n v i := by
  obtain ⟨r, h⟩ := rch_rcn h
  exact Rch.of (rcn_step h hi ha)
theorem rcn_next {v r i : Nat} (h : RcN A n v (r + 1) i) : RcN A n v r i ∨ ∃ k, k < n ∧ RcN A n v r k ∧ i < n ∧ A i k ≠ -1000000000000000 := by
  obtain ⟨t, x, h0, h1, h2, h3, h4⟩ := h
  by_cases e : t ≤ r
  · exact .inl ⟨t, x, e, h1, h2, h3, h4⟩
  · obtain rfl : t = r + 1 := by omega
    refine .inr ⟨x r, h3 r (by omega), ⟨r, x, Nat.le_refl _, h1, rfl, fun u hu => h3 u (by omega), fun u hu => h4 u (by omega)⟩, by rw [← h2]; exact h3 _ (Nat.le_refl _), ?_⟩
    rw [← h2]; exact h4 r (by omega)
theorem rcn_zero {v i : Nat} (h : RcN A n v 0 i) : i = v := by
  obtain ⟨t, x, h0, h1, h2, -⟩ := h
  obtain rfl : t = 0 := by omega
  rw [← h1, ← h2]
/-- What holds at the start and is handed on along arcs holds at all nodes that are reached. -/
theorem Rch.ind {P : Nat → Prop} {v i : Nat} (h : Rch A n v i) (h0 : v < n → P v) (hs : ∀ k i, Rch A n v k → P k → i < n → A i k ≠ -1000000000000000 → P i) : P i := by
  obtain ⟨t, x, h1, h2, h3, h4⟩ := h
  have : ∀ u, u ≤ t → P (x u) := by
    intro u
    induction u with
    | zero => intro _; rw [h1]; exact h0 (by rw [← h1]; exact h3 0 (Nat.zero_le _))
    | succ u ih =>
      intro hu
      exact hs (x u) _ ⟨u, x, h1, rfl, fun w hw => h3 w (by omega), fun w hw => h4 w (by omega)⟩ (ih (by omega)) (h3 _ hu) (h4 u (by omega))
  rw [← h2]; exact this t (Nat.le_refl _)
theorem rch_trans {v k i : Nat} (h : Rch A n v k) (h' : Rch A n k i) : Rch A n v i :=
  h'.ind (P := fun i => Rch A n v i) (fun _ => h) fun _ _ _ ih hi ha => rch_step ih hi ha
/-- A walk need not be longer than there are nodes. -/
theorem rch_short {v i : Nat} (h : Rch A n v i) : RcN A n v n i := by
  obtain ⟨t, h⟩ : ∃ t, ∃ x : Nat → Nat, x 0 = v ∧ x t = i ∧ (∀ u, u ≤ t → x u < n) ∧ ∀ u, u < t → A (x (u + 1)) (x u) ≠ -1000000000000000 := h
  induction t using Nat.strongRecOn with
  | _ t ih =>
    obtain ⟨x, h1, h2, h3, h4⟩ := h
    by_cases e : t ≤ n
    · exact ⟨t, x, e, h1, h2, h3, h4⟩
    · obtain ⟨a, b, hab, hb, he⟩ := pigeon n x (fun u hu => h3 u (by omega))
      refine ih (t - (b - a)) (by omega) ⟨fun u => if u < a then x u else x (u + (b - a)), ?_, ?_, ?_, ?_⟩
      · show (if 0 < a then x 0 else x (0 + (b - a))) = v
        split
        · exact h1
        · obtain rfl : a = 0 := by omega
          rw [Nat.zero_add, Nat.sub_zero, ← he, h1]
      · show (if t - (b - a) < a then _ else x (t - (b - a) + (b - a))) = i
        rw [if_neg (by omega), show t - (b - a) + (b - a) = t by omega, h2]
      · intro u hu
        show (if u < a then x u else x (u + (b - a))) < n
        split
        · exact h3 u (by omega)
        · exact h3 _ (by omega)
      · intro u hu
        show A (if u + 1 < a then x (u + 1) else x (u + 1 + (b - a))) (if u < a then x u else x (u + (b - a))) ≠ _
        by_cases e1 : u + 1 < a
        · rw [if_pos e1, if_pos (by omega)]; exact h4 u (by omega)
        · by_cases e2 : u < a
          · rw [if_neg e1, if_pos e2, show u + 1 + (b - a) = b by omega, ← he, show a = u + 1 by omega]
            exact h4 u (by omega)
          · rw [if_neg e1, if_neg e2, show u + 1 + (b - a) = u + (b - a) + 1 by omega]
            exact h4 _ (by omega)
/-- Turned arcs turn what reaches what. -/
theorem rch_turn {B : Nat → Nat → Int} (hB : ∀ i j, i < n → j < n → B i j = A j i) {v i : Nat} (h : Rch B n v i) : Rch A n i v := by
  obtain ⟨t, x, h1, h2, h3, h4⟩ := h
  refine ⟨t, fun u => x (t - u), by show x (t - 0) = i; rw [Nat.sub_zero, h2], by show x (t - t) = v; rw [Nat.sub_self, h1], fun u _ => h3 _ (by omega), fun u hu => ?_⟩
  show A (x (t - (u + 1))) (x (t - u)) ≠ _
  have := h4 (t - (u + 1)) (by omega)
  rw [hB _ _ (h3 _ (by omega)) (h3 _ (by omega)), show t - (u + 1) + 1 = t - u by omega] at this
  exact this
theorem rch_congr {B : Nat → Nat → Int} (hB : ∀ i j, i < n → j < n → B i j = A i j) {v i : Nat} (h : Rch B n v i) : Rch A n v i := by
  obtain ⟨t, x, h1, h2, h3, h4⟩ := h
  refine ⟨t, x, h1, h2, h3, fun u hu => ?_⟩
  rw [← hB _ _ (h3 _ (by omega)) (h3 _ (by omega))]; exact h4 u hu
/-- The same, as a test. -/
def rsB (A : Nat → Nat → Int) (n v : Nat) : Nat → Nat → Bool
  | 0, i => decide (i = v) && decide (v < n)
  | r + 1, i => rsB A n v r i || (decide (i < n) && (List.range n).any fun k => rsB A n v r k && decide (A i k ≠ -1000000000000000))
theorem rsB_t {v : Nat} (r : Nat) : ∀ i, rsB A n v r i = true ↔ RcN A n v r i := by
  induction r with
  | zero =>
    intro i
    show (decide (i = v) && decide (v < n)) = true ↔ _
    rw [Bool.and_eq_true, decide_eq_true_eq, decide_eq_true_eq]
    exact ⟨fun ⟨e, hv⟩ => by subst e; exact rcn_self hv 0, fun h => ⟨rcn_zero h, (Rch.of h).lt.1⟩⟩
  | succ r ih =>
    intro i
    show (rsB A n v r i || (decide (i < n) && (List.range n).any fun k => rsB A n v r k && decide (A i k ≠ -1000000000000000))) = true ↔ _
    rw [Bool.or_eq_true, Bool.and_eq_true, decide_eq_true_eq, List.any_eq_true, ih]
    constructor
    · rintro (h | ⟨hi, k, -, hk⟩)
      · exact rcn_mono h (Nat.le_succ r)
      · rw [Bool.and_eq_true, decide_eq_true_eq, ih] at hk
        exact rcn_step hk.1 hi hk.2
    · intro h
      rcases rcn_next h with h | ⟨k, hk, h1, h2, h3⟩
      · exact .inl h
      · exact .inr ⟨h2, k, List.mem_range.2 hk, by rw [Bool.and_eq_true, decide_eq_true_eq, ih]; exact ⟨h1, h3⟩⟩
def rchB (A : Nat → Nat → Int) (n v i : Nat) : Bool := rsB A n v n i
theorem rchB_t {v i : Nat} : rchB A n v i = true ↔ Rch A n v i := (rsB_t n i).trans ⟨Rch.of, rch_short⟩
theorem rchB_eq {v i : Nat} {b : Bool} (h : b = true ↔ Rch A n v i) : rchB A n v i = b := by
  rw [Bool.eq_iff_iff, rchB_t, h]
theorem rchB_turn {B : Nat → Nat → Int} (hB : ∀ i j, i < n → j < n → B i j = A j i) (v i : Nat) : rchB B n v i = rchB A n i v :=
  rchB_eq (by rw [rchB_t]; exact ⟨fun h => rch_turn (A := B) (B := A) (fun i j hi hj => (hB j i hj hi).symm) h, fun h => rch_turn hB h⟩)
theorem rchB_congr {B : Nat → Nat → Int} (hB : ∀ i j, i < n → j < n → B i j = A i j) (v i : Nat) : rchB B n v i = rchB A n v i :=
  rchB_eq (by rw [rchB_t]; exact ⟨fun h => rch_congr (fun i j hi hj => (hB i j hi hj).symm) h, fun h => rch_congr hB h⟩)
/-- A set that holds the start, only what is reached, and all that an arc leads to from it, is what is reached. -/
theorem rch_set {v : Nat} {S : Nat → Bool} (hv : v < n) (h0 : S v = true) (hS : ∀ i, S i = true → Rch A n v i) (hc : ∀ k i, k < n → S k = true → i < n → A i k ≠ -1000000000000000 → S i = true) (i : Nat) : S i = rchB A n v i :=
  (rchB_eq ⟨fun h => hS i h, fun h => h.ind (P := fun i => S i = true) (fun _ => h0) fun k i hk ih hi ha => hc k i hk.lt.2 ih hi ha⟩).symm
/-- The rounds of the model's search: what n rounds have found. -/
theorem rch_rounds {v : Nat} {S : Nat → Bool} (hS : ∀ i, S i = true → Rch A n v i) (hr : ∀ i, RcN A n v n i → S i = true) (i : Nat) : S i = rchB A n v i :=
  (rchB_eq ⟨fun h => hS i h, fun h => hr i (rch_short h)⟩).symm

/-! Matrices without some arcs. -/
theorem owk_sub {A' : Nat → Nat → Int} (h : ∀ i j, i < n → j < n → A' i j = A i j ∨ A' i j = -1000000000000000) {v : Nat → Nat} {s : Nat} (hv : ∀ u, u ≤ s → v u < n) {w : Int} (hw : owk (fun i j => o (A' i j)) v s = some w) : owk (fun i j => o (A i j)) v s = some w := by
  induction s generalizing w with
  | zero => exact hw
  | succ s ih =>
    have hw : omul (o (A' (v (s + 1)) (v s))) (owk (fun i j => o (A' i j)) v s) = some w := hw
    show omul (o (A (v (s + 1)) (v s))) (owk (fun i j => o (A i j)) v s) = some w
    cases e : owk (fun i j => o (A' i j)) v s with
    | none => rw [e, omul_none] at hw; cases hw
    | some x =>
      rw [e] at hw
      rw [ih (fun u hu => hv u (by omega)) e]
      rcases h (v (s + 1)) (v s) (hv _ (Nat.le_refl _)) (hv _ (by omega)) with q | q
      · rw [← q]; exact hw
      · rw [q, o_bot, none_omul] at hw; cases hw
theorem owk_keep {A' : Nat → Nat → Int} {v : Nat → Nat} {s : Nat} (h : ∀ u, u < s → A' (v (u + 1)) (v u) = A (v (u + 1)) (v u)) : owk (fun i j => o (A' i j)) v s = owk (fun i j => o (A i j)) v s := by
  induction s with
  | zero => rfl
  | succ s ih =>
    show omul (o (A' _ _)) (owk _ v s) = omul (o (A _ _)) (owk _ v s)
    rw [ih fun u hu => h u (by omega), h s (by omega)]
section
variable {A' : Nat → Nat → Int} (hn : n ≤ 10) (hA : ∀ i j, i < n → j < n → Sm 1000000 (A i j)) (hsub : ∀ i j, i < n → j < n → A' i j = A i j ∨ A' i j = -1000000000000000)
include hn hA hsub
omit hn in
theorem sub_sm : ∀ i j, i < n → j < n → Sm 1000000 (A' i j) := fun i j hi hj => by
  rcases hsub i j hi hj with q | q
  · rw [q]; exact hA i j hi hj
  · rw [q]; exact .inl rfl
theorem sub_cyc (h : hasCyc A' n = true) : hasCyc A n = true := by
  obtain ⟨v, s, h1, h2, h3, h4⟩ := cyc_closed hn (sub_sm hA hsub) h
  cases e : owk (fun i j => o (A' i j)) v s with
  | none => exact absurd e h4
  | some w => exact closed_cyc hn hA ⟨h1, h2, h3, by rw [owk_sub hsub h3 e]; simp⟩
/-- Fewer arcs: no greater mean. -/
theorem sub_le (h : hasCyc A' n = true) : (bestR A' n).1 * (bestR A n).2 ≤ (bestR A n).1 * (bestR A' n).2 := by
  obtain ⟨⟨b1, b2, b3, -⟩, -⟩ := bestR_best hn hA (sub_cyc hn hA hsub h)
  obtain ⟨⟨c1, c2, -, v, s, w, c4, c5, c6, c7, c8, c9⟩, -⟩ := bestR_best hn (sub_sm hA hsub) h
  exact cross_le (show (0 : Int) < s by omega) (b3 v s w c6 c7 (owk_sub hsub c7 c8)) c9 (by omega) (by omega)
/-- A cycle of the greatest mean that is left keeps the greatest mean. -/
theorem sub_same {v : Nat → Nat} {s : Nat} {w : Int} (h1 : 1 ≤ s) (h2 : v s = v 0) (h3 : ∀ u, u ≤ s → v u < n) (h4 : owk (fun i j => o (A i j)) v s = some w) (h5 : (bestR A n).2 * w = s * (bestR A n).1)
    (hk : ∀ u, u < s → A' (v (u + 1)) (v u) = A (v (u + 1)) (v u)) : hasCyc A' n = true ∧ bestR A' n = bestR A n := by
  have h4' := h4
  rw [← owk_keep hk] at h4'
  have hc : hasCyc A' n = true := closed_cyc hn (sub_sm hA hsub) ⟨h1, h2, h3, by rw [h4']; simp⟩
  refine ⟨hc, ?_⟩
  have hle := sub_le hn hA hsub hc
  obtain ⟨⟨b1, b2, b3, -⟩, -⟩ := bestR_best hn hA (sub_cyc hn hA hsub hc)
  obtain ⟨⟨c1, c2, c3, -⟩, -⟩ := bestR_best hn (sub_sm hA hsub) hc
  have hge := cross_le (show (0 : Int) < s by omega) (c3 v s w h2 h3 h4') h5 (by omega) (by omega)
  obtain ⟨e1, e2⟩ := lowest_eq c1 b1 c2 b2 (by omega)
  exact Prod.ext e1 e2
/-- All cycles are left. -/
theorem sub_all (hall : ∀ v s, Closed A n v s → ∀ u, u < s → A' (v (u + 1)) (v u) = A (v (u + 1)) (v u)) : hasCyc A' n = hasCyc A n ∧ (hasCyc A n = true → bestR A' n = bestR A n) := by
  cases hc : hasCyc A n with
  | false =>
    refine ⟨?_, fun h => by cases h⟩
    cases h : hasCyc A' n with
    | false => rfl
    | true => rw [sub_cyc hn hA hsub h] at hc; cases hc
  | true =>
    obtain ⟨⟨b1, b2, b3, v, s, w, c4, c5, c6, c7, c8, c9⟩, -⟩ := bestR_best hn hA hc
    obtain ⟨e1, e2⟩ := sub_same hn hA hsub c4 c6 c7 c8 c9 (hall v s ⟨c4, c6, c7, by rw [c8]; simp⟩)
    exact ⟨e1, fun _ => e2⟩
end
end M
end Go.Proofs.Ytmldjmlihkcchab
