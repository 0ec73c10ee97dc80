/- Texts laid together: ReaZ, VisZ. -/
import Derived.Test.YtlofnadpgnbmdaaGreatQa11
import Derived.Test.YtlofnadpgnbmdaaGreatQa9
import Derived.Test.YtlofnadpgnbmdaaGreatQa4
import Derived.Maps.Own
import Derived.Maps.OwnOps
import Derived.Maps.Views
import Derived.Test.YtlofnadpgnbmdaaGreatQa5
set_option linter.unusedSimpArgs false
set_option linter.unusedVariables false
set_option linter.unusedSectionVars false
namespace Go.Proofs.YtlofnadpgnbmdaaGreat
namespace M
/-- The node v reaches i. -/
def Rch (A : Nat → Nat → Int) (n v i : Nat) : Prop :=
  ∃ (t : Nat) (x : Nat → Nat), x 0 = v ∧ x t = i ∧ (∀ u, u ≤ t → x u < n) ∧ ∀ u, u < t → A (x (u + 1)) (x u) ≠ -1000000000000000
/-- By at most r arcs. -/
def RcN (A : Nat → Nat → Int) (n v r i : Nat) : Prop :=
  ∃ (t : Nat) (x : Nat → Nat), t ≤ r ∧ x 0 = v ∧ x t = i ∧ (∀ u, u ≤ t → x u < n) ∧ ∀ u, u < t → A (x (u + 1)) (x u) ≠ -1000000000000000
variable {A : Nat → Nat → Int} {n : Nat}
theorem Rch.of {v r i : Nat} (h : RcN A n v r i) : Rch A n v i := by
  obtain ⟨t, x, -, h⟩ := h
  exact ⟨t, x, h⟩
theorem rch_self {v : Nat} (hv : v < n) : Rch A n v v := ⟨0, fun _ => v, rfl, rfl, fun _ _ => hv, fun u hu => absurd hu (Nat.not_lt_zero u)⟩
theorem rcn_self {v : Nat} (hv : v < n) (r : Nat) : RcN A n v r v := ⟨0, fun _ => v, Nat.zero_le _, rfl, rfl, fun _ _ => hv, fun u hu => absurd hu (Nat.not_lt_zero u)⟩
theorem Rch.lt {v i : Nat} (h : Rch A n v i) : v < n ∧ i < n := by
  obtain ⟨t, x, h1, h2, h3, -⟩ := h
  exact ⟨by rw [← h1]; exact h3 0 (Nat.zero_le _), by rw [← h2]; exact h3 t (Nat.le_refl _)⟩
theorem rcn_step {v r k i : Nat} (h : RcN A n v r k) (hi : i < n) (ha : A i k ≠ -1000000000000000) : RcN A n v (r + 1) i := by
  obtain ⟨t, x, h0, h1, h2, h3, h4⟩ := h
  refine ⟨t + 1, fun u => if u ≤ t then x u else i, by omega, ?_, ?_, ?_, ?_⟩
  · show (if 0 ≤ t then x 0 else i) = v
    rw [if_pos (Nat.zero_le _), h1]
  · show (if t + 1 ≤ t then _ else i) = i
    rw [if_neg (by omega)]
  · intro u hu
    show (if u ≤ t then x u else i) < n
    split
    · next h => exact h3 u h
    · exact hi
  · intro u hu
    show A (if u + 1 ≤ t then x (u + 1) else i) (if u ≤ t then x u else i) ≠ _
    by_cases e : u = t
    · subst e
      rw [if_neg (by omega), if_pos (Nat.le_refl _), h2]; exact ha
    · rw [if_pos (by omega), if_pos (by omega)]; exact h4 u (by omega)
theorem rcn_mono {v r r' i : Nat} (h : RcN A n v r i) (hr : r ≤ r') : RcN A n v r' i := by
  obtain ⟨t, x, h0, h⟩ := h
  exact ⟨t, x, by omega, h⟩
theorem rch_rcn {v i : Nat} (h : Rch A n v i) : ∃ r, RcN A n v r i := by
  obtain ⟨t, x, h⟩ := h
  exact ⟨t, t, x, Nat.le_refl _, h⟩
theorem rch_step {v k i : Nat} (h : Rch A n v k) (hi : i < n) (ha : A i k ≠ -1000000000000000) : Rch A n v i := by
  obtain ⟨r, h⟩ := rch_rcn h
  exact Rch.of (rcn_step h hi ha)
theorem rcn_next {v r i : Nat} (h : RcN A n v (r + 1) i) : RcN A n v r i ∨ ∃ k, k < n ∧ RcN A n v r k ∧ i < n ∧ A i k ≠ -1000000000000000 := by
  obtain ⟨t, x, h0, h1, h2, h3, h4⟩ := h
  by_cases e : t ≤ r
  · exact .inl ⟨t, x, e, h1, h2, h3, h4⟩
  · obtain rfl : t = r + 1 := by omega
    refine .inr ⟨x r, h3 r (by omega), ⟨r, x, Nat.le_refl _, h1, rfl, fun u hu => h3 u (by omega), fun u hu => h4 u (by omega)⟩, by rw [← h2]; exact h3 _ (Nat.le_refl _), ?_⟩
    rw [← h2]; exact h4 r (by omega)
theorem rcn_zero {v i : Nat} (h : RcN A n v 0 i) : i = v := by
  obtain ⟨t, x, h0, h1, h2, -⟩ := h
  obtain rfl : t = 0 := by omega
  rw [← h1, ← h2]
/-- What holds at the start and is handed on along arcs holds at all nodes that are reached. -/
theorem Rch.ind {P : Nat → Prop} {v i : Nat} (h : Rch A n v i) (h0 : v < n → P v) (hs : ∀ k i, Rch A n v k → P k → i < n → A i k ≠ -1000000000000000 → P i) : P i := by
  obtain ⟨t, x, h1, h2, h3, h4⟩ := h
  have : ∀ u, u ≤ t → P (x u) := by
    intro u
    induction u with
    | zero => intro _; rw [h1]; exact h0 (by rw [← h1]; exact h3 0 (Nat.zero_le _))
    | succ u ih =>
      intro hu
      exact hs (x u) _ ⟨u, x, h1, rfl, fun w hw => h3 w (by omega), fun w hw => h4 w (by omega)⟩ (ih (by omega)) (h3 _ hu) (h4 u (by omega))
  rw [← h2]; exact this t (Nat.le_refl _)
theorem rch_trans {v k i : Nat} (h : Rch A n v k) (h' : Rch A n k i) : Rch A n v i :=
  h'.ind (P := fun i => Rch A n v i) (fun _ => h) fun _ _ _ ih hi ha => rch_step ih hi ha
/-- A walk need not be longer than there are nodes. -/
theorem rch_short {v i : Nat} (h : Rch A n v i) : RcN A n v n i := by
  obtain ⟨t, h⟩ : ∃ t, ∃ x : Nat → Nat, x 0 = v ∧ x t = i ∧ (∀ u, u ≤ t → x u < n) ∧ ∀ u, u < t → A (x (u + 1)) (x u) ≠ -1000000000000000 := h
  induction t using Nat.strongRecOn with
  | _ t ih =>
    obtain ⟨x, h1, h2, h3, h4⟩ := h
    by_cases e : t ≤ n
    · exact ⟨t, x, e, h1, h2, h3, h4⟩
    · obtain ⟨a, b, hab, hb, he⟩ := pigeon n x (fun u hu => h3 u (by omega))
      refine ih (t - (b - a)) (by omega) ⟨fun u => if u < a then x u else x (u + (b - a)), ?_, ?_, ?_, ?_⟩
      · show (if 0 < a then x 0 else x (0 + (b - a))) = v
        split
        · exact h1
        · obtain rfl : a = 0 := by omega
          rw [Nat.zero_add, Nat.sub_zero, ← he, h1]
      · show (if t - (b - a) < a then _ else x (t - (b - a) + (b - a))) = i
        rw [if_neg (by omega), show t - (b - a) + (b - a) = t by omega, h2]
      · intro u hu
        show (if u < a then x u else x (u + (b - a))) < n
        split
        · exact h3 u (by omega)
        · exact h3 _ (by omega)
      · intro u hu
        show A (if u + 1 < a then x (u + 1) else x (u + 1 + (b - a))) (if u < a then x u else x (u + (b - a))) ≠ _
        by_cases e1 : u + 1 < a
        · rw [if_pos e1, if_pos (by omega)]; exact h4 u (by omega)
        · by_cases e2 : u < a
          · rw [if_neg e1, if_pos e2, show u + 1 + (b - a) = b by omega, ← he, show a = u + 1 by omega]
            exact h4 u (by omega)
          · rw [if_neg e1, if_neg e2, show u + 1 + (b - a) = u + (b - a) + 1 by omega]
            exact h4 _ (by omega)
/-- Turned arcs turn what reaches what. -/
theorem rch_turn {B : Nat → Nat → Int} (hB : ∀ i j, i < n → j < n → B i j = A j i) {v i : Nat} (h : Rch B n v i) : Rch A n i v := by
  obtain ⟨t, x, h1, h2, h3, h4⟩ := h
  refine ⟨t, fun u => x (t - u), by show x (t - 0) = i; rw [Nat.sub_zero, h2], by show x (t - t) = v; rw [Nat.sub_self, h1], fun u _ => h3 _ (by omega), fun u hu => ?_⟩
  show A (x (t - (u + 1))) (x (t - u)) ≠ _
  have := h4 (t - (u + 1)) (by omega)
  rw [hB _ _ (h3 _ (by omega)) (h3 _ (by omega)), show t - (u + 1) + 1 = t - u by omega] at this
  exact this
theorem rch_congr {B : Nat → Nat → Int} (hB : ∀ i j, i < n → j < n → B i j = A i j) {v i : Nat} (h : Rch B n v i) : Rch A n v i := by
  obtain ⟨t, x, h1, h2, h3, h4⟩ := h
  refine ⟨t, x, h1, h2, h3, fun u hu => ?_⟩
  rw [← hB _ _ (h3 _ (by omega)) (h3 _ (by omega))]; exact h4 u hu
/-- The same, as a test. -/
def rsB (A : Nat → Nat → Int) (n v : Nat) : Nat → Nat → Bool
  | 0, i => decide (i = v) && decide (v < n)
  | r + 1, i => rsB A n v r i || (decide (i < n) && (List.range n).any fun k => rsB A n v r k && decide (A i k ≠ -1000000000000000))
theorem rsB_t {v : Nat} (r : Nat) : ∀ i, rsB A n v r i = true ↔ RcN A n v r i := by
  induction r with
  | zero =>
    intro i
    show (decide (i = v) && decide (v < n)) = true ↔ _
    rw [Bool.and_eq_true, decide_eq_true_eq, decide_eq_true_eq]
    exact ⟨fun ⟨e, hv⟩ => by subst e; exact rcn_self hv 0, fun h => ⟨rcn_zero h, (Rch.of h).lt.1⟩⟩
  | succ r ih =>
    intro i
    show (rsB A n v r i || (decide (i < n) && (List.range n).any fun k => rsB A n v r k && decide (A i k ≠ -1000000000000000))) = true ↔ _
    rw [Bool.or_eq_true, Bool.and_eq_true, decide_eq_true_eq, List.any_eq_true, ih]
    constructor
    · rintro (h | ⟨hi, k, -, hk⟩)
      · exact rcn_mono h (Nat.le_succ r)
      · rw [Bool.and_eq_true, decide_eq_true_eq, ih] at hk
        exact rcn_step hk.1 hi hk.2
    · intro h
      rcases rcn_next h with h | ⟨k, hk, h1, h2, h3⟩
      · exact .inl h
      · exact .inr ⟨h2, k, List.mem_range.2 hk, by rw [Bool.and_eq_true, decide_eq_true_eq, ih]; exact ⟨h1, h3⟩⟩
def rchB (A : Nat → Nat → Int) (n v i : Nat) : Bool := rsB A n v n i
theorem rchB_t {v i : Nat} : rchB A n v i = true ↔ Rch A n v i := (rsB_t n i).trans ⟨Rch.of, rch_short⟩
theorem rchB_eq {v i : Nat} {b : Bool} (h : b = true ↔ Rch A n v i) : rchB A n v i = b := by
  rw [Bool.eq_iff_iff, rchB_t, h]
theorem rchB_turn {B : Nat → Nat → Int} (hB : ∀ i j, i < n → j < n → B i j = A j i) (v i : Nat) : rchB B n v i = rchB A n i v :=
  rchB_eq (by rw [rchB_t]; exact ⟨fun h => rch_turn (A := B) (B := A) (fun i j hi hj => (hB j i hj hi).symm) h, fun h => rch_turn hB h⟩)
theorem rchB_congr {B : Nat → Nat → Int} (hB : ∀ i j, i < n → j < n → B i j = A i j) (v i : Nat) : rchB B n v i = rchB A n v i :=
  rchB_eq (by rw [rchB_t]; exact ⟨fun h => rch_congr (fun i j hi hj => (hB i j hi hj).symm) h, fun h => rch_congr hB h⟩)
/-- A set that holds the start, only what is reached, and all that an arc leads to from it, is what is reached. -/
theorem rch_set {v : Nat} {S : Nat → Bool} (hv : v < n) (h0 : S v = true) (hS : ∀ i, S i = true → Rch A n v i) (hc : ∀ k i, k < n → S k = true → i < n → A i k ≠ -1000000000000000 → S i = true) (i : Nat) : S i = rchB A n v i :=
  (rchB_eq ⟨fun h => hS i h, fun h => h.ind (P := fun i => S i = true) (fun _ => h0) fun k i hk ih hi ha => hc k i hk.lt.2 ih hi ha⟩).symm
/-- The rounds of the model's search: what n rounds have found. -/
theorem rch_rounds {v : Nat} {S : Nat → Bool} (hS : ∀ i, S i = true → Rch A n v i) (hr : ∀ i, RcN A n v n i → S i = true) (i : Nat) : S i = rchB A n v i :=
  (rchB_eq ⟨fun h => hS i h, fun h => hr i (rch_short h)⟩).symm

/-! Matrices without some arcs. -/
theorem owk_sub {A' : Nat → Nat → Int} (h : ∀ i j, i < n → j < n → A' i j = A i j ∨ A' i j = -1000000000000000) {v : Nat → Nat} {s : Nat} (hv : ∀ u, u ≤ s → v u < n) {w : Int} (hw : owk (fun i j => o (A' i j)) v s = some w) : owk (fun i j => o (A i j)) v s = some w := by
  induction s generalizing w with
  | zero => exact hw
  | succ s ih =>
    have hw : omul (o (A' (v (s + 1)) (v s))) (owk (fun i j => o (A' i j)) v s) = some w := hw
    show omul (o (A (v (s + 1)) (v s))) (owk (fun i j => o (A i j)) v s) = some w
    cases e : owk (fun i j => o (A' i j)) v s with
    | none => rw [e, omul_none] at hw; cases hw
    | some x =>
      rw [e] at hw
      rw [ih (fun u hu => hv u (by omega)) e]
      rcases h (v (s + 1)) (v s) (hv _ (Nat.le_refl _)) (hv _ (by omega)) with q | q
      · rw [← q]; exact hw
      · rw [q, o_bot, none_omul] at hw; cases hw
theorem owk_keep {A' : Nat → Nat → Int} {v : Nat → Nat} {s : Nat} (h : ∀ u, u < s → A' (v (u + 1)) (v u) = A (v (u + 1)) (v u)) : owk (fun i j => o (A' i j)) v s = owk (fun i j => o (A i j)) v s := by
  induction s with
  | zero => rfl
  | succ s ih =>
    show omul (o (A' _ _)) (owk _ v s) = omul (o (A _ _)) (owk _ v s)
    rw [ih fun u hu => h u (by omega), h s (by omega)]
section
variable {A' : Nat → Nat → Int} (hn : n ≤ 10) (hA : ∀ i j, i < n → j < n → Sm 1000000 (A i j)) (hsub : ∀ i j, i < n → j < n → A' i j = A i j ∨ A' i j = -1000000000000000)
include hn hA hsub
omit hn in
theorem sub_sm : ∀ i j, i < n → j < n → Sm 1000000 (A' i j) := fun i j hi hj => by
  rcases hsub i j hi hj with q | q
  · rw [q]; exact hA i j hi hj
  · rw [q]; exact .inl rfl
theorem sub_cyc (h : hasCyc A' n = true) : hasCyc A n = true := by
  obtain ⟨v, s, h1, h2, h3, h4⟩ := cyc_closed hn (sub_sm hA hsub) h
  cases e : owk (fun i j => o (A' i j)) v s with
  | none => exact absurd e h4
  | some w => exact closed_cyc hn hA ⟨h1, h2, h3, by rw [owk_sub hsub h3 e]; simp⟩
/-- Fewer arcs: no greater mean. -/
theorem sub_le (h : hasCyc A' n = true) : (bestR A' n).1 * (bestR A n).2 ≤ (bestR A n).1 * (bestR A' n).2 := by
  obtain ⟨⟨b1, b2, b3, -⟩, -⟩ := bestR_best hn hA (sub_cyc hn hA hsub h)
  obtain ⟨⟨c1, c2, -, v, s, w, c4, c5, c6, c7, c8, c9⟩, -⟩ := bestR_best hn (sub_sm hA hsub) h
  exact cross_le (show (0 : Int) < s by omega) (b3 v s w c6 c7 (owk_sub hsub c7 c8)) c9 (by omega) (by omega)
/-- A cycle of the greatest mean that is left keeps the greatest mean. -/
theorem sub_same {v : Nat → Nat} {s : Nat} {w : Int} (h1 : 1 ≤ s) (h2 : v s = v 0) (h3 : ∀ u, u ≤ s → v u < n) (h4 : owk (fun i j => o (A i j)) v s = some w) (h5 : (bestR A n).2 * w = s * (bestR A n).1)
    (hk : ∀ u, u < s → A' (v (u + 1)) (v u) = A (v (u + 1)) (v u)) : hasCyc A' n = true ∧ bestR A' n = bestR A n := by
  have h4' := h4
  rw [← owk_keep hk] at h4'
  have hc : hasCyc A' n = true := closed_cyc hn (sub_sm hA hsub) ⟨h1, h2, h3, by rw [h4']; simp⟩
  refine ⟨hc, ?_⟩
  have hle := sub_le hn hA hsub hc
  obtain ⟨⟨b1, b2, b3, -⟩, -⟩ := bestR_best hn hA (sub_cyc hn hA hsub hc)
  obtain ⟨⟨c1, c2, c3, -⟩, -⟩ := bestR_best hn (sub_sm hA hsub) hc
  have hge := cross_le (show (0 : Int) < s by omega) (c3 v s w h2 h3 h4') h5 (by omega) (by omega)
  obtain ⟨e1, e2⟩ := lowest_eq c1 b1 c2 b2 (by omega)
  exact Prod.ext e1 e2
/-- All cycles are left. -/
theorem sub_all (hall : ∀ v s, Closed A n v s → ∀ u, u < s → A' (v (u + 1)) (v u) = A (v (u + 1)) (v u)) : hasCyc A' n = hasCyc A n ∧ (hasCyc A n = true → bestR A' n = bestR A n) := by
  cases hc : hasCyc A n with
  | false =>
    refine ⟨?_, fun h => by cases h⟩
    cases h : hasCyc A' n with
    | false => rfl
    | true => rw [sub_cyc hn hA hsub h] at hc; cases hc
  | true =>
    obtain ⟨⟨b1, b2, b3, v, s, w, c4, c5, c6, c7, c8, c9⟩, -⟩ := bestR_best hn hA hc
    obtain ⟨e1, e2⟩ := sub_same hn hA hsub c4 c6 c7 c8 c9 (hall v s ⟨c4, c6, c7, by rw [c8]; simp⟩)
    exact ⟨e1, fun _ => e2⟩
end
end M
end Go.Proofs.YtlofnadpgnbmdaaGreat

namespace Go.Proofs.YtlofnadpgnbmdaaGreat
namespace M
variable {A : Nat → Nat → Int} {n : Nat}
def relB (A : Nat → Nat → Int) (n v w : Nat) : Bool := rchB A n v w && rchB A n w v
theorem relB_t {v w : Nat} : relB A n v w = true ↔ Rch A n v w ∧ Rch A n w v := by
  unfold relB
  rw [Bool.and_eq_true, rchB_t, rchB_t]
theorem relB_self {v : Nat} (h : v < n) : relB A n v v = true := relB_t.2 ⟨rch_self h, rch_self h⟩
theorem relB_symm (v w : Nat) : relB A n v w = relB A n w v := by unfold relB; rw [Bool.and_comm]
theorem relB_eq {v w : Nat} (h : relB A n v w = true) (u : Nat) : relB A n v u = relB A n w u := by
  obtain ⟨h1, h2⟩ := relB_t.1 h
  rw [Bool.eq_iff_iff, relB_t, relB_t]
  exact ⟨fun ⟨k1, k2⟩ => ⟨rch_trans h2 k1, rch_trans k2 h1⟩, fun ⟨k1, k2⟩ => ⟨rch_trans h1 k1, rch_trans k2 h2⟩⟩
/-- The component of v among the first k nodes. -/
def compP (A : Nat → Nat → Int) (n v k : Nat) : List Int := ((List.range k).filter (relB A n v)).map fun i : Nat => (i : Int)
def compL (A : Nat → Nat → Int) (n v : Nat) : List Int := compP A n v n
theorem compP_next (A : Nat → Nat → Int) (n v k : Nat) : compP A n v (k + 1) = compP A n v k ++ (if relB A n v k then [(k : Int)] else []) := by
  unfold compP
  rw [List.range_succ, List.filter_append, List.map_append]
  congr 1
  cases h : relB A n v k <;> simp [h]
theorem compP_len (A : Nat → Nat → Int) (n v k : Nat) : (compP A n v k).length ≤ k := by
  unfold compP
  rw [List.length_map]
  have := List.length_filter_le (relB A n v) (List.range k)
  rw [List.length_range] at this
  exact this
theorem mem_compP {v k : Nat} {x : Int} : x ∈ compP A n v k ↔ ∃ w : Nat, w < k ∧ relB A n v w = true ∧ x = w := by
  unfold compP
  simp only [List.mem_map, List.mem_filter, List.mem_range]
  exact ⟨fun ⟨w, ⟨h1, h2⟩, h3⟩ => ⟨w, h1, h2, h3.symm⟩, fun ⟨w, h1, h2, h3⟩ => ⟨w, ⟨h1, h2⟩, h3.symm⟩⟩
theorem compL_eq {v w : Nat} (h : relB A n v w = true) : compL A n v = compL A n w := by
  unfold compL compP
  congr 1
  exact List.filter_congr fun u _ => relB_eq h u
theorem compL_pos {v : Nat} (h : v < n) : 1 ≤ (compL A n v).length := List.length_pos_of_mem (mem_compP.2 ⟨v, h, relB_self h, rfl⟩)
theorem compL_at {v k : Nat} (h : k < (compL A n v).length) : ∃ w : Nat, w < n ∧ relB A n v w = true ∧ (compL A n v).getD k 0 = w := by
  have hm : (compL A n v).getD k 0 ∈ compL A n v := by
    rw [List.getD_eq_getElem?_getD, List.getElem?_eq_getElem h]; exact List.getElem_mem h
  exact mem_compP.1 hm
/-- The first node of the component. -/
def repN (A : Nat → Nat → Int) (n v : Nat) : Nat := ((compL A n v).getD 0 0).toNat
theorem rep_t {v : Nat} (h : v < n) : repN A n v < n ∧ relB A n v (repN A n v) = true ∧ (compL A n v).getD 0 0 = (repN A n v : Int) := by
  obtain ⟨w, h1, h2, h3⟩ := compL_at (A := A) (k := 0) (compL_pos h)
  unfold repN
  rw [h3]
  exact ⟨h1, h2, rfl⟩
theorem rep_eq {v w : Nat} (h : relB A n v w = true) : repN A n v = repN A n w := by unfold repN; rw [compL_eq h]
def compsP (A : Nat → Nat → Int) (n m : Nat) : List (List Int) := (List.range m).flatMap fun v => if repN A n v = v then [compL A n v] else []
def compsL (A : Nat → Nat → Int) (n : Nat) : List (List Int) := compsP A n n
theorem compsP_next (A : Nat → Nat → Int) (n m : Nat) : compsP A n (m + 1) = compsP A n m ++ (if repN A n m = m then [compL A n m] else []) := by
  unfold compsP
  rw [List.range_succ, List.flatMap_append]
  simp
theorem compsP_len (A : Nat → Nat → Int) (n m : Nat) : (compsP A n m).length ≤ m := by
  induction m with
  | zero => exact Nat.le_refl _
  | succ m ih => rw [compsP_next, List.length_append]; split <;> simp <;> omega
theorem mem_compsP {m : Nat} {l : List Int} : l ∈ compsP A n m ↔ ∃ v, v < m ∧ repN A n v = v ∧ l = compL A n v := by
  unfold compsP
  simp only [List.mem_flatMap, List.mem_range]
  constructor
  · rintro ⟨v, hv, h⟩
    split at h
    · next e => exact ⟨v, hv, e, by simpa using h⟩
    · simp at h
  · rintro ⟨v, hv, e, h⟩
    exact ⟨v, hv, by rw [if_pos e]; simp [h]⟩
def sumLen (L : List (List Int)) : Nat := L.foldr (fun l s => l.length + s) 0
theorem sumLen_app (L K : List (List Int)) : sumLen (L ++ K) = sumLen L + sumLen K := by
  induction L with
  | nil => simp [sumLen]
  | cons l L ih =>
    show l.length + sumLen (L ++ K) = l.length + sumLen L + sumLen K
    rw [ih]; omega
/-- How many of the first k nodes pass a test. -/
def cnt (p : Nat → Bool) (k : Nat) : Nat := ((List.range k).filter p).length
theorem cnt_next (p : Nat → Bool) (k : Nat) : cnt p (k + 1) = cnt p k + (if p k then 1 else 0) := by
  unfold cnt
  rw [List.range_succ, List.filter_append, List.length_append]
  cases h : p k <;> simp [h]
theorem cnt_congr {p q : Nat → Bool} {k : Nat} (h : ∀ i, i < k → p i = q i) : cnt p k = cnt q k := by
  unfold cnt
  rw [List.filter_congr fun i hi => h i (List.mem_range.1 hi)]
theorem cnt_or {p q r : Nat → Bool} {k : Nat} (h : ∀ i, i < k → r i = (p i || q i)) (hd : ∀ i, i < k → p i = true → q i = false) : cnt r k = cnt p k + cnt q k := by
  induction k with
  | zero => rfl
  | succ k ih =>
    rw [cnt_next, cnt_next, cnt_next, ih (fun i hi => h i (by omega)) (fun i hi => hd i (by omega)), h k (by omega)]
    have := hd k (by omega)
    cases e1 : p k <;> cases e2 : q k <;> simp_all <;> omega
theorem cnt_all (k : Nat) : cnt (fun _ => true) k = k := by
  unfold cnt
  rw [List.filter_eq_self.2 fun _ _ => rfl, List.length_range]
theorem cnt_none {p : Nat → Bool} {k : Nat} (h : ∀ i, i < k → p i = false) : cnt p k = 0 := by
  unfold cnt
  rw [List.filter_eq_nil_iff.2 fun i hi => by rw [h i (List.mem_range.1 hi)]; exact Bool.false_ne_true]
  rfl
theorem sum_comps (m : Nat) (hm : m ≤ n) : sumLen (compsP A n m) = cnt (fun w => decide (repN A n w < m)) n := by
  induction m with
  | zero =>
    rw [cnt_none fun i _ => decide_eq_false (Nat.not_lt_zero _)]
    rfl
  | succ m ih =>
    rw [compsP_next, sumLen_app, ih (by omega), cnt_or (p := fun w => decide (repN A n w < m)) (q := fun w => decide (repN A n w = m)) (r := fun w => decide (repN A n w < m + 1)) (fun i _ => by
      rw [Bool.eq_iff_iff, Bool.or_eq_true, decide_eq_true_eq, decide_eq_true_eq, decide_eq_true_eq]; omega) (fun i _ h => by rw [decide_eq_true_eq] at h; rw [decide_eq_false_iff_not]; omega)]
    congr 1
    by_cases e : repN A n m = m
    · rw [if_pos e]
      show (compL A n m).length + 0 = _
      unfold compL compP
      rw [List.length_map]
      show cnt (relB A n m) n + 0 = _
      rw [Nat.add_zero]
      refine cnt_congr fun w hw => ?_
      rw [Bool.eq_iff_iff, decide_eq_true_eq]
      constructor
      · intro h; rw [← rep_eq h, e]
      · intro h
        have := (rep_t (A := A) hw).2.1
        rw [h, relB_symm] at this; exact this
    · rw [if_neg e]
      refine (cnt_none fun w hw => ?_).symm
      rw [decide_eq_false_iff_not]
      intro h
      apply e
      have := (rep_t (A := A) hw).2.1
      rw [h] at this
      rw [← rep_eq this, h]
/-- The components divide the nodes. -/
theorem sum_compsL : sumLen (compsL A n) = n := by
  unfold compsL
  rw [sum_comps n (Nat.le_refl _), cnt_congr (q := fun _ => true) fun w hw => by simpa using (rep_t (A := A) hw).1, cnt_all]
theorem compsL_first (h : 1 ≤ n) : ∃ L, compsL A n = compL A n 0 :: L ∧ ∀ l, l ∈ L → 1 ≤ l.length := by
  obtain ⟨m, rfl⟩ : ∃ m, n = m + 1 := ⟨n - 1, by omega⟩
  have h0 : repN A (m + 1) 0 = 0 := by
    have hm : (0 : Int) ∈ compL A (m + 1) 0 := mem_compP.2 ⟨0, by omega, relB_self (by omega), rfl⟩
    unfold repN compL compP
    rw [List.range_succ_eq_map, List.filter_cons, if_pos (relB_self (by omega))]
    rfl
  have e : compsL A (m + 1) = compL A (m + 1) 0 :: (List.map Nat.succ (List.range m)).flatMap fun v => if repN A (m + 1) v = v then [compL A (m + 1) v] else [] := by
    unfold compsL compsP
    rw [List.range_succ_eq_map, List.flatMap_cons, if_pos h0]
    rfl
  refine ⟨_, e, fun l hl => ?_⟩
  have : l ∈ compsP A (m + 1) (m + 1) := by
    show l ∈ compsL A (m + 1)
    rw [e]; exact List.mem_cons_of_mem _ hl
  obtain ⟨v, hv, -, rfl⟩ := mem_compsP.1 this
  exact compL_pos hv
/-- One component alone: the first one holds all nodes. -/
theorem irr_eq (h : 1 ≤ n) : decide ((compL A n 0).length = n) = decide ((compsL A n).length = 1) := by
  obtain ⟨L, e, hL⟩ := compsL_first (A := A) h
  have hs := sum_compsL (A := A) (n := n)
  rw [e] at hs ⊢
  have hs : (compL A n 0).length + sumLen L = n := hs
  rw [Bool.eq_iff_iff, decide_eq_true_eq, decide_eq_true_eq]
  cases L with
  | nil =>
    have : sumLen ([] : List (List Int)) = 0 := rfl
    constructor
    · intro _; rfl
    · intro _; omega
  | cons l L =>
    have hl := hL l List.mem_cons_self
    have : sumLen (l :: L) = l.length + sumLen L := rfl
    constructor
    · intro h; omega
    · intro h; simp at h
end M
end Go.Proofs.YtlofnadpgnbmdaaGreat

namespace Go.Proofs.YtlofnadpgnbmdaaGreat
namespace M
variable {A : Nat → Nat → Int} {n : Nat}
def upd (S : Nat → Bool) (v i : Nat) : Bool := decide (i = v) || S i
/-- What a visit of v makes of the found nodes. -/
def Dfs (A : Nat → Nat → Int) (n v : Nat) (S S' : Nat → Bool) : Prop :=
  (∀ i, S i = true → S' i = true) ∧ S' v = true ∧ (∀ i, S' i = true → S i = true ∨ Rch A n v i) ∧ ∀ j i, j < n → S' j = true → S j = false → i < n → A i j ≠ -1000000000000000 → S' i = true
/-- .. and what it has made of them when k arcs have been looked at. -/
def Part (A : Nat → Nat → Int) (n v : Nat) (S : Nat → Bool) (k : Nat) (S' : Nat → Bool) : Prop :=
  (∀ i, S i = true → S' i = true) ∧ S' v = true ∧ (∀ i, S' i = true → S i = true ∨ Rch A n v i) ∧ (∀ j i, j < n → j ≠ v → S' j = true → S j = false → i < n → A i j ≠ -1000000000000000 → S' i = true) ∧ ∀ i, i < k → A i v ≠ -1000000000000000 → S' i = true
theorem dfs_start {v : Nat} {S : Nat → Bool} (hv : v < n) : Part A n v S 0 (upd S v) := by
  refine ⟨fun i h => by unfold upd; rw [h, Bool.or_true], by unfold upd; simp, fun i h => ?_, fun j i _ hne h hn => ?_, fun i h => absurd h (Nat.not_lt_zero i)⟩
  · unfold upd at h
    rw [Bool.or_eq_true, decide_eq_true_eq] at h
    rcases h with h | h
    · subst h; exact .inr (rch_self hv)
    · exact .inl h
  · unfold upd at h
    rw [hn, Bool.or_false, decide_eq_true_eq] at h
    exact absurd h hne
theorem dfs_skip {v k : Nat} {S S' : Nat → Bool} (h : Part A n v S k S') (hk : A k v = -1000000000000000 ∨ S' k = true) : Part A n v S (k + 1) S' := by
  obtain ⟨h1, h2, h3, h4, h5⟩ := h
  refine ⟨h1, h2, h3, h4, fun i hi ha => ?_⟩
  by_cases e : i = k
  · subst e
    rcases hk with hk | hk
    · exact absurd hk ha
    · exact hk
  · exact h5 i (by omega) ha
theorem dfs_call {v k : Nat} {S S' S'' : Nat → Bool} (hv : v < n) (hk : k < n) (ha : A k v ≠ -1000000000000000) (h : Part A n v S k S') (hd : Dfs A n k S' S'') : Part A n v S (k + 1) S'' := by
  obtain ⟨h1, h2, h3, h4, h5⟩ := h
  obtain ⟨d1, d2, d3, d4⟩ := hd
  refine ⟨fun i hi => d1 i (h1 i hi), d1 v h2, fun i hi => ?_, fun j i hj hne hs hn hi ha' => ?_, fun i hi ha' => ?_⟩
  · rcases d3 i hi with q | q
    · exact h3 i q
    · exact .inr (rch_trans (rch_step (rch_self hv) hk ha) q)
  · cases e : S' j with
    | true => exact d1 i (h4 j i hj hne e hn hi ha')
    | false => exact d4 j i hj hs e hi ha'
  · by_cases e : i = k
    · subst e; exact d2
    · exact d1 i (h5 i (by omega) ha')
theorem dfs_end {v : Nat} {S S' : Nat → Bool} (h : Part A n v S n S') : Dfs A n v S S' := by
  obtain ⟨h1, h2, h3, h4, h5⟩ := h
  refine ⟨h1, h2, h3, fun j i hj hs hn hi ha => ?_⟩
  by_cases e : j = v
  · subst e; exact h5 i hi ha
  · exact h4 j i hj e hs hn hi ha
theorem dfs_mono {v k : Nat} {S S' : Nat → Bool} (h : Part A n v S k S') : ∀ i, upd S v i = true → S' i = true := fun i hi => by
  unfold upd at hi
  rw [Bool.or_eq_true, decide_eq_true_eq] at hi
  rcases hi with q | q
  · subst q; exact h.2.1
  · exact h.1 i q
theorem cnt_le {p q : Nat → Bool} {k : Nat} (h : ∀ i, i < k → p i = true → q i = true) : cnt p k ≤ cnt q k := by
  induction k with
  | zero => exact Nat.le_refl _
  | succ k ih =>
    rw [cnt_next, cnt_next]
    have := ih fun i hi => h i (by omega)
    have h1 := h k (by omega)
    cases e1 : p k <;> cases e2 : q k <;> simp_all <;> omega
theorem cnt_max (p : Nat → Bool) (k : Nat) : cnt p k ≤ k := by
  induction k with
  | zero => exact Nat.le_refl _
  | succ k ih => rw [cnt_next]; split <;> omega
theorem cnt_lt {p q : Nat → Bool} {k v : Nat} (hv : v < k) (hp : p v = false) (hq : q v = true) (h : ∀ i, i < k → p i = true → q i = true) : cnt p k < cnt q k := by
  induction k with
  | zero => omega
  | succ k ih =>
    rw [cnt_next, cnt_next]
    by_cases e : v = k
    · subst e
      have := cnt_le (p := p) (q := q) (k := v) fun i hi => h i (by omega)
      rw [hp, hq]; simp; omega
    · have := ih (by omega) fun i hi => h i (by omega)
      have h1 := h k (by omega)
      cases e1 : p k <;> cases e2 : q k <;> simp_all <;> omega
theorem cnt_upd {S : Nat → Bool} {v : Nat} (hv : v < n) (h : S v = false) : cnt (upd S v) n = cnt S n + 1 := by
  have e := cnt_or (p := S) (q := fun i => decide (i = v)) (r := upd S v) (k := n) (fun i _ => by unfold upd; rw [Bool.or_comm]) (fun i _ hi => by
    rw [decide_eq_false_iff_not]; intro e; subst e; rw [h] at hi; cases hi)
  rw [e]
  congr 1
  clear e h
  induction n with
  | zero => omega
  | succ n ih =>
    rw [cnt_next]
    by_cases e : n = v
    · subst e
      rw [cnt_none fun i hi => decide_eq_false (by omega)]; simp
    · rw [ih (by omega)]; simp [e]
/-- Fewer nodes are left behind a visit's start. -/
theorem cnt_left {v f : Nat} {S S' : Nat → Bool} (hv : v < n) (hs : S v = false) (hm : ∀ i, upd S v i = true → S' i = true) (h : cnt (fun i => !S i) n ≤ f + 1) : cnt (fun i => !S' i) n ≤ f := by
  have := cnt_lt (p := fun i => !S' i) (q := fun i => !S i) (k := n) hv (by
    have := hm v (by unfold upd; simp)
    simp [this]) (by simp [hs]) (fun i _ hi => by
    cases e : S i with
    | false => rfl
    | true =>
      have := hm i (by unfold upd; rw [e, Bool.or_true])
      simp [this] at hi)
  omega
theorem dfs_all {v : Nat} {S' : Nat → Bool} (hv : v < n) (h : Dfs A n v (fun _ => false) S') (i : Nat) : S' i = rchB A n v i := by
  obtain ⟨-, h2, h3, h4⟩ := h
  exact rch_set hv h2 (fun i hi => by
    rcases h3 i hi with q | q
    · cases q
    · exact q) (fun k i hk hs hi ha => h4 k i hk hs rfl hi ha) i
end M
end Go.Proofs.YtlofnadpgnbmdaaGreat

namespace Go.Proofs.YtlofnadpgnbmdaaGreat
namespace M
def upF (A : Nat → Nat → Int) (n v i j : Nat) : Int := if rchB A n i v then A i j else -1000000000000000
def upF2 (A : Nat → Nat → Int) (n v i j : Nat) : Int := if rchB A n i v && rchB A n j v then A i j else -1000000000000000
def upK (A : Nat → Nat → Int) (n v k i j : Nat) : Int := if i < k then upF A n v i j else A i j
def upRes (R : List (List Int)) (x : Int) : (Int × Int) × Int := if sqB R then (if inN R.length x then cycMeanRes (mk R.length R.length (upF (ent R) R.length x.toNat)) else ((0, 0), 2)) else ((0, 0), 1)
theorem inN_j {n : Nat} {x : Int} (h : inN n x = true) : ∃ k : Nat, k < n ∧ x = k := by
  unfold inN at h
  rw [Bool.and_eq_true, decide_eq_true_eq, decide_eq_true_eq] at h
  exact ⟨x.toNat, by omega, by omega⟩
theorem sq_mk {n : Nat} {F : Nat → Nat → Int} (n1 : 1 ≤ n) (n2 : n ≤ 10) (hF : ∀ i j, i < n → j < n → isVal (F i j) = true) : sqB (mk n n F) = true := by
  unfold sqB
  rw [isMat_mk n1 n2 n1 n2 fun i hi j hj => hF i j hi hj, mk_wid n n F (by omega), mk_length]
  simp
/-- Without arcs that lie on no cycle the cycle mean is the same. -/
theorem cyc_mk {n : Nat} {F G : Nat → Nat → Int} (n1 : 1 ≤ n) (n2 : n ≤ 10) (hF : ∀ i j, i < n → j < n → isVal (F i j) = true) (hG : ∀ i j, i < n → j < n → G i j = F i j ∨ G i j = -1000000000000000)
    (hall : ∀ v s, Closed (ent (mk n n F)) n v s → ∀ u, u < s → G (v (u + 1)) (v u) = F (v (u + 1)) (v u)) : cycMeanRes (mk n n G) = cycMeanRes (mk n n F) := by
  have hG' : ∀ i j, i < n → j < n → isVal (G i j) = true := fun i j hi hj => by
    rcases hG i j hi hj with e | e
    · rw [e]; exact hF i j hi hj
    · rw [e]; simp [isVal]
  have hA : ∀ i j, i < n → j < n → Sm 1000000 (ent (mk n n F) i j) := fun i j hi hj => by rw [ent_mk _ _ _ _ _ hi hj]; exact sm_val (hF i j hi hj)
  obtain ⟨e1, e2⟩ := sub_all (A := ent (mk n n F)) (A' := ent (mk n n G)) n2 hA (fun i j hi hj => by rw [ent_mk _ _ _ _ _ hi hj, ent_mk _ _ _ _ _ hi hj]; exact hG i j hi hj) (fun v s hc u hu => by
    have h1 := hc.2.2.1 (u + 1) (by omega)
    have h2 := hc.2.2.1 u (by omega)
    rw [ent_mk _ _ _ _ _ h1 h2, ent_mk _ _ _ _ _ h1 h2]
    exact hall v s hc u hu)
  unfold cycMeanRes
  rw [sq_mk n1 n2 hG', sq_mk n1 n2 hF, mk_length, mk_length, e1]
  cases hc : hasCyc (ent (mk n n F)) n with
  | false => simp only [Bool.false_eq_true, if_false]
  | true => rw [e2 hc]
theorem up_val {R : List (List Int)} (hs : sqB R = true) (v : Nat) : ∀ i j, i < R.length → j < R.length → isVal (upF (ent R) R.length v i j) = true := fun i j hi hj => by
  obtain ⟨h1, h2⟩ := sqB_t hs
  unfold upF
  split
  · exact (isMat_t h1).2.2.2.2.2 i hi j (by rw [← h2]; exact hj)
  · simp [isVal]
theorem up_both {R : List (List Int)} (hs : sqB R = true) (v : Nat) : cycMeanRes (mk R.length R.length (upF2 (ent R) R.length v)) = cycMeanRes (mk R.length R.length (upF (ent R) R.length v)) := by
  obtain ⟨n1, n2, hA⟩ := sq_sm hs
  refine cyc_mk n1 n2 (up_val hs v) (fun i j hi hj => ?_) (fun x s hc u hu => ?_)
  · unfold upF2 upF
    cases rchB (ent R) R.length i v <;> cases rchB (ent R) R.length j v <;> simp
  · obtain ⟨c1, c2, c3, c4⟩ := hc
    have ha := owk_arc c4
    have hr : ∀ t, t < s → rchB (ent R) R.length (x (t + 1)) v = true := fun t ht => by
      have := ha t ht
      rw [ent_mk _ _ _ _ _ (c3 _ (by omega)) (c3 _ (by omega))] at this
      cases e : rchB (ent R) R.length (x (t + 1)) v with
      | true => rfl
      | false => unfold upF at this; rw [e, if_neg Bool.false_ne_true] at this; exact absurd (Eq.refl _) this
    have h1 := hr u hu
    have h2 : rchB (ent R) R.length (x u) v = true := by
      by_cases e : u = 0
      · have := hr (s - 1) (by omega)
        rw [show s - 1 + 1 = s by omega, c2] at this
        rw [e]; exact this
      · have := hr (u - 1) (by omega)
        rw [show u - 1 + 1 = u by omega] at this
        exact this
    unfold upF2 upF
    rw [h1, h2]; rfl
theorem mk_setrow {m n : Nat} (f : Nat → Nat → Int) (g : Nat → Int) (k : Nat) : (mk m n f).set k ((List.range n).map g) = mk m n fun i j => if i = k then g j else f i j := by
  unfold mk
  apply List.ext_getElem
  · simp
  · intro i h1 h2
    rw [List.getElem_set]
    simp only [List.getElem_map, List.getElem_range]
    by_cases e : k = i
    · rw [if_pos e]; subst e; simp
    · rw [if_neg e]
      have : ¬ i = k := fun h => e h.symm
      simp [this]
theorem upK_cut {A : Nat → Nat → Int} {n v k : Nat} (h : rchB A n k v = false) : (mk n n (upK A n v k)).set k ((List.range n).map fun _ => -1000000000000000) = mk n n (upK A n v (k + 1)) := by
  rw [mk_setrow]
  refine mk_congr fun i _ j _ => ?_
  unfold upK
  by_cases e : i = k
  · subst e
    rw [if_pos rfl, if_pos (by omega)]; unfold upF; rw [h]; rfl
  · rw [if_neg e]
    by_cases e2 : i < k
    · rw [if_pos e2, if_pos (by omega)]
    · rw [if_neg e2, if_neg (by omega)]
theorem upK_same {A : Nat → Nat → Int} {n v k : Nat} (h : rchB A n k v = true) : mk n n (upK A n v k) = mk n n (upK A n v (k + 1)) := by
  refine mk_congr fun i _ j _ => ?_
  unfold upK
  by_cases e : i = k
  · subst e
    rw [if_neg (by omega), if_pos (by omega)]; unfold upF; rw [h]; rfl
  · by_cases e2 : i < k
    · rw [if_pos e2, if_pos (by omega)]
    · rw [if_neg e2, if_neg (by omega)]
end M
end Go.Proofs.YtlofnadpgnbmdaaGreat

namespace Go.Proofs.YtlofnadpgnbmdaaGreat.V
set_option maxRecDepth 100000
open Go.RowKit Go.Maps
theorem keyI : Keyed Tryz.prog 2 := int_keyed Tryz.underlying2
theorem zeroB (w : World) : (zeroValue 4).run Tryz.prog w = .ok (.bool false) w := by kernel_rfl
theorem keyAt (t : Nat) (ht : t < 1000) : keyOf Tryz.prog 2 (.int .i64 (t : Int)) = some (.int .i64 (t : Int)) := keyOf_int_mk Tryz.underlying2 (WalkArith.wf_i64 (by omega))
/-- Block b is a map that holds the set S of the n nodes. -/
def IsSet (w : World) (b n : Nat) (S : Nat → Bool) : Prop :=
  ∃ D : DataW Unit, w.ownsMap Tryz.prog 2 (plainElem Tryz.prog 4) b (M.cnt S n) D ∧ IsMap D ∧ ∀ t : Nat, t < n → D.atKey (.int .i64 (t : Int)) (.lit (.bool false)) = .lit (.bool (S t))
theorem IsSet.lt {w : World} {b n : Nat} {S : Nat → Bool} (h : IsSet w b n S) : b < w.heap.size := by
  obtain ⟨D, h, -⟩ := h
  exact h.lt
theorem IsSet.block {w w' : World} {b n : Nat} {S : Nat → Bool} (h : IsSet w b n S) (e : w'.heap[b]? = w.heap[b]?) : IsSet w' b n S := by
  obtain ⟨D, ⟨es, clock, hb, F, hs, hD⟩, h2, h3⟩ := h
  exact ⟨D, ⟨es, clock, e.trans hb, F, hs, hD⟩, h2, h3⟩
theorem IsSet.below {w w' : World} {B b n : Nat} {S : Nat → Bool} (h : IsSet w b n S) (hb : Below B w w') (hB : b < B) : IsSet w' b n S := h.block (hb.block b hB)
theorem IsSet.congr {w : World} {b n : Nat} {S S' : Nat → Bool} (h : IsSet w b n S) (e : ∀ i, i < n → S i = S' i) : IsSet w b n S' := by
  obtain ⟨D, h1, h2, h3⟩ := h
  exact ⟨D, by rw [← M.cnt_congr e]; exact h1, h2, fun t ht => by rw [h3 t ht, e t ht]⟩
theorem isSet_made (w : World) (n : Nat) : IsSet (w.alloc (.map #[] 0)) w.heap.size n (fun _ => false) :=
  ⟨.map [], by rw [M.cnt_none fun _ _ => rfl]; exact World.ownsMap_made _ _ _ _, ⟨[], rfl⟩, fun _ _ => rfl⟩
theorem plainElem_bool_inv {v : Value} {z : DataW Unit × List MemPlace} (h : plainElem Tryz.prog 4 v = some z) : ∃ x, v = .bool x ∧ z = (.lit (.bool x), []) := by
  unfold plainElem at h
  rw [Tryz.underlying4] at h
  cases v <;> simp at h
  exact ⟨_, rfl, h.symm⟩
theorem IsSet.look {w : World} {b n : Nat} {S : Nat → Bool} (h : IsSet w b n S) (hn : n ≤ 10) (t : Nat) (ht : t < n) : (Instr.lookup 168 (.map (some b)) (.int .i64 (t : Int)) false).run Tryz.prog w = .ok (.bool (S t)) w := by
  obtain ⟨D, h1, h2, h3⟩ := h
  obtain ⟨v, ps, hr, hv⟩ := h1.lookup keyI Tryz.underlying168 (zeroB w) (plainElem_bool Tryz.underlying4 false) (keyAt t (by omega))
  rw [h3 t ht] at hv
  obtain ⟨x, rfl, hz⟩ := plainElem_bool_inv hv
  simp only [Prod.mk.injEq, DataW.lit.injEq, Lit.bool.injEq] at hz
  rw [hr, hz.1]
theorem wpList_put (w : World) {ops : Array Oper} {rest : List Oper} {o : Oper} {a : Act} {Q : Exit → Act → World → Prop}
    (hg : o.guard = none) (m x v : Operand) (hop : o.op = Op.mapUpdate 168 m x v) (b n : Nat) (S : Nat → Bool) (t : Nat)
    (hm : a.eval m = .map (some b)) (hown : IsSet w b n S) (hn : n ≤ 10) (ht : t < n) (hS : S t = false) (hx : a.eval x = .int .i64 (t : Int)) (hv : a.eval v = .bool true)
    (hK : ∀ w', IsSet w' b n (M.upd S t) → w.grownBy w' (some b) → wpList Tryz.prog ops Q rest (a.put o.dst undef) w') :
    wpList Tryz.prog ops Q (o :: rest) a w := by
  obtain ⟨D, h1, h2, h3⟩ := hown
  have hc := M.cnt_max S n
  refine wpList_mapUpdate_own w hg m x v 168 hop 2 4 keyI Tryz.underlying168 _ b (M.cnt S n) D hm h1 (by unfold maxLen; omega) _ _ _ hx hv (keyAt t (by omega)) _ [] (plainElem_bool Tryz.underlying4 true) fun w' h' hg' => hK w' ⟨_, by rw [M.cnt_upd ht hS]; exact h', ?_, fun i hi => ?_⟩ hg'
  · obtain ⟨es, rfl⟩ := h2
    exact ⟨_, rfl⟩
  · by_cases e : i = t
    · subst e
      rw [atKey_put_same h2 (by trivial)]
      unfold M.upd; simp
    · rw [atKey_put_other (by intro k; injection k with _ k; omega), h3 i hi]
      unfold M.upd
      rw [decide_eq_false e, Bool.false_or]
end Go.Proofs.YtlofnadpgnbmdaaGreat.V

namespace Go.Proofs.YtlofnadpgnbmdaaGreat.V
set_option maxRecDepth 100000
open Go.RowKit Go.Maps
end Go.Proofs.YtlofnadpgnbmdaaGreat.V
