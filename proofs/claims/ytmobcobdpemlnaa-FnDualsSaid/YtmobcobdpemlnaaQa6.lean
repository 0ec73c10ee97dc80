/- Texts laid together: Ogr, Pmf, ReaZ, Eig, Dup, Pmg, Pmh, Vals0, App. -/
import Derived.Test.YtmobcobdpemlnaaQa4
import Derived.Test.YtmobcobdpemlnaaQa5
import Derived.Test.YtmobcobdpemlnaaQa2
import Derived.Test.YtmobcobdpemlnaaRows
import Derived.Test.YtmobcobdpemlnaaQa1
import Derived.WalkKit
import Derived.ProofKit
import Derived.WalkSmall
import Derived.Deep.QuietTactic
import Derived.BigQuiet
import Derived.BigRegion
import Derived.Deep.Draws
import Derived.Lib.Hide
import Derived.OpenShut
import Derived.Deep.OwnRows
import Derived.Maps.AppendAt
set_option linter.unusedSimpArgs false
set_option linter.unusedVariables false
set_option linter.unusedSectionVars false
namespace Go.Proofs.Ytmobcobdpemlnaa
namespace M
namespace Og
abbrev B : Int := -1000000000000000
/-- An arc from j to i that is not that from 0 to 0. -/
def NL (A : Nat → Nat → Int) (n i j : Nat) : Prop := i < n ∧ j < n ∧ A i j ≠ B ∧ ¬ (i = 0 ∧ j = 0)
/-- A walk of d such arcs from j to i. -/
def Wk (A : Nat → Nat → Int) (n : Nat) : Nat → Nat → Nat → Prop
  | 0, j, i => i = j
  | d + 1, j, i => ∃ m, Wk A n d j m ∧ NL A n i m
theorem wk_add {A : Nat → Nat → Int} {n d : Nat} {j m : Nat} (h : Wk A n d j m) : ∀ e i, Wk A n e m i → Wk A n (d + e) j i
  | 0, i, h2 => by cases (h2 : i = m); exact h
  | e + 1, i, ⟨q, h2, h3⟩ => ⟨q, wk_add h e q h2, h3⟩
theorem wk_cut {A : Nat → Nat → Int} {n d : Nat} {j : Nat} : ∀ e i, Wk A n (d + e) j i → ∃ m, Wk A n d j m ∧ Wk A n e m i
  | 0, i, h => ⟨i, h, rfl⟩
  | e + 1, i, ⟨q, h2, h3⟩ => by
    obtain ⟨m, h4, h5⟩ := wk_cut e q h2
    exact ⟨m, h4, q, h5, h3⟩
theorem wk_lt {A : Nat → Nat → Int} {n d : Nat} {j i : Nat} (hj : j < n) : Wk A n d j i → i < n := by
  cases d with
  | zero => intro h; cases (h : i = j); exact hj
  | succ d => rintro ⟨q, -, h, -⟩; exact h
theorem wk_rep {A : Nat → Nat → Int} {n d : Nat} {j : Nat} (h : Wk A n d j j) : ∀ m, Wk A n (d * m) j j
  | 0 => rfl
  | m + 1 => wk_add (wk_rep h m) d j h
/-- Where a walk from j leads back to j, there are walks from j of each length. -/
theorem wk_ever {A : Nat → Nat → Int} {n d : Nat} {j : Nat} (hd : 0 < d) (h : Wk A n d j j) (e : Nat) : ∃ i, Wk A n e j i := by
  have h1 := wk_rep h e
  have hle : e ≤ d * e := Nat.le_mul_of_pos_left e hd
  obtain ⟨r, hr⟩ : ∃ r, d * e = e + r := ⟨d * e - e, by omega⟩
  rw [hr] at h1
  obtain ⟨m, h2, -⟩ := wk_cut r j h1
  exact ⟨m, h2⟩
/-- The nodes of a walk. -/
theorem wk_nodes {A : Nat → Nat → Int} {n j : Nat} : ∀ d i, Wk A n d j i → ∃ p : Nat → Nat, p d = i ∧ ∀ s t, s ≤ t → t ≤ d → Wk A n (t - s) (p s) (p t) ∧ Wk A n s j (p s)
  | 0, i, h => ⟨fun _ => i, rfl, fun s t hs ht => by
      obtain rfl : t = 0 := by omega
      obtain rfl : s = 0 := by omega
      exact ⟨rfl, h⟩⟩
  | d + 1, i, ⟨q, h2, h3⟩ => by
    obtain ⟨p, hp, h4⟩ := wk_nodes d q h2
    have key : ∀ s, s ≤ d → Wk A n (d + 1 - s) (p s) i := fun s hs => by
      have := (h4 s d hs (Nat.le_refl _)).1
      rw [hp] at this
      rw [show d + 1 - s = (d - s) + 1 by omega]
      exact ⟨q, this, h3⟩
    refine ⟨fun t => if t ≤ d then p t else i, if_neg (by omega), fun s t hs ht => ?_⟩
    by_cases e1 : t ≤ d
    · have e2 : s ≤ d := by omega
      simp only [e1, e2, if_true]
      exact h4 s t hs e1
    · obtain rfl : t = d + 1 := by omega
      by_cases e2 : s ≤ d
      · simp only [e1, e2, if_true, if_false]
        exact ⟨key s e2, (h4 s s (Nat.le_refl _) e2).2⟩
      · obtain rfl : s = d + 1 := by omega
        simp only [e1, if_false, Nat.sub_self]
        exact ⟨rfl, q, h2, h3⟩
/-- Of more than n numbers below n two are equal. -/
theorem two_same : ∀ (n : Nat) (p : Nat → Nat), (∀ t, t ≤ n → p t < n) → ∃ s t, s < t ∧ t ≤ n ∧ p s = p t
  | 0, p, h => absurd (h 0 (Nat.le_refl _)) (Nat.not_lt_zero _)
  | n + 1, p, h => by
    by_cases hx : ∃ s, s ≤ n ∧ p s = p (n + 1)
    · obtain ⟨s, h1, h2⟩ := hx
      exact ⟨s, n + 1, by omega, Nat.le_refl _, h2⟩
    · -- p (n + 1) is met nowhere before: take it out of the numbers
      have hq : ∀ t, t ≤ n → (if p t > p (n + 1) then p t - 1 else p t) < n := fun t ht => by
        have h1 := h t (by omega)
        have h2 := h (n + 1) (Nat.le_refl _)
        have h3 : p t ≠ p (n + 1) := fun e => hx ⟨t, ht, e⟩
        split <;> omega
      obtain ⟨s, t, h1, h2, h3⟩ := two_same n (fun t => if p t > p (n + 1) then p t - 1 else p t) hq
      have h4 : p s ≠ p (n + 1) := fun e => hx ⟨s, by omega, e⟩
      have h5 : p t ≠ p (n + 1) := fun e => hx ⟨t, by omega, e⟩
      refine ⟨s, t, h1, by omega, ?_⟩
      split at h3 <;> split at h3 <;> omega
theorem wk_long {A : Nat → Nat → Int} {n d j i : Nat} (hj : j < n) (hd : n ≤ d) (h : Wk A n d j i) (e : Nat) : ∃ i, Wk A n e j i := by
  obtain ⟨p, hp, h4⟩ := wk_nodes d i h
  have hlt : ∀ t, t ≤ n → p t < n := fun t ht => wk_lt hj (h4 t t (Nat.le_refl _) (by omega)).2
  obtain ⟨s, t, h1, h2, h3⟩ := two_same n p hlt
  have c1 := (h4 s t (by omega) (by omega)).1
  have c2 := (h4 s t (by omega) (by omega)).2
  rw [← h3] at c1
  obtain ⟨m, h5⟩ := wk_ever (by omega) c1 e
  have h6 := wk_add c2 e m h5
  rw [Nat.add_comm] at h6
  obtain ⟨q, h7, -⟩ := wk_cut s m h6
  exact ⟨q, h7⟩
/-- What is asked of a matrix and the elements of an orbit up to e. -/
structure Orb (A : Nat → Nat → Int) (X : Nat → Nat → Int) (n e : Nat) : Prop where
  up : ∀ t, t < e → ∀ i, i < n → ∀ j, j < n → A i j ≠ B → X t j ≠ B → X (t + 1) i ≠ B ∧ A i j + X t j ≤ X (t + 1) i
  from_ : ∀ t, t < e → ∀ i, i < n → X (t + 1) i ≠ B → ∃ j, j < n ∧ A i j ≠ B ∧ X t j ≠ B ∧ X (t + 1) i = A i j + X t j
  val : ∀ t, t ≤ e → ∀ i, i < n → X t i ≠ B → -1000000 ≤ X t i ∧ X t i ≤ 1000000
  ent : ∀ i, i < n → ∀ j, j < n → A i j ≠ B → ¬ (i = 0 ∧ j = 0) → -10 ≤ A i j ∧ A i j ≤ 15
  beg : ∀ i, i < n → X 0 i ≠ B → -15 ≤ X 0 i ∧ X 0 i ≤ 15
section
variable {A : Nat → Nat → Int} {X : Nat → Nat → Int} {n e : Nat} (H : Orb A X n e)
include H
/-- Where all entries on the way are at most m, elements grow by at most m. -/
theorem grow {k : Nat} {top m : Int} (h0 : ∀ j, j < n → X k j ≠ B → X k j ≤ top) (hm : ∀ t, k ≤ t → t < e → ∀ i, i < n → ∀ j, j < n → A i j ≠ B → X t j ≠ B → A i j ≤ m) : ∀ d, k + d ≤ e → ∀ i, i < n → X (k + d) i ≠ B → X (k + d) i ≤ top + m * d
  | 0, _, i, hi, hf => by have := h0 i hi hf; simpa using this
  | d + 1, hd, i, hi, hf => by
    obtain ⟨j, hj, h1, h2, h3⟩ := H.from_ (k + d) (by omega) i hi hf
    have h4 := grow h0 hm d (by omega) j hj h2
    have h5 := hm (k + d) (by omega) (by omega) i hi j hj h1 h2
    have e1 : m * ((d + 1 : Nat) : Int) = m * d + m := by rw [Int.natCast_add, Int.mul_add]; simp
    have h3' : X (k + (d + 1)) i = A i j + X (k + d) j := h3
    rw [h3', e1]; omega
theorem sink {k : Nat} {low m : Int} (h0 : ∀ j, j < n → X k j ≠ B → low ≤ X k j) (hm : ∀ i, i < n → ∀ j, j < n → A i j ≠ B → -m ≤ A i j) : ∀ d, k + d ≤ e → ∀ i, i < n → X (k + d) i ≠ B → low - m * d ≤ X (k + d) i
  | 0, _, i, hi, hf => by have := h0 i hi hf; simpa using this
  | d + 1, hd, i, hi, hf => by
    obtain ⟨j, hj, h1, h2, h3⟩ := H.from_ (k + d) (by omega) i hi hf
    have h4 := sink h0 hm d (by omega) j hj h2
    have h5 := hm i hi j hj h1
    have e1 : m * ((d + 1 : Nat) : Int) = m * d + m := by rw [Int.natCast_add, Int.mul_add]; simp
    have h3' : X (k + (d + 1)) i = A i j + X (k + d) j := h3
    rw [h3', e1]; omega
/-- What a walk carries on. -/
theorem carry {t j : Nat} (hj : j < n) (hf : X t j ≠ B) : ∀ d i, t + d ≤ e → Wk A n d j i → X (t + d) i ≠ B ∧ X t j - 10 * d ≤ X (t + d) i
  | 0, i, _, h => by cases (h : i = j); exact ⟨hf, by simp⟩
  | d + 1, i, hd, ⟨q, h1, h2, h3, h4, h5⟩ => by
    obtain ⟨f1, f2⟩ := carry hj hf d q (by omega) h1
    obtain ⟨f3, f4⟩ := H.up (t + d) (by omega) i h2 q h3 h4 f1
    have f5 := (H.ent i h2 q h3 h4 h5).1
    refine ⟨f3, ?_⟩
    show _ ≤ X (t + d + 1) i
    push_cast at *
    omega
/-- Where an element comes from: by a walk, or over the arc from 0 to 0. -/
theorem come {t : Nat} : ∀ d i, t + d ≤ e → i < n → X (t + d) i ≠ B →
    (∃ j, j < n ∧ X t j ≠ B ∧ Wk A n d j i) ∨ (∃ s r, t ≤ s ∧ s + 1 + r = t + d ∧ 0 < n ∧ A 0 0 ≠ B ∧ X s 0 ≠ B ∧ Wk A n r 0 i ∧ X (t + d) i ≤ A 0 0 + X s 0 + 15 * r)
  | 0, i, _, hi, hf => .inl ⟨i, hi, hf, rfl⟩
  | d + 1, i, hd, hi, hf => by
    obtain ⟨j, hj, h1, h2, h3⟩ := H.from_ (t + d) (by omega) i hi hf
    have h3' : X (t + (d + 1)) i = A i j + X (t + d) j := h3
    by_cases hl : i = 0 ∧ j = 0
    · obtain ⟨rfl, rfl⟩ := hl
      exact .inr ⟨t + d, 0, by omega, by omega, by omega, h1, h2, rfl, by rw [h3']; simp⟩
    · have h4 := (H.ent i hi j hj h1 hl).2
      rcases come d j (by omega) hj h2 with ⟨q, q1, q2, q3⟩ | ⟨s, r, q1, q2, q3, q4, q5, q6, q7⟩
      · exact .inl ⟨q, q1, q2, j, q3, hi, hj, h1, hl⟩
      · refine .inr ⟨s, r + 1, q1, by omega, q3, q4, q5, ⟨j, q6, hi, hj, h1, hl⟩, ?_⟩
        rw [h3']
        push_cast
        omega
/-- An element at 0 stays where the arc from 0 to 0 is. -/
theorem stay (hn : 0 < n) (hv : A 0 0 ≠ B) {t : Nat} (hf : X t 0 ≠ B) : ∀ d, t + d ≤ e → X (t + d) 0 ≠ B ∧ X t 0 + A 0 0 * d ≤ X (t + d) 0
  | 0, _ => ⟨hf, by simp⟩
  | d + 1, hd => by
    obtain ⟨f1, f2⟩ := stay hn hv hf d (by omega)
    obtain ⟨f3, f4⟩ := H.up (t + d) (by omega) 0 hn 0 hn hv f1
    refine ⟨f3, ?_⟩
    show _ ≤ X (t + d + 1) 0
    have e1 : A 0 0 * ((d + 1 : Nat) : Int) = A 0 0 * d + A 0 0 := by rw [Int.natCast_add, Int.mul_add]; simp
    rw [e1]; omega
end
end Og
end M
end Go.Proofs.Ytmobcobdpemlnaa

namespace Go.Proofs.Ytmobcobdpemlnaa
namespace M
/-- The star times zeros. -/
def zpot (A : Nat → Nat → Int) (n : Nat) : List Int := applyM (starM (mk n n A) n) (zerosL n)
theorem zp_len (A : Nat → Nat → Int) (n : Nat) : (zpot A n).length = n := by unfold zpot applyM starM; simp [mk]
section
variable {A : Nat → Nat → Int} {n : Nat} (n2 : n ≤ 10) (hS : ∀ i j, i < n → j < n → Sm 1000001000000 (A i j)) (hp : noPos A n = true)
theorem zp_at {i : Nat} (hi : i < n) : (zpot A n).getD i 0 = sumN n fun j => times (starF A n i j) 0 := by
  unfold zpot applyM
  have hl : (starM (mk n n A) n).length = n := mk_length _ _ _
  have hz : (zerosL n).length = n := by simp [zerosL]
  rw [hl, hz, List.getD_eq_getElem?_getD, List.getElem?_map, List.getElem?_range hi]
  show dotV _ _ i _ = _
  unfold dotV
  refine sumN_congr fun j hj => ?_
  unfold starM
  rw [zeros_at, ent_mk _ _ _ _ _ hi hj, starF_congr (A' := A) (fun i j hi hj => ent_mk _ _ _ _ _ hi hj) hi hj]
include n2 hS hp
theorem zp_term {i j : Nat} (hi : i < n) (hj : j < n) : Sm 11000011000000 (times (starF A n i j) 0) ∧ o (times (starF A n i j) 0) = obm (fun i j => o (A i j)) n n i j := by
  have h1 := star_sm n2 hS hp hi hj
  have h2 := smt h1 (.inr (by omega) : Sm 0 0)
  refine ⟨sm_up h2 (by omega), ?_⟩
  rw [o_times h1 (.inr (by omega) : Sm 0 0) (by omega) (by omega)]
  show omul _ (some 0) = _
  rw [omul_zero]
  unfold starF
  rw [← clo_star n2 hS hp hi hj, o_cbm hS n (by omega) i j hi hj]
theorem zp_sm {i : Nat} (hi : i < n) : Sm 11000011000000 ((zpot A n).getD i 0) ∧ 0 ≤ (zpot A n).getD i 0 ∧ o ((zpot A n).getD i 0) = osum n fun j => obm (fun i j => o (A i j)) n n i j := by
  rw [zp_at hi]
  refine ⟨sms fun t ht => (zp_term n2 hS hp hi ht).1, ?_, ?_⟩
  · have := sum_ge (f := fun j => times (starF A n i j) 0) hi
    have e : times (starF A n i i) 0 = 0 := by
      have : starF A n i i = 0 := if_pos rfl
      rw [this]; rfl
    rw [e] at this
    exact this
  · rw [o_sum (fun t ht => (zp_term n2 hS hp hi ht).1) (by omega)]
    exact osum_congr fun t ht => (zp_term n2 hS hp hi ht).2
theorem zp_arc {i j : Nat} (hi : i < n) (hj : j < n) : times (A i j) ((zpot A n).getD j 0) ≤ (zpot A n).getD i 0 := by
  have hd := o_diag n2 hS hp
  obtain ⟨s1, s2, s3⟩ := zp_sm n2 hS hp hi
  obtain ⟨t1, t2, t3⟩ := zp_sm n2 hS hp hj
  have h1 : o (times (A i j) ((zpot A n).getD j 0)) = omul (o (A i j)) (o ((zpot A n).getD j 0)) := o_times (hS i j hi hj) t1 (by omega) (by omega)
  refine (o_le (L := 100000000000000) (sm_up (smt (hS i j hi hj) t1) (by omega)) (sm_up s1 (by omega)) (by omega)).1 ?_
  rw [h1, t3, s3]
  rcases osum_att n (fun k => obm (fun i j => o (A i j)) n n j k) with z | ⟨k, hk, z⟩
  · rw [z, omul_none]; exact ole_none _
  · rw [z]
    refine ole_trans ?_ (le_osum (f := fun k => obm (fun i j => o (A i j)) n n i k) hk)
    show ole _ (obm _ n n i k)
    rw [← obm_stable hd hi hk]
    refine ole_trans ?_ (osup_r _ _)
    exact le_osum (f := fun u => omul (o (A i u)) (obm (fun i j => o (A i j)) n n u k)) hj
end
/-! The dual. -/
def colsP (R : List (List Int)) (k : Nat) : Nat := ((asg R).getD k 0).toNat
def relM (R : List (List Int)) : List (List Int) := mk R.length R.length (relF R (colsP R))
def dualU (R : List (List Int)) : List Int := zpot (relF R (colsP R)) R.length
/-- The list v after the first m rows. -/
def dualV (R : List (List Int)) : Nat → List Int
  | 0 => List.replicate R.length 0
  | m + 1 => (dualV R m).set (colsP R m) (ent R m (colsP R m) - (dualU R).getD m 0)
def dualRes (R : List (List Int)) : List Int × List Int × Int :=
  if sqB R then (if (perm R).1 = -1000000000000000 then ([], [], 4) else (if isVec (dualU R) && isVec (dualV R R.length) then (dualU R, dualV R R.length, 0) else ([], [], 3))) else ([], [], 1)
theorem dualV_len (R : List (List Int)) : ∀ m, (dualV R m).length = R.length
  | 0 => by simp [dualV]
  | m + 1 => by rw [dualV, List.length_set, dualV_len R m]
/-- What is known where the permanent is not Bottom. -/
structure Bst (R : List (List Int)) : Prop where
  col : ∀ i, i < R.length → colsP R i < R.length ∧ (asg R).getD i 0 = (colsP R i : Int) ∧ -1000000 ≤ ent R i (colsP R i) ∧ ent R i (colsP R i) ≤ 1000000
  inj : ∀ a b, a < R.length → b < R.length → colsP R a = colsP R b → a = b
  sum : sumY R.length (fun i => ent R i (colsP R i)) = (perm R).1
  noP : noPos (relF R (colsP R)) R.length = true
  sm : ∀ i j, i < R.length → j < R.length → Sm 2000000 (relF R (colsP R) i j)
theorem bst_of {R : List (List Int)} (h : Sq R) (hb : (perm R).1 ≠ -1000000000000000) : Bst R := by
  obtain ⟨p, p1, p2, p3, p4⟩ := best_is h hb
  have e : ∀ i, i < R.length → colsP R i = p i := fun i hi => by unfold colsP; rw [(p1 i hi).2.1]; simp
  have c1 : ∀ i, i < R.length → colsP R i < R.length ∧ -1000000 ≤ ent R i (colsP R i) ∧ ent R i (colsP R i) ≤ 1000000 := fun i hi => by
    rw [e i hi]; exact ⟨(p1 i hi).1, (p1 i hi).2.2⟩
  have c2 : ∀ a b, a < R.length → b < R.length → colsP R a = colsP R b → a = b := fun a b ha hb2 q => by
    rw [e a ha, e b hb2] at q; exact p2 a b ha hb2 q
  have c3 : sumY R.length (fun i => ent R i (colsP R i)) = (perm R).1 := by
    rw [← p3]; exact sumY_congr _ fun i hi => by rw [e i hi]
  refine ⟨fun i hi => ⟨(c1 i hi).1, by rw [e i hi]; exact (p1 i hi).2.1, (c1 i hi).2⟩, c2, c3, ?_, fun i j hi hj => relF_sm h c1 hi hj⟩
  refine best_noPos h c1 c2 fun q q1 q2 => ?_
  rw [c3]
  exact p4 q q1 q2
theorem dualV_at {R : List (List Int)} (h : Bst R) : ∀ m, m ≤ R.length → ∀ k, k < m → (dualV R m).getD (colsP R k) 0 = ent R k (colsP R k) - (dualU R).getD k 0
  | m + 1, hm, k, hk => by
    rw [dualV]
    by_cases e : k = m
    · subst e
      rw [List.getD_eq_getElem?_getD, List.getElem?_set_self (by rw [dualV_len]; exact (h.col k (by omega)).1)]; rfl
    · have hne : ¬ colsP R m = colsP R k := fun q => e (h.inj m k (by omega) (by omega) q).symm
      rw [List.getD_eq_getElem?_getD, List.getElem?_set_ne hne, ← List.getD_eq_getElem?_getD]
      exact dualV_at h m (by omega) k (by omega)
/-- Each column is that of a row. -/
theorem col_row {R : List (List Int)} (h : Bst R) {j : Nat} (hj : j < R.length) : ∃ k, k < R.length ∧ colsP R k = j := by
  apply Classical.byContradiction
  intro hno
  have hne : ∀ k, k < R.length → colsP R k ≠ j := fun k hk q => hno ⟨k, hk, q⟩
  obtain ⟨m, hm⟩ : ∃ m, R.length = m + 1 := ⟨R.length - 1, by omega⟩
  obtain ⟨s, t, h1, h2, h3⟩ := Og.two_same m (fun k => if colsP R k > j then colsP R k - 1 else colsP R k) (fun t ht => by
    have e1 := (h.col t (by omega)).1
    have e2 := hne t (by omega)
    show (if colsP R t > j then colsP R t - 1 else colsP R t) < m
    split <;> omega)
  have e1 := hne s (by omega)
  have e2 := hne t (by omega)
  have h3 : (if colsP R s > j then colsP R s - 1 else colsP R s) = (if colsP R t > j then colsP R t - 1 else colsP R t) := h3
  have h4 : colsP R s = colsP R t := by split at h3 <;> split at h3 <;> omega
  have := h.inj s t (by omega) (by omega) h4
  omega
end M
end Go.Proofs.Ytmobcobdpemlnaa

namespace Go.Proofs.Ytmobcobdpemlnaa
namespace M
/-- The node v reaches i. -/
def Rch (A : Nat → Nat → Int) (n v i : Nat) : Prop :=
  ∃ (t : Nat) (x : Nat → Nat), x 0 = v ∧ x t = i ∧ (∀ u, u ≤ t → x u < n) ∧ ∀ u, u < t → A (x (u + 1)) (x u) ≠ -1000000000000000
/-- By at most r arcs. -/
def RcN (A : Nat → Nat → Int) (n v r i : Nat) : Prop :=
  ∃ (t : Nat) (x : Nat → Nat), t ≤ r ∧ x 0 = v ∧ x t = i ∧ (∀ u, u ≤ t → x u < n) ∧ ∀ u, u < t → A (x (u + 1)) (x u) ≠ -1000000000000000
variable {A : Nat → Nat → Int} {n : Nat}
theorem Rch.of {v r i : Nat} (h : RcN A n v r i) : Rch A n v i := by
  obtain ⟨t, x, -, h⟩ := h
  exact ⟨t, x, h⟩
theorem rch_self {v : Nat} (hv : v < n) : Rch A n v v := ⟨0, fun _ => v, rfl, rfl, fun _ _ => hv, fun u hu => absurd hu (Nat.not_lt_zero u)⟩
theorem rcn_self {v : Nat} (hv : v < n) (r : Nat) : RcN A n v r v := ⟨0, fun _ => v, Nat.zero_le _, rfl, rfl, fun _ _ => hv, fun u hu => absurd hu (Nat.not_lt_zero u)⟩
theorem Rch.lt {v i : Nat} (h : Rch A n v i) : v < n ∧ i < n := by
  obtain ⟨t, x, h1, h2, h3, -⟩ := h
  exact ⟨by rw [← h1]; exact h3 0 (Nat.zero_le _), by rw [← h2]; exact h3 t (Nat.le_refl _)⟩
theorem rcn_step {v r k i : Nat} (h : RcN A n v r k) (hi : i < n) (ha : A i k ≠ -1000000000000000) : RcN A n v (r + 1) i := by
  obtain ⟨t, x, h0, h1, h2, h3, h4⟩ := h
  refine ⟨t + 1, fun u => if u ≤ t then x u else i, by omega, ?_, ?_, ?_, ?_⟩
  · show (if 0 ≤ t then x 0 else i) = v
    rw [if_pos (Nat.zero_le _), h1]
  · show (if t + 1 ≤ t then _ else i) = i
    rw [if_neg (by omega)]
  · intro u hu
    show (if u ≤ t then x u else i) < n
    split
    · next h => exact h3 u h
    · exact hi
  · intro u hu
    show A (if u + 1 ≤ t then x (u + 1) else i) (if u ≤ t then x u else i) ≠ _
    by_cases e : u = t
    · subst e
      rw [if_neg (by omega), if_pos (Nat.le_refl _), h2]; exact ha
    · rw [if_pos (by omega), if_pos (by omega)]; exact h4 u (by omega)
theorem rcn_mono {v r r' i : Nat} (h : RcN A n v r i) (hr : r ≤ r') : RcN A n v r' i := by
  obtain ⟨t, x, h0, h⟩ := h
  exact ⟨t, x, by omega, h⟩
theorem rch_rcn {v i : Nat} (h : Rch A n v i) : ∃ r, RcN A n v r i := by
  obtain ⟨t, x, h⟩ := h
  exact ⟨t, t, x, Nat.le_refl _, h⟩
theorem rch_step {v k i : Nat} (h : Rch A n v k) (hi : i < n) (ha : A i k ≠ -1000000000000000) : Rch A n v i := by
  obtain ⟨r, h⟩ := rch_rcn h
  exact Rch.of (rcn_step h hi ha)
theorem rcn_next {v r i : Nat} (h : RcN A n v (r + 1) i) : RcN A n v r i ∨ ∃ k, k < n ∧ RcN A n v r k ∧ i < n ∧ A i k ≠ -1000000000000000 := by
  obtain ⟨t, x, h0, h1, h2, h3, h4⟩ := h
  by_cases e : t ≤ r
  · exact .inl ⟨t, x, e, h1, h2, h3, h4⟩
  · obtain rfl : t = r + 1 := by omega
    refine .inr ⟨x r, h3 r (by omega), ⟨r, x, Nat.le_refl _, h1, rfl, fun u hu => h3 u (by omega), fun u hu => h4 u (by omega)⟩, by rw [← h2]; exact h3 _ (Nat.le_refl _), ?_⟩
    rw [← h2]; exact h4 r (by omega)
theorem rcn_zero {v i : Nat} (h : RcN A n v 0 i) : i = v := by
  obtain ⟨t, x, h0, h1, h2, -⟩ := h
  obtain rfl : t = 0 := by omega
  rw [← h1, ← h2]
/-- What holds at the start and is handed on along arcs holds at all nodes that are reached. -/
theorem Rch.ind {P : Nat → Prop} {v i : Nat} (h : Rch A n v i) (h0 : v < n → P v) (hs : ∀ k i, Rch A n v k → P k → i < n → A i k ≠ -1000000000000000 → P i) : P i := by
  obtain ⟨t, x, h1, h2, h3, h4⟩ := h
  have : ∀ u, u ≤ t → P (x u) := by
    intro u
    induction u with
    | zero => intro _; rw [h1]; exact h0 (by rw [← h1]; exact h3 0 (Nat.zero_le _))
    | succ u ih =>
      intro hu
      exact hs (x u) _ ⟨u, x, h1, rfl, fun w hw => h3 w (by omega), fun w hw => h4 w (by omega)⟩ (ih (by omega)) (h3 _ hu) (h4 u (by omega))
  rw [← h2]; exact this t (Nat.le_refl _)
theorem rch_trans {v k i : Nat} (h : Rch A n v k) (h' : Rch A n k i) : Rch A n v i :=
  h'.ind (P := fun i => Rch A n v i) (fun _ => h) fun _ _ _ ih hi ha => rch_step ih hi ha
/-- A walk need not be longer than there are nodes. -/
theorem rch_short {v i : Nat} (h : Rch A n v i) : RcN A n v n i := by
  obtain ⟨t, h⟩ : ∃ t, ∃ x : Nat → Nat, x 0 = v ∧ x t = i ∧ (∀ u, u ≤ t → x u < n) ∧ ∀ u, u < t → A (x (u + 1)) (x u) ≠ -1000000000000000 := h
  induction t using Nat.strongRecOn with
  | _ t ih =>
    obtain ⟨x, h1, h2, h3, h4⟩ := h
    by_cases e : t ≤ n
    · exact ⟨t, x, e, h1, h2, h3, h4⟩
    · obtain ⟨a, b, hab, hb, he⟩ := pigeon n x (fun u hu => h3 u (by omega))
      refine ih (t - (b - a)) (by omega) ⟨fun u => if u < a then x u else x (u + (b - a)), ?_, ?_, ?_, ?_⟩
      · show (if 0 < a then x 0 else x (0 + (b - a))) = v
        split
        · exact h1
        · obtain rfl : a = 0 := by omega
          rw [Nat.zero_add, Nat.sub_zero, ← he, h1]
      · show (if t - (b - a) < a then _ else x (t - (b - a) + (b - a))) = i
        rw [if_neg (by omega), show t - (b - a) + (b - a) = t by omega, h2]
      · intro u hu
        show (if u < a then x u else x (u + (b - a))) < n
        split
        · exact h3 u (by omega)
        · exact h3 _ (by omega)
      · intro u hu
        show A (if u + 1 < a then x (u + 1) else x (u + 1 + (b - a))) (if u < a then x u else x (u + (b - a))) ≠ _
        by_cases e1 : u + 1 < a
        · rw [if_pos e1, if_pos (by omega)]; exact h4 u (by omega)
        · by_cases e2 : u < a
          · rw [if_neg e1, if_pos e2, show u + 1 + (b - a) = b by omega, ← he, show a = u + 1 by omega]
            exact h4 u (by omega)
          · rw [if_neg e1, if_neg e2, show u + 1 + (b - a) = u + (b - a) + 1 by omega]
            exact h4 _ (by omega)
/-- Turned arcs turn what reaches what. -/
theorem rch_turn {B : Nat → Nat → Int} (hB : ∀ i j, i < n → j < n → B i j = A j i) {v i : Nat} (h : Rch B n v i) : Rch A n i v := by
  obtain ⟨t, x, h1, h2, h3, h4⟩ := h
  refine ⟨t, fun u => x (t - u), by show x (t - 0) = i; rw [Nat.sub_zero, h2], by show x (t - t) = v; rw [Nat.sub_self, h1], fun u _ => h3 _ (by omega), fun u hu => ?_⟩
  show A (x (t - (u + 1))) (x (t - u)) ≠ _
  have := h4 (t - (u + 1)) (by omega)
  rw [hB _ _ (h3 _ (by omega)) (h3 _ (by omega)), show t - (u + 1) + 1 = t - u by omega] at this
  exact this
theorem rch_congr {B : Nat → Nat → Int} (hB : ∀ i j, i < n → j < n → B i j = A i j) {v i : Nat} (h : Rch B n v i) : Rch A n v i := by
  obtain ⟨t, x, h1, h2, h3, h4⟩ := h
  refine ⟨t, x, h1, h2, h3, fun u hu => ?_⟩
  rw [← hB _ _ (h3 _ (by omega)) (h3 _ (by omega))]; exact h4 u hu
/-- The same, as a test. -/
def rsB (A : Nat → Nat → Int) (n v : Nat) : Nat → Nat → Bool
  | 0, i => decide (i = v) && decide (v < n)
  | r + 1, i => rsB A n v r i || (decide (i < n) && (List.range n).any fun k => rsB A n v r k && decide (A i k ≠ -1000000000000000))
theorem rsB_t {v : Nat} (r : Nat) : ∀ i, rsB A n v r i = true ↔ RcN A n v r i := by
  induction r with
  | zero =>
    intro i
    show (decide (i = v) && decide (v < n)) = true ↔ _
    rw [Bool.and_eq_true, decide_eq_true_eq, decide_eq_true_eq]
    exact ⟨fun ⟨e, hv⟩ => by subst e; exact rcn_self hv 0, fun h => ⟨rcn_zero h, (Rch.of h).lt.1⟩⟩
  | succ r ih =>
    intro i
    show (rsB A n v r i || (decide (i < n) && (List.range n).any fun k => rsB A n v r k && decide (A i k ≠ -1000000000000000))) = true ↔ _
    rw [Bool.or_eq_true, Bool.and_eq_true, decide_eq_true_eq, List.any_eq_true, ih]
    constructor
    · rintro (h | ⟨hi, k, -, hk⟩)
      · exact rcn_mono h (Nat.le_succ r)
      · rw [Bool.and_eq_true, decide_eq_true_eq, ih] at hk
        exact rcn_step hk.1 hi hk.2
    · intro h
      rcases rcn_next h with h | ⟨k, hk, h1, h2, h3⟩
      · exact .inl h
      · exact .inr ⟨h2, k, List.mem_range.2 hk, by rw [Bool.and_eq_true, decide_eq_true_eq, ih]; exact ⟨h1, h3⟩⟩
def rchB (A : Nat → Nat → Int) (n v i : Nat) : Bool := rsB A n v n i
theorem rchB_t {v i : Nat} : rchB A n v i = true ↔ Rch A n v i := (rsB_t n i).trans ⟨Rch.of, rch_short⟩
theorem rchB_eq {v i : Nat} {b : Bool} (h : b = true ↔ Rch A n v i) : rchB A n v i = b := by
  rw [Bool.eq_iff_iff, rchB_t, h]
theorem rchB_turn {B : Nat → Nat → Int} (hB : ∀ i j, i < n → j < n → B i j = A j i) (v i : Nat) : rchB B n v i = rchB A n i v :=
  rchB_eq (by rw [rchB_t]; exact ⟨fun h => rch_turn (A := B) (B := A) (fun i j hi hj => (hB j i hj hi).symm) h, fun h => rch_turn hB h⟩)
theorem rchB_congr {B : Nat → Nat → Int} (hB : ∀ i j, i < n → j < n → B i j = A i j) (v i : Nat) : rchB B n v i = rchB A n v i :=
  rchB_eq (by rw [rchB_t]; exact ⟨fun h => rch_congr (fun i j hi hj => (hB i j hi hj).symm) h, fun h => rch_congr hB h⟩)
/-- A set that holds the start, only what is reached, and all that an arc leads to from it, is what is reached. -/
theorem rch_set {v : Nat} {S : Nat → Bool} (hv : v < n) (h0 : S v = true) (hS : ∀ i, S i = true → Rch A n v i) (hc : ∀ k i, k < n → S k = true → i < n → A i k ≠ -1000000000000000 → S i = true) (i : Nat) : S i = rchB A n v i :=
  (rchB_eq ⟨fun h => hS i h, fun h => h.ind (P := fun i => S i = true) (fun _ => h0) fun k i hk ih hi ha => hc k i hk.lt.2 ih hi ha⟩).symm
/-- The rounds of the model's search: what n rounds have found. -/
theorem rch_rounds {v : Nat} {S : Nat → Bool} (hS : ∀ i, S i = true → Rch A n v i) (hr : ∀ i, RcN A n v n i → S i = true) (i : Nat) : S i = rchB A n v i :=
  (rchB_eq ⟨fun h => hS i h, fun h => hr i (rch_short h)⟩).symm

/-! Matrices without some arcs. -/
theorem owk_sub {A' : Nat → Nat → Int} (h : ∀ i j, i < n → j < n → A' i j = A i j ∨ A' i j = -1000000000000000) {v : Nat → Nat} {s : Nat} (hv : ∀ u, u ≤ s → v u < n) {w : Int} (hw : owk (fun i j => o (A' i j)) v s = some w) : owk (fun i j => o (A i j)) v s = some w := by
  induction s generalizing w with
  | zero => exact hw
  | succ s ih =>
    have hw : omul (o (A' (v (s + 1)) (v s))) (owk (fun i j => o (A' i j)) v s) = some w := hw
    show omul (o (A (v (s + 1)) (v s))) (owk (fun i j => o (A i j)) v s) = some w
    cases e : owk (fun i j => o (A' i j)) v s with
    | none => rw [e, omul_none] at hw; cases hw
    | some x =>
      rw [e] at hw
      rw [ih (fun u hu => hv u (by omega)) e]
      rcases h (v (s + 1)) (v s) (hv _ (Nat.le_refl _)) (hv _ (by omega)) with q | q
      · rw [← q]; exact hw
      · rw [q, o_bot, none_omul] at hw; cases hw
theorem owk_keep {A' : Nat → Nat → Int} {v : Nat → Nat} {s : Nat} (h : ∀ u, u < s → A' (v (u + 1)) (v u) = A (v (u + 1)) (v u)) : owk (fun i j => o (A' i j)) v s = owk (fun i j => o (A i j)) v s := by
  induction s with
  | zero => rfl
  | succ s ih =>
    show omul (o (A' _ _)) (owk _ v s) = omul (o (A _ _)) (owk _ v s)
    rw [ih fun u hu => h u (by omega), h s (by omega)]
section
variable {A' : Nat → Nat → Int} (hn : n ≤ 10) (hA : ∀ i j, i < n → j < n → Sm 1000000 (A i j)) (hsub : ∀ i j, i < n → j < n → A' i j = A i j ∨ A' i j = -1000000000000000)
include hn hA hsub
omit hn in
theorem sub_sm : ∀ i j, i < n → j < n → Sm 1000000 (A' i j) := fun i j hi hj => by
  rcases hsub i j hi hj with q | q
  · rw [q]; exact hA i j hi hj
  · rw [q]; exact .inl rfl
theorem sub_cyc (h : hasCyc A' n = true) : hasCyc A n = true := by
  obtain ⟨v, s, h1, h2, h3, h4⟩ := cyc_closed hn (sub_sm hA hsub) h
  cases e : owk (fun i j => o (A' i j)) v s with
  | none => exact absurd e h4
  | some w => exact closed_cyc hn hA ⟨h1, h2, h3, by rw [owk_sub hsub h3 e]; simp⟩
/-- Fewer arcs: no greater mean. -/
theorem sub_le (h : hasCyc A' n = true) : (bestR A' n).1 * (bestR A n).2 ≤ (bestR A n).1 * (bestR A' n).2 := by
  obtain ⟨⟨b1, b2, b3, -⟩, -⟩ := bestR_best hn hA (sub_cyc hn hA hsub h)
  obtain ⟨⟨c1, c2, -, v, s, w, c4, c5, c6, c7, c8, c9⟩, -⟩ := bestR_best hn (sub_sm hA hsub) h
  exact cross_le (show (0 : Int) < s by omega) (b3 v s w c6 c7 (owk_sub hsub c7 c8)) c9 (by omega) (by omega)
/-- A cycle of the greatest mean that is left keeps the greatest mean. -/
theorem sub_same {v : Nat → Nat} {s : Nat} {w : Int} (h1 : 1 ≤ s) (h2 : v s = v 0) (h3 : ∀ u, u ≤ s → v u < n) (h4 : owk (fun i j => o (A i j)) v s = some w) (h5 : (bestR A n).2 * w = s * (bestR A n).1)
    (hk : ∀ u, u < s → A' (v (u + 1)) (v u) = A (v (u + 1)) (v u)) : hasCyc A' n = true ∧ bestR A' n = bestR A n := by
  have h4' := h4
  rw [← owk_keep hk] at h4'
  have hc : hasCyc A' n = true := closed_cyc hn (sub_sm hA hsub) ⟨h1, h2, h3, by rw [h4']; simp⟩
  refine ⟨hc, ?_⟩
  have hle := sub_le hn hA hsub hc
  obtain ⟨⟨b1, b2, b3, -⟩, -⟩ := bestR_best hn hA (sub_cyc hn hA hsub hc)
  obtain ⟨⟨c1, c2, c3, -⟩, -⟩ := bestR_best hn (sub_sm hA hsub) hc
  have hge := cross_le (show (0 : Int) < s by omega) (c3 v s w h2 h3 h4') h5 (by omega) (by omega)
  obtain ⟨e1, e2⟩ := lowest_eq c1 b1 c2 b2 (by omega)
  exact Prod.ext e1 e2
/-- All cycles are left. -/
theorem sub_all (hall : ∀ v s, Closed A n v s → ∀ u, u < s → A' (v (u + 1)) (v u) = A (v (u + 1)) (v u)) : hasCyc A' n = hasCyc A n ∧ (hasCyc A n = true → bestR A' n = bestR A n) := by
  cases hc : hasCyc A n with
  | false =>
    refine ⟨?_, fun h => by cases h⟩
    cases h : hasCyc A' n with
    | false => rfl
    | true => rw [sub_cyc hn hA hsub h] at hc; cases hc
  | true =>
    obtain ⟨⟨b1, b2, b3, v, s, w, c4, c5, c6, c7, c8, c9⟩, -⟩ := bestR_best hn hA hc
    obtain ⟨e1, e2⟩ := sub_same hn hA hsub c4 c6 c7 c8 c9 (hall v s ⟨c4, c6, c7, by rw [c8]; simp⟩)
    exact ⟨e1, fun _ => e2⟩
end
end M
end Go.Proofs.Ytmobcobdpemlnaa

namespace Go.Proofs.Ytmobcobdpemlnaa
namespace M
variable {A : Nat → Nat → Int} {n : Nat}
def relB (A : Nat → Nat → Int) (n v w : Nat) : Bool := rchB A n v w && rchB A n w v
theorem relB_t {v w : Nat} : relB A n v w = true ↔ Rch A n v w ∧ Rch A n w v := by
  unfold relB
  rw [Bool.and_eq_true, rchB_t, rchB_t]
theorem relB_self {v : Nat} (h : v < n) : relB A n v v = true := relB_t.2 ⟨rch_self h, rch_self h⟩
theorem relB_symm (v w : Nat) : relB A n v w = relB A n w v := by unfold relB; rw [Bool.and_comm]
theorem relB_eq {v w : Nat} (h : relB A n v w = true) (u : Nat) : relB A n v u = relB A n w u := by
  obtain ⟨h1, h2⟩ := relB_t.1 h
  rw [Bool.eq_iff_iff, relB_t, relB_t]
  exact ⟨fun ⟨k1, k2⟩ => ⟨rch_trans h2 k1, rch_trans k2 h1⟩, fun ⟨k1, k2⟩ => ⟨rch_trans h1 k1, rch_trans k2 h2⟩⟩
/-- The component of v among the first k nodes. -/
def compP (A : Nat → Nat → Int) (n v k : Nat) : List Int := ((List.range k).filter (relB A n v)).map fun i : Nat => (i : Int)
def compL (A : Nat → Nat → Int) (n v : Nat) : List Int := compP A n v n
theorem compP_next (A : Nat → Nat → Int) (n v k : Nat) : compP A n v (k + 1) = compP A n v k ++ (if relB A n v k then [(k : Int)] else []) := by
  unfold compP
  rw [List.range_succ, List.filter_append, List.map_append]
  congr 1
  cases h : relB A n v k <;> simp [h]
theorem compP_len (A : Nat → Nat → Int) (n v k : Nat) : (compP A n v k).length ≤ k := by
  unfold compP
  rw [List.length_map]
  have := List.length_filter_le (relB A n v) (List.range k)
  rw [List.length_range] at this
  exact this
theorem mem_compP {v k : Nat} {x : Int} : x ∈ compP A n v k ↔ ∃ w : Nat, w < k ∧ relB A n v w = true ∧ x = w := by
  unfold compP
  simp only [List.mem_map, List.mem_filter, List.mem_range]
  exact ⟨fun ⟨w, ⟨h1, h2⟩, h3⟩ => ⟨w, h1, h2, h3.symm⟩, fun ⟨w, h1, h2, h3⟩ => ⟨w, ⟨h1, h2⟩, h3.symm⟩⟩
theorem compL_eq {v w : Nat} (h : relB A n v w = true) : compL A n v = compL A n w := by
  unfold compL compP
  congr 1
  exact List.filter_congr fun u _ => relB_eq h u
theorem compL_pos {v : Nat} (h : v < n) : 1 ≤ (compL A n v).length := List.length_pos_of_mem (mem_compP.2 ⟨v, h, relB_self h, rfl⟩)
theorem compL_at {v k : Nat} (h : k < (compL A n v).length) : ∃ w : Nat, w < n ∧ relB A n v w = true ∧ (compL A n v).getD k 0 = w := by
  have hm : (compL A n v).getD k 0 ∈ compL A n v := by
    rw [List.getD_eq_getElem?_getD, List.getElem?_eq_getElem h]; exact List.getElem_mem h
  exact mem_compP.1 hm
/-- The first node of the component. -/
def repN (A : Nat → Nat → Int) (n v : Nat) : Nat := ((compL A n v).getD 0 0).toNat
theorem rep_t {v : Nat} (h : v < n) : repN A n v < n ∧ relB A n v (repN A n v) = true ∧ (compL A n v).getD 0 0 = (repN A n v : Int) := by
  obtain ⟨w, h1, h2, h3⟩ := compL_at (A := A) (k := 0) (compL_pos h)
  unfold repN
  rw [h3]
  exact ⟨h1, h2, rfl⟩
theorem rep_eq {v w : Nat} (h : relB A n v w = true) : repN A n v = repN A n w := by unfold repN; rw [compL_eq h]
def compsP (A : Nat → Nat → Int) (n m : Nat) : List (List Int) := (List.range m).flatMap fun v => if repN A n v = v then [compL A n v] else []
def compsL (A : Nat → Nat → Int) (n : Nat) : List (List Int) := compsP A n n
theorem compsP_next (A : Nat → Nat → Int) (n m : Nat) : compsP A n (m + 1) = compsP A n m ++ (if repN A n m = m then [compL A n m] else []) := by
  unfold compsP
  rw [List.range_succ, List.flatMap_append]
  simp
theorem compsP_len (A : Nat → Nat → Int) (n m : Nat) : (compsP A n m).length ≤ m := by
  induction m with
  | zero => exact Nat.le_refl _
  | succ m ih => rw [compsP_next, List.length_append]; split <;> simp <;> omega
theorem mem_compsP {m : Nat} {l : List Int} : l ∈ compsP A n m ↔ ∃ v, v < m ∧ repN A n v = v ∧ l = compL A n v := by
  unfold compsP
  simp only [List.mem_flatMap, List.mem_range]
  constructor
  · rintro ⟨v, hv, h⟩
    split at h
    · next e => exact ⟨v, hv, e, by simpa using h⟩
    · simp at h
  · rintro ⟨v, hv, e, h⟩
    exact ⟨v, hv, by rw [if_pos e]; simp [h]⟩
def sumLen (L : List (List Int)) : Nat := L.foldr (fun l s => l.length + s) 0
theorem sumLen_app (L K : List (List Int)) : sumLen (L ++ K) = sumLen L + sumLen K := by
  induction L with
  | nil => simp [sumLen]
  | cons l L ih =>
    show l.length + sumLen (L ++ K) = l.length + sumLen L + sumLen K
    rw [ih]; omega
/-- How many of the first k nodes pass a test. -/
def cnt (p : Nat → Bool) (k : Nat) : Nat := ((List.range k).filter p).length
theorem cnt_next (p : Nat → Bool) (k : Nat) : cnt p (k + 1) = cnt p k + (if p k then 1 else 0) := by
  unfold cnt
  rw [List.range_succ, List.filter_append, List.length_append]
  cases h : p k <;> simp [h]
theorem cnt_congr {p q : Nat → Bool} {k : Nat} (h : ∀ i, i < k → p i = q i) : cnt p k = cnt q k := by
  unfold cnt
  rw [List.filter_congr fun i hi => h i (List.mem_range.1 hi)]
theorem cnt_or {p q r : Nat → Bool} {k : Nat} (h : ∀ i, i < k → r i = (p i || q i)) (hd : ∀ i, i < k → p i = true → q i = false) : cnt r k = cnt p k + cnt q k := by
  induction k with
  | zero => rfl
  | succ k ih =>
    rw [cnt_next, cnt_next, cnt_next, ih (fun i hi => h i (by omega)) (fun i hi => hd i (by omega)), h k (by omega)]
    have := hd k (by omega)
    cases e1 : p k <;> cases e2 : q k <;> simp_all <;> omega
theorem cnt_all (k : Nat) : cnt (fun _ => true) k = k := by
  unfold cnt
  rw [List.filter_eq_self.2 fun _ _ => rfl, List.length_range]
theorem cnt_none {p : Nat → Bool} {k : Nat} (h : ∀ i, i < k → p i = false) : cnt p k = 0 := by
  unfold cnt
  rw [List.filter_eq_nil_iff.2 fun i hi => by rw [h i (List.mem_range.1 hi)]; exact Bool.false_ne_true]
  rfl
theorem sum_comps (m : Nat) (hm : m ≤ n) : sumLen (compsP A n m) = cnt (fun w => decide (repN A n w < m)) n := by
  induction m with
  | zero =>
    rw [cnt_none fun i _ => decide_eq_false (Nat.not_lt_zero _)]
    rfl
  | succ m ih =>
    rw [compsP_next, sumLen_app, ih (by omega), cnt_or (p := fun w => decide (repN A n w < m)) (q := fun w => decide (repN A n w = m)) (r := fun w => decide (repN A n w < m + 1)) (fun i _ => by
      rw [Bool.eq_iff_iff, Bool.or_eq_true, decide_eq_true_eq, decide_eq_true_eq, decide_eq_true_eq]; omega) (fun i _ h => by rw [decide_eq_true_eq] at h; rw [decide_eq_false_iff_not]; omega)]
    congr 1
    by_cases e : repN A n m = m
    · rw [if_pos e]
      show (compL A n m).length + 0 = _
      unfold compL compP
      rw [List.length_map]
      show cnt (relB A n m) n + 0 = _
      rw [Nat.add_zero]
      refine cnt_congr fun w hw => ?_
      rw [Bool.eq_iff_iff, decide_eq_true_eq]
      constructor
      · intro h; rw [← rep_eq h, e]
      · intro h
        have := (rep_t (A := A) hw).2.1
        rw [h, relB_symm] at this; exact this
    · rw [if_neg e]
      refine (cnt_none fun w hw => ?_).symm
      rw [decide_eq_false_iff_not]
      intro h
      apply e
      have := (rep_t (A := A) hw).2.1
      rw [h] at this
      rw [← rep_eq this, h]
/-- The components divide the nodes. -/
theorem sum_compsL : sumLen (compsL A n) = n := by
  unfold compsL
  rw [sum_comps n (Nat.le_refl _), cnt_congr (q := fun _ => true) fun w hw => by simpa using (rep_t (A := A) hw).1, cnt_all]
theorem compsL_first (h : 1 ≤ n) : ∃ L, compsL A n = compL A n 0 :: L ∧ ∀ l, l ∈ L → 1 ≤ l.length := by
  obtain ⟨m, rfl⟩ : ∃ m, n = m + 1 := ⟨n - 1, by omega⟩
  have h0 : repN A (m + 1) 0 = 0 := by
    have hm : (0 : Int) ∈ compL A (m + 1) 0 := mem_compP.2 ⟨0, by omega, relB_self (by omega), rfl⟩
    unfold repN compL compP
    rw [List.range_succ_eq_map, List.filter_cons, if_pos (relB_self (by omega))]
    rfl
  have e : compsL A (m + 1) = compL A (m + 1) 0 :: (List.map Nat.succ (List.range m)).flatMap fun v => if repN A (m + 1) v = v then [compL A (m + 1) v] else [] := by
    unfold compsL compsP
    rw [List.range_succ_eq_map, List.flatMap_cons, if_pos h0]
    rfl
  refine ⟨_, e, fun l hl => ?_⟩
  have : l ∈ compsP A (m + 1) (m + 1) := by
    show l ∈ compsL A (m + 1)
    rw [e]; exact List.mem_cons_of_mem _ hl
  obtain ⟨v, hv, -, rfl⟩ := mem_compsP.1 this
  exact compL_pos hv
/-- One component alone: the first one holds all nodes. -/
theorem irr_eq (h : 1 ≤ n) : decide ((compL A n 0).length = n) = decide ((compsL A n).length = 1) := by
  obtain ⟨L, e, hL⟩ := compsL_first (A := A) h
  have hs := sum_compsL (A := A) (n := n)
  rw [e] at hs ⊢
  have hs : (compL A n 0).length + sumLen L = n := hs
  rw [Bool.eq_iff_iff, decide_eq_true_eq, decide_eq_true_eq]
  cases L with
  | nil =>
    have : sumLen ([] : List (List Int)) = 0 := rfl
    constructor
    · intro _; rfl
    · intro _; omega
  | cons l L =>
    have hl := hL l List.mem_cons_self
    have : sumLen (l :: L) = l.length + sumLen L := rfl
    constructor
    · intro h; omega
    · intro h; simp at h
end M
end Go.Proofs.Ytmobcobdpemlnaa

namespace Go.Proofs.Ytmobcobdpemlnaa
namespace M
variable {A : Nat → Nat → Int} {n : Nat}
def upd (S : Nat → Bool) (v i : Nat) : Bool := decide (i = v) || S i
/-- What a visit of v makes of the found nodes. -/
def Dfs (A : Nat → Nat → Int) (n v : Nat) (S S' : Nat → Bool) : Prop :=
  (∀ i, S i = true → S' i = true) ∧ S' v = true ∧ (∀ i, S' i = true → S i = true ∨ Rch A n v i) ∧ ∀ j i, j < n → S' j = true → S j = false → i < n → A i j ≠ -1000000000000000 → S' i = true
/-- .. and what it has made of them when k arcs have been looked at. -/
def Part (A : Nat → Nat → Int) (n v : Nat) (S : Nat → Bool) (k : Nat) (S' : Nat → Bool) : Prop :=
  (∀ i, S i = true → S' i = true) ∧ S' v = true ∧ (∀ i, S' i = true → S i = true ∨ Rch A n v i) ∧ (∀ j i, j < n → j ≠ v → S' j = true → S j = false → i < n → A i j ≠ -1000000000000000 → S' i = true) ∧ ∀ i, i < k → A i v ≠ -1000000000000000 → S' i = true
theorem dfs_start {v : Nat} {S : Nat → Bool} (hv : v < n) : Part A n v S 0 (upd S v) := by
  refine ⟨fun i h => by unfold upd; rw [h, Bool.or_true], by unfold upd; simp, fun i h => ?_, fun j i _ hne h hn => ?_, fun i h => absurd h (Nat.not_lt_zero i)⟩
  · unfold upd at h
    rw [Bool.or_eq_true, decide_eq_true_eq] at h
    rcases h with h | h
    · subst h; exact .inr (rch_self hv)
    · exact .inl h
  · unfold upd at h
    rw [hn, Bool.or_false, decide_eq_true_eq] at h
    exact absurd h hne
theorem dfs_skip {v k : Nat} {S S' : Nat → Bool} (h : Part A n v S k S') (hk : A k v = -1000000000000000 ∨ S' k = true) : Part A n v S (k + 1) S' := by
  obtain ⟨h1, h2, h3, h4, h5⟩ := h
  refine ⟨h1, h2, h3, h4, fun i hi ha => ?_⟩
  by_cases e : i = k
  · subst e
    rcases hk with hk | hk
    · exact absurd hk ha
    · exact hk
  · exact h5 i (by omega) ha
theorem dfs_call {v k : Nat} {S S' S'' : Nat → Bool} (hv : v < n) (hk : k < n) (ha : A k v ≠ -1000000000000000) (h : Part A n v S k S') (hd : Dfs A n k S' S'') : Part A n v S (k + 1) S'' := by
  obtain ⟨h1, h2, h3, h4, h5⟩ := h
  obtain ⟨d1, d2, d3, d4⟩ := hd
  refine ⟨fun i hi => d1 i (h1 i hi), d1 v h2, fun i hi => ?_, fun j i hj hne hs hn hi ha' => ?_, fun i hi ha' => ?_⟩
  · rcases d3 i hi with q | q
    · exact h3 i q
    · exact .inr (rch_trans (rch_step (rch_self hv) hk ha) q)
  · cases e : S' j with
    | true => exact d1 i (h4 j i hj hne e hn hi ha')
    | false => exact d4 j i hj hs e hi ha'
  · by_cases e : i = k
    · subst e; exact d2
    · exact d1 i (h5 i (by omega) ha')
theorem dfs_end {v : Nat} {S S' : Nat → Bool} (h : Part A n v S n S') : Dfs A n v S S' := by
  obtain ⟨h1, h2, h3, h4, h5⟩ := h
  refine ⟨h1, h2, h3, fun j i hj hs hn hi ha => ?_⟩
  by_cases e : j = v
  · subst e; exact h5 i hi ha
  · exact h4 j i hj e hs hn hi ha
theorem dfs_mono {v k : Nat} {S S' : Nat → Bool} (h : Part A n v S k S') : ∀ i, upd S v i = true → S' i = true := fun i hi => by
  unfold upd at hi
  rw [Bool.or_eq_true, decide_eq_true_eq] at hi
  rcases hi with q | q
  · subst q; exact h.2.1
  · exact h.1 i q
theorem cnt_le {p q : Nat → Bool} {k : Nat} (h : ∀ i, i < k → p i = true → q i = true) : cnt p k ≤ cnt q k := by
  induction k with
  | zero => exact Nat.le_refl _
  | succ k ih =>
    rw [cnt_next, cnt_next]
    have := ih fun i hi => h i (by omega)
    have h1 := h k (by omega)
    cases e1 : p k <;> cases e2 : q k <;> simp_all <;> omega
theorem cnt_max (p : Nat → Bool) (k : Nat) : cnt p k ≤ k := by
  induction k with
  | zero => exact Nat.le_refl _
  | succ k ih => rw [cnt_next]; split <;> omega
theorem cnt_lt {p q : Nat → Bool} {k v : Nat} (hv : v < k) (hp : p v = false) (hq : q v = true) (h : ∀ i, i < k → p i = true → q i = true) : cnt p k < cnt q k := by
  induction k with
  | zero => omega
  | succ k ih =>
    rw [cnt_next, cnt_next]
    by_cases e : v = k
    · subst e
      have := cnt_le (p := p) (q := q) (k := v) fun i hi => h i (by omega)
      rw [hp, hq]; simp; omega
    · have := ih (by omega) fun i hi => h i (by omega)
      have h1 := h k (by omega)
      cases e1 : p k <;> cases e2 : q k <;> simp_all <;> omega
theorem cnt_upd {S : Nat → Bool} {v : Nat} (hv : v < n) (h : S v = false) : cnt (upd S v) n = cnt S n + 1 := by
  have e := cnt_or (p := S) (q := fun i => decide (i = v)) (r := upd S v) (k := n) (fun i _ => by unfold upd; rw [Bool.or_comm]) (fun i _ hi => by
    rw [decide_eq_false_iff_not]; intro e; subst e; rw [h] at hi; cases hi)
  rw [e]
  congr 1
  clear e h
  induction n with
  | zero => omega
  | succ n ih =>
    rw [cnt_next]
    by_cases e : n = v
    · subst e
      rw [cnt_none fun i hi => decide_eq_false (by omega)]; simp
    · rw [ih (by omega)]; simp [e]
/-- Fewer nodes are left behind a visit's start. -/
theorem cnt_left {v f : Nat} {S S' : Nat → Bool} (hv : v < n) (hs : S v = false) (hm : ∀ i, upd S v i = true → S' i = true) (h : cnt (fun i => !S i) n ≤ f + 1) : cnt (fun i => !S' i) n ≤ f := by
  have := cnt_lt (p := fun i => !S' i) (q := fun i => !S i) (k := n) hv (by
    have := hm v (by unfold upd; simp)
    simp [this]) (by simp [hs]) (fun i _ hi => by
    cases e : S i with
    | false => rfl
    | true =>
      have := hm i (by unfold upd; rw [e, Bool.or_true])
      simp [this] at hi)
  omega
theorem dfs_all {v : Nat} {S' : Nat → Bool} (hv : v < n) (h : Dfs A n v (fun _ => false) S') (i : Nat) : S' i = rchB A n v i := by
  obtain ⟨-, h2, h3, h4⟩ := h
  exact rch_set hv h2 (fun i hi => by
    rcases h3 i hi with q | q
    · cases q
    · exact q) (fun k i hk hs hi ha => h4 k i hk hs rfl hi ha) i
end M
end Go.Proofs.Ytmobcobdpemlnaa

namespace Go.Proofs.Ytmobcobdpemlnaa
namespace M
def upF (A : Nat → Nat → Int) (n v i j : Nat) : Int := if rchB A n i v then A i j else -1000000000000000
def upF2 (A : Nat → Nat → Int) (n v i j : Nat) : Int := if rchB A n i v && rchB A n j v then A i j else -1000000000000000
def upK (A : Nat → Nat → Int) (n v k i j : Nat) : Int := if i < k then upF A n v i j else A i j
def upRes (R : List (List Int)) (x : Int) : (Int × Int) × Int := if sqB R then (if inN R.length x then cycMeanRes (mk R.length R.length (upF (ent R) R.length x.toNat)) else ((0, 0), 2)) else ((0, 0), 1)
theorem inN_j {n : Nat} {x : Int} (h : inN n x = true) : ∃ k : Nat, k < n ∧ x = k := by
  unfold inN at h
  rw [Bool.and_eq_true, decide_eq_true_eq, decide_eq_true_eq] at h
  exact ⟨x.toNat, by omega, by omega⟩
theorem sq_mk {n : Nat} {F : Nat → Nat → Int} (n1 : 1 ≤ n) (n2 : n ≤ 10) (hF : ∀ i j, i < n → j < n → isVal (F i j) = true) : sqB (mk n n F) = true := by
  unfold sqB
  rw [isMat_mk n1 n2 n1 n2 fun i hi j hj => hF i j hi hj, mk_wid n n F (by omega), mk_length]
  simp
/-- Without arcs that lie on no cycle the cycle mean is the same. -/
theorem cyc_mk {n : Nat} {F G : Nat → Nat → Int} (n1 : 1 ≤ n) (n2 : n ≤ 10) (hF : ∀ i j, i < n → j < n → isVal (F i j) = true) (hG : ∀ i j, i < n → j < n → G i j = F i j ∨ G i j = -1000000000000000)
    (hall : ∀ v s, Closed (ent (mk n n F)) n v s → ∀ u, u < s → G (v (u + 1)) (v u) = F (v (u + 1)) (v u)) : cycMeanRes (mk n n G) = cycMeanRes (mk n n F) := by
  have hG' : ∀ i j, i < n → j < n → isVal (G i j) = true := fun i j hi hj => by
    rcases hG i j hi hj with e | e
    · rw [e]; exact hF i j hi hj
    · rw [e]; simp [isVal]
  have hA : ∀ i j, i < n → j < n → Sm 1000000 (ent (mk n n F) i j) := fun i j hi hj => by rw [ent_mk _ _ _ _ _ hi hj]; exact sm_val (hF i j hi hj)
  obtain ⟨e1, e2⟩ := sub_all (A := ent (mk n n F)) (A' := ent (mk n n G)) n2 hA (fun i j hi hj => by rw [ent_mk _ _ _ _ _ hi hj, ent_mk _ _ _ _ _ hi hj]; exact hG i j hi hj) (fun v s hc u hu => by
    have h1 := hc.2.2.1 (u + 1) (by omega)
    have h2 := hc.2.2.1 u (by omega)
    rw [ent_mk _ _ _ _ _ h1 h2, ent_mk _ _ _ _ _ h1 h2]
    exact hall v s hc u hu)
  unfold cycMeanRes
  rw [sq_mk n1 n2 hG', sq_mk n1 n2 hF, mk_length, mk_length, e1]
  cases hc : hasCyc (ent (mk n n F)) n with
  | false => simp only [Bool.false_eq_true, if_false]
  | true => rw [e2 hc]
theorem up_val {R : List (List Int)} (hs : sqB R = true) (v : Nat) : ∀ i j, i < R.length → j < R.length → isVal (upF (ent R) R.length v i j) = true := fun i j hi hj => by
  obtain ⟨h1, h2⟩ := sqB_t hs
  unfold upF
  split
  · exact (isMat_t h1).2.2.2.2.2 i hi j (by rw [← h2]; exact hj)
  · simp [isVal]
theorem up_both {R : List (List Int)} (hs : sqB R = true) (v : Nat) : cycMeanRes (mk R.length R.length (upF2 (ent R) R.length v)) = cycMeanRes (mk R.length R.length (upF (ent R) R.length v)) := by
  obtain ⟨n1, n2, hA⟩ := sq_sm hs
  refine cyc_mk n1 n2 (up_val hs v) (fun i j hi hj => ?_) (fun x s hc u hu => ?_)
  · unfold upF2 upF
    cases rchB (ent R) R.length i v <;> cases rchB (ent R) R.length j v <;> simp
  · obtain ⟨c1, c2, c3, c4⟩ := hc
    have ha := owk_arc c4
    have hr : ∀ t, t < s → rchB (ent R) R.length (x (t + 1)) v = true := fun t ht => by
      have := ha t ht
      rw [ent_mk _ _ _ _ _ (c3 _ (by omega)) (c3 _ (by omega))] at this
      cases e : rchB (ent R) R.length (x (t + 1)) v with
      | true => rfl
      | false => unfold upF at this; rw [e, if_neg Bool.false_ne_true] at this; exact absurd (Eq.refl _) this
    have h1 := hr u hu
    have h2 : rchB (ent R) R.length (x u) v = true := by
      by_cases e : u = 0
      · have := hr (s - 1) (by omega)
        rw [show s - 1 + 1 = s by omega, c2] at this
        rw [e]; exact this
      · have := hr (u - 1) (by omega)
        rw [show u - 1 + 1 = u by omega] at this
        exact this
    unfold upF2 upF
    rw [h1, h2]; rfl
theorem mk_setrow {m n : Nat} (f : Nat → Nat → Int) (g : Nat → Int) (k : Nat) : (mk m n f).set k ((List.range n).map g) = mk m n fun i j => if i = k then g j else f i j := by
  unfold mk
  apply List.ext_getElem
  · simp
  · intro i h1 h2
    rw [List.getElem_set]
    simp only [List.getElem_map, List.getElem_range]
    by_cases e : k = i
    · rw [if_pos e]; subst e; simp
    · rw [if_neg e]
      have : ¬ i = k := fun h => e h.symm
      simp [this]
theorem upK_cut {A : Nat → Nat → Int} {n v k : Nat} (h : rchB A n k v = false) : (mk n n (upK A n v k)).set k ((List.range n).map fun _ => -1000000000000000) = mk n n (upK A n v (k + 1)) := by
  rw [mk_setrow]
  refine mk_congr fun i _ j _ => ?_
  unfold upK
  by_cases e : i = k
  · subst e
    rw [if_pos rfl, if_pos (by omega)]; unfold upF; rw [h]; rfl
  · rw [if_neg e]
    by_cases e2 : i < k
    · rw [if_pos e2, if_pos (by omega)]
    · rw [if_neg e2, if_neg (by omega)]
theorem upK_same {A : Nat → Nat → Int} {n v k : Nat} (h : rchB A n k v = true) : mk n n (upK A n v k) = mk n n (upK A n v (k + 1)) := by
  refine mk_congr fun i _ j _ => ?_
  unfold upK
  by_cases e : i = k
  · subst e
    rw [if_neg (by omega), if_pos (by omega)]; unfold upF; rw [h]; rfl
  · by_cases e2 : i < k
    · rw [if_pos e2, if_pos (by omega)]
    · rw [if_neg e2, if_neg (by omega)]
end M
end Go.Proofs.Ytmobcobdpemlnaa

namespace Go.Proofs.Ytmobcobdpemlnaa
namespace M
def imgB (R : List (List Int)) (a b : Int) (x : List Int) : Bool := sqB R && isRat a b && isVec x && decide (x.length = R.length) && x.any fun v => decide (v ≠ -1000000000000000)
def imgL (R : List (List Int)) (a b : Int) (x : List Int) : List Int := applyM (shM R a b) x
def atMostB (y x : List Int) : Bool := (List.range y.length).all fun i => decide (y.getD i 0 ≤ x.getD i 0)
def eigB (R : List (List Int)) (a b : Int) (x : List Int) : Bool := imgB R a b x && decide (imgL R a b x = x)
def subB (R : List (List Int)) (a b : Int) (x : List Int) : Bool := imgB R a b x && atMostB (imgL R a b x) x
def eigY (R : List (List Int)) (b : Int) (x : List Int) (i : Nat) : Int := sumN R.length fun j => times (shf (ent R) 0 b i j) (x.getD j 0)
def eigZ (a : Int) (x : List Int) (i : Nat) : Int := times a (x.getD i 0)
/-- What the model's comparison has found after i nodes. -/
def cmpUp (R : List (List Int)) (a b : Int) (x : List Int) (i : Nat) : Bool := (List.range i).any fun k => decide (eigZ a x k < eigY R b x k)
def cmpLo (R : List (List Int)) (a b : Int) (x : List Int) (i : Nat) : Bool := (List.range i).any fun k => decide (eigY R b x k < eigZ a x k)
def cmpSome (x : List Int) (i : Nat) : Bool := (List.range i).any fun k => decide (x.getD k 0 ≠ -1000000000000000)
def cmpOk (R : List (List Int)) (a b : Int) (x : List Int) : Bool := sqB R && isRat a b && isVec x && decide (x.length = R.length)
def cmpE (R : List (List Int)) (a b : Int) (x : List Int) : Int :=
  if cmpOk R a b x then (if cmpUp R a b x x.length then 1 else if cmpSome x x.length then (if cmpLo R a b x x.length then -1 else 0) else 1) else 1
theorem any_next (i : Nat) (p : Nat → Bool) : (List.range (i + 1)).any p = ((List.range i).any p || p i) := by
  rw [List.range_succ, List.any_append]; simp
theorem sum_move {k : Nat} {f g : Nat → Int} {a : Int} (h : ∀ j, j < k → (f j = -1000000000000000 ∧ g j = -1000000000000000) ∨ (f j = g j + a ∧ -10000000000000 ≤ g j ∧ g j ≤ 10000000000000)) (ha : -1000000 ≤ a) (hb : a ≤ 1000000) :
    (sumN k f = -1000000000000000 ∧ sumN k g = -1000000000000000) ∨ (sumN k f = sumN k g + a ∧ -10000000000000 ≤ sumN k g ∧ sumN k g ≤ 10000000000000) := by
  induction k with
  | zero => exact .inl ⟨rfl, rfl⟩
  | succ k ih =>
    have ih := ih fun j hj => h j (by omega)
    have hk := h k (by omega)
    show (max (sumN k f) (f k) = _ ∧ max (sumN k g) (g k) = _) ∨ (max (sumN k f) (f k) = max (sumN k g) (g k) + a ∧ _ ≤ max (sumN k g) (g k) ∧ max (sumN k g) (g k) ≤ _)
    omega
section
variable {R : List (List Int)} {a b : Int} {x : List Int}
theorem cmpOk_t (h : cmpOk R a b x = true) : sqB R = true ∧ isRat a b = true ∧ isVec x = true ∧ x.length = R.length := by
  unfold cmpOk at h
  rw [Bool.and_eq_true, Bool.and_eq_true, Bool.and_eq_true, decide_eq_true_eq] at h
  exact ⟨h.1.1.1, h.1.1.2, h.1.2, h.2⟩
theorem imgB_cmp : imgB R a b x = (cmpOk R a b x && x.any fun v => decide (v ≠ -1000000000000000)) := rfl
theorem imgL_at (h : cmpOk R a b x = true) {i : Nat} (hi : i < R.length) : (imgL R a b x).getD i 0 = sumN R.length fun j => times (shf (ent R) a b i j) (x.getD j 0) := by
  obtain ⟨h1, h2, h3, h4⟩ := cmpOk_t h
  unfold imgL applyM
  rw [List.getD_eq_getElem?_getD, List.getElem?_map, sh_len, List.getElem?_range hi]
  show dotV _ _ i _ = _
  unfold dotV
  rw [h4]
  refine sumN_congr fun j hj => ?_
  rw [sh_ent R a b hi hj]
theorem imgL_len : (imgL R a b x).length = R.length := by unfold imgL applyM; rw [List.length_map, List.length_range, sh_len]
theorem cmp_at (h : cmpOk R a b x = true) {i : Nat} (hi : i < R.length) : (eigZ a x i < eigY R b x i ↔ x.getD i 0 < (imgL R a b x).getD i 0) ∧ (eigY R b x i < eigZ a x i ↔ (imgL R a b x).getD i 0 < x.getD i 0) := by
  rw [imgL_at h hi]
  obtain ⟨h1, h2, h3, h4⟩ := cmpOk_t h
  obtain ⟨n1, n2, hA⟩ := sq_sm h1
  obtain ⟨r1, r2, r3, r4, -⟩ := isRat_t h2
  have hx : ∀ j, j < R.length → x.getD j 0 = -1000000000000000 ∨ (-1000000 ≤ x.getD j 0 ∧ x.getD j 0 ≤ 1000000) := fun j hj => isVal_t ((isVec_t h3).2.2 j (by omega))
  have hn := near_rat h2
  have hn0 : Near 0 b := by unfold Near; omega
  have hm := sum_move (k := R.length) (f := fun j => times (shf (ent R) 0 b i j) (x.getD j 0)) (g := fun j => times (shf (ent R) a b i j) (x.getD j 0)) (a := a) (fun j hj => by
    show (times _ _ = _ ∧ times _ _ = _) ∨ (times _ _ = times _ _ + a ∧ _ ≤ times _ _ ∧ times _ _ ≤ _)
    by_cases e : ent R i j = -1000000000000000
    · left
      unfold shf times
      rw [if_pos e, if_pos e, if_pos (.inl rfl)]
      exact ⟨rfl, rfl⟩
    · rcases hx j hj with q | q
      · left
        unfold times
        rw [if_pos (.inr q), if_pos (.inr q)]
        exact ⟨rfl, rfl⟩
      · right
        obtain ⟨f1, f2, f3⟩ := shf_fin hn (hA i j hi hj) e
        obtain ⟨g1, g2, g3⟩ := shf_fin hn0 (hA i j hi hj) e
        unfold times
        rw [f1, g1, if_neg (by omega), if_neg (by omega)]
        omega) r1 r2
  have hxi := hx i hi
  unfold eigZ
  show (times a (x.getD i 0) < sumN R.length (fun j => times (shf (ent R) 0 b i j) (x.getD j 0)) ↔ _) ∧ (sumN R.length (fun j => times (shf (ent R) 0 b i j) (x.getD j 0)) < _ ↔ _)
  generalize sumN R.length (fun j => times (shf (ent R) 0 b i j) (x.getD j 0)) = s at *
  generalize sumN R.length (fun j => times (shf (ent R) a b i j) (x.getD j 0)) = t at *
  generalize x.getD i 0 = y at *
  unfold times
  by_cases e : y = -1000000000000000
  · rw [if_pos (.inr e)]; omega
  · rw [if_neg (by omega)]; omega
theorem some_eq : cmpSome x x.length = x.any fun v => decide (v ≠ -1000000000000000) := by
  unfold cmpSome
  rw [Bool.eq_iff_iff, List.any_eq_true, List.any_eq_true]
  constructor
  · rintro ⟨k, hk, h⟩
    have hk := List.mem_range.1 hk
    refine ⟨x[k], List.getElem_mem hk, ?_⟩
    simpa [hk] using h
  · rintro ⟨v, hv, h⟩
    obtain ⟨k, hk, rfl⟩ := List.mem_iff_getElem.1 hv
    exact ⟨k, List.mem_range.2 hk, by simpa [hk] using h⟩
theorem atMost_eq (h : cmpOk R a b x = true) : atMostB (imgL R a b x) x = !cmpUp R a b x x.length := by
  obtain ⟨-, -, -, h4⟩ := cmpOk_t h
  rw [Bool.eq_iff_iff, Bool.not_eq_true']
  unfold atMostB cmpUp
  rw [List.all_eq_true, List.any_eq_false, imgL_len]
  constructor
  · intro hh k hk
    have hk := List.mem_range.1 hk
    have := hh k (List.mem_range.2 (by omega))
    rw [decide_eq_true_eq] at this ⊢
    rw [(cmp_at h (i := k) (by omega)).1]; omega
  · intro hh k hk
    have hk := List.mem_range.1 hk
    have := hh k (List.mem_range.2 (by omega))
    rw [decide_eq_true_eq] at this ⊢
    rw [(cmp_at h (i := k) (by omega)).1] at this; omega
theorem same_eq (h : cmpOk R a b x = true) : decide (imgL R a b x = x) = (!cmpUp R a b x x.length && !cmpLo R a b x x.length) := by
  rw [← atMost_eq h]
  obtain ⟨-, -, -, h4⟩ := cmpOk_t h
  have hl := imgL_len (R := R) (a := a) (b := b) (x := x)
  rw [Bool.eq_iff_iff, Bool.and_eq_true, decide_eq_true_eq, Bool.not_eq_true']
  unfold cmpLo
  rw [List.any_eq_false]
  constructor
  · intro e
    refine ⟨?_, fun k hk => ?_⟩
    · unfold atMostB
      rw [List.all_eq_true]
      intro k hk
      rw [e]; simp
    · have hk := List.mem_range.1 hk
      rw [decide_eq_true_eq, (cmp_at h (i := k) (by omega)).2, e]; omega
  · rintro ⟨h1, h2⟩
    unfold atMostB at h1
    rw [List.all_eq_true, hl] at h1
    apply List.ext_getElem (by omega)
    intro k k1 k2
    have e1 := h1 k (List.mem_range.2 (by omega))
    have e2 := h2 k (List.mem_range.2 (by omega))
    rw [decide_eq_true_eq] at e1 e2
    rw [(cmp_at h (i := k) (by omega)).2] at e2
    have p1 : (imgL R a b x).getD k 0 = (imgL R a b x)[k] := by simp [k1]
    have p2 : x.getD k 0 = x[k] := by simp [k2]
    omega
theorem eig_cmp : eigB R a b x = decide (cmpE R a b x = 0) := by
  unfold eigB cmpE
  rw [imgB_cmp]
  by_cases h : cmpOk R a b x = true
  · rw [if_pos h, h, ← some_eq, same_eq h]
    cases cmpUp R a b x x.length <;> cases cmpSome x x.length <;> cases cmpLo R a b x x.length <;> rfl
  · rw [if_neg h]
    simp only [Bool.not_eq_true] at h
    rw [h]; rfl
theorem sub_cmp : subB R a b x = decide (cmpE R a b x ≤ 0) := by
  unfold subB cmpE
  rw [imgB_cmp]
  by_cases h : cmpOk R a b x = true
  · rw [if_pos h, h, ← some_eq, atMost_eq h]
    cases cmpUp R a b x x.length <;> cases cmpSome x x.length <;> cases cmpLo R a b x x.length <;> rfl
  · rw [if_neg h]
    simp only [Bool.not_eq_true] at h
    rw [h]; rfl
/-- A potential is a vector without Bottom that the image does not exceed. -/
theorem pot_img : isPotB R a b x = (imgB R a b x && (!(x.any fun v => decide (v = -1000000000000000)) && atMostB (imgL R a b x) x)) := by
  unfold isPotB holdsB
  rw [imgB_cmp]
  cases h1 : sqB R with
  | false => simp [cmpOk, h1]
  | true =>
    cases h2 : isRat a b with
    | false => simp [cmpOk, h1, h2]
    | true =>
      obtain ⟨n1, n2, -⟩ := sq_sm h1
      by_cases h4 : x.length = R.length
      · rw [decide_eq_true h4]
        have hl := imgL_len (R := R) (a := a) (b := b) (x := x)
        cases h3 : x.all isFin with
        | true =>
          have hf := List.all_eq_true.1 h3
          have hv : isVec x = true := by
            rw [isVec_all (by omega) (by omega)]
            exact List.all_eq_true.2 fun v hv => by unfold isVal; rw [hf v hv, Bool.or_true]
          have hok : cmpOk R a b x = true := by unfold cmpOk; rw [h1, h2, hv, decide_eq_true h4]; rfl
          have hne : ∀ v, v ∈ x → v ≠ -1000000000000000 := fun v hv e => by
            have := hf v hv
            simp [isFin] at this
            omega
          have e1 : (x.any fun v => decide (v ≠ -1000000000000000)) = true := by
            rw [List.any_eq_true]
            exact ⟨x[0]'(by omega), List.getElem_mem _, by rw [decide_eq_true_eq]; exact hne _ (List.getElem_mem _)⟩
          have e2 : (x.any fun v => decide (v = -1000000000000000)) = false := by
            rw [List.any_eq_false]
            intro v hv
            rw [decide_eq_true_eq]; exact hne v hv
          rw [hok, e1, e2]
          simp only [Bool.and_true, Bool.not_false, Bool.true_and]
          unfold atMostB
          rw [hl, Bool.eq_iff_iff, List.all_eq_true, List.all_eq_true]
          constructor
          · intro h i hi
            have hi' := List.mem_range.1 hi
            rw [imgL_at hok hi']; exact h i hi
          · intro h i hi
            have hi' := List.mem_range.1 hi
            rw [← imgL_at hok hi']; exact h i hi
        | false =>
          have : (isVec x && !(x.any fun v => decide (v = -1000000000000000))) = false := by
            cases hv : isVec x with
            | false => rfl
            | true =>
              rw [Bool.true_and, Bool.not_eq_false']
              rw [List.all_eq_false] at h3
              obtain ⟨v, hv1, hv2⟩ := h3
              rw [isVec_all (by omega) (by omega)] at hv
              have := List.all_eq_true.1 hv v hv1
              unfold isVal at this
              rw [Bool.or_eq_true, decide_eq_true_eq] at this
              rw [List.any_eq_true]
              exact ⟨v, hv1, by rw [decide_eq_true_eq]; rcases this with q | q
                                · exact q
                                · exact absurd q hv2⟩
          unfold cmpOk
          rw [h1, h2]
          cases h5 : isVec x with
          | false => simp
          | true =>
            rw [h5, Bool.true_and] at this
            rw [this]; simp
      · unfold cmpOk
        rw [decide_eq_false h4]; simp
end
end M
end Go.Proofs.Ytmobcobdpemlnaa

namespace Go.Proofs.Ytmobcobdpemlnaa
namespace M
def finL (n : Nat) (x : List Int) : Bool := decide (x.length = n) && x.all isFin
/-- Row i of the condition of a dual. -/
def rowB (R : List (List Int)) (u v : List Int) (i : Nat) : Bool := (List.range R.length).all fun j => decide (ent R i j = -1000000000000000 ∨ ent R i j ≤ u.getD i 0 + v.getD j 0)
def dualB (R : List (List Int)) (u v : List Int) : Bool := sqB R && finL R.length u && finL R.length v && (List.range R.length).all (rowB R u v)
theorem finL_t {n : Nat} {x : List Int} (h : finL n x = true) : x.length = n ∧ ∀ i, i < n → -1000000 ≤ x.getD i 0 ∧ x.getD i 0 ≤ 1000000 := by
  unfold finL at h
  rw [Bool.and_eq_true, decide_eq_true_iff] at h
  refine ⟨h.1, fun i hi => ?_⟩
  have hi2 : i < x.length := by omega
  have := List.all_eq_true.1 h.2 x[i] (List.getElem_mem hi2)
  rw [List.getD_eq_getElem?_getD, List.getElem?_eq_getElem hi2]
  exact isFin_t this
theorem finL_vec {n : Nat} {x : List Int} (n1 : 1 ≤ n) (n2 : n ≤ 10) : finL n x = (decide (x.length = n) && (isVec x && !(x.any fun v => decide (v = -1000000000000000)))) := by
  unfold finL
  by_cases h : x.length = n
  · rw [decide_eq_true h]
    simp only [Bool.true_and]
    rw [Bool.eq_iff_iff, Bool.and_eq_true, Bool.not_eq_true', ← Bool.not_eq_true, List.any_eq_true]
    constructor
    · intro h2
      have h3 : ∀ v ∈ x, isFin v = true := List.all_eq_true.1 h2
      refine ⟨isVec_of (by omega) (by omega) fun i hi => ?_, ?_⟩
      · have := h3 x[i] (List.getElem_mem hi)
        rw [List.getD_eq_getElem?_getD, List.getElem?_eq_getElem hi]
        unfold isVal
        show (_ || isFin x[i]) = true
        rw [this, Bool.or_true]
      · rintro ⟨v, hv, e⟩
        rw [decide_eq_true_iff] at e
        subst e
        exact absurd (h3 _ hv) (by decide)
    · rintro ⟨h2, h3⟩
      rw [List.all_eq_true]
      intro v hv
      obtain ⟨i, hi, rfl⟩ := List.mem_iff_getElem.1 hv
      have h4 := (isVec_t h2).2.2 i hi
      rw [List.getD_eq_getElem?_getD, List.getElem?_eq_getElem hi] at h4
      have h4 : isVal x[i] = true := h4
      unfold isVal at h4
      rw [Bool.or_eq_true, decide_eq_true_iff] at h4
      rcases h4 with h4 | h4
      · exact absurd ⟨_, hv, by rw [decide_eq_true_iff]; exact h4⟩ h3
      · exact h4
  · rw [decide_eq_false h]; rfl
/-- The program's comparison with the shifted list. -/
theorem rowB_most {R : List (List Int)} {u v : List Int} {i : Nat} (hs : sqB R = true) (hv : finL R.length v = true) (hu : finL R.length u = true) (hi : i < R.length) : atMostB (R.getD i []) (shvL v (u.getD i 0)) = rowB R u v i := by
  obtain ⟨hm, hw⟩ := sqB_t hs
  obtain ⟨v1, v2⟩ := finL_t hv
  obtain ⟨u1, u2⟩ := finL_t hu
  have hl : (R.getD i []).length = R.length := by rw [isMat_len hm hi, hw]
  unfold atMostB rowB
  rw [hl, Bool.eq_iff_iff, List.all_eq_true, List.all_eq_true]
  have key : ∀ j, j < R.length → (decide ((R.getD i []).getD j 0 ≤ (shvL v (u.getD i 0)).getD j 0) = true ↔ decide (ent R i j = -1000000000000000 ∨ ent R i j ≤ u.getD i 0 + v.getD j 0) = true) := fun j hj => by
    have e1 := isVal_t (isMat_val hm hi (j := j) (by rw [← hw]; exact hj))
    have e2 := v2 j hj
    have e3 := u2 i hi
    rw [shv_get (by omega)]
    have e4 : times (v.getD j 0) (u.getD i 0) = v.getD j 0 + u.getD i 0 := by
      unfold times; rw [if_neg]; omega
    rw [e4, decide_eq_true_iff, decide_eq_true_iff]
    unfold ent at e1 ⊢
    omega
  constructor
  · intro h j hj; exact (key j (List.mem_range.1 hj)).1 (h j hj)
  · intro h j hj; exact (key j (List.mem_range.1 hj)).2 (h j hj)
theorem dual_s {R : List (List Int)} {u v : List Int} (h : sqB R = false) : dualB R u v = false := by unfold dualB; rw [h]; rfl
theorem dual_u {R : List (List Int)} {u v : List Int} (h : finL R.length u = false) : dualB R u v = false := by unfold dualB; rw [h]; simp
theorem dual_v {R : List (List Int)} {u v : List Int} (h : finL R.length v = false) : dualB R u v = false := by unfold dualB; rw [h]; simp
theorem dual_r {R : List (List Int)} {u v : List Int} {i : Nat} (hi : i < R.length) (h : rowB R u v i = false) : dualB R u v = false := by
  cases e : dualB R u v with
  | false => rfl
  | true =>
    unfold dualB at e
    rw [Bool.and_eq_true, List.all_eq_true] at e
    rw [e.2 i (List.mem_range.2 hi)] at h; cases h
theorem dual_t {R : List (List Int)} {u v : List Int} (h1 : sqB R = true) (h2 : finL R.length u = true) (h3 : finL R.length v = true) (h : ∀ i, i < R.length → rowB R u v i = true) : dualB R u v = true := by
  unfold dualB
  rw [h1, h2, h3, Bool.true_and, Bool.true_and, Bool.true_and, List.all_eq_true]
  exact fun i hi => h i (List.mem_range.1 hi)
theorem rowB_f {R : List (List Int)} {u v : List Int} {i j : Nat} (hj : j < R.length) (h : ¬ ent R i j = -1000000000000000) (h2 : u.getD i 0 + v.getD j 0 < ent R i j) : rowB R u v i = false := by
  cases e : rowB R u v i with
  | false => rfl
  | true =>
    unfold rowB at e
    rw [List.all_eq_true] at e
    have := e j (List.mem_range.2 hj)
    rw [decide_eq_true_iff] at this
    omega
theorem rowB_t {R : List (List Int)} {u v : List Int} {i : Nat} (h : ∀ j, j < R.length → ent R i j = -1000000000000000 ∨ ent R i j ≤ u.getD i 0 + v.getD j 0) : rowB R u v i = true := by
  unfold rowB
  rw [List.all_eq_true]
  exact fun j hj => by rw [decide_eq_true_iff]; exact h j (List.mem_range.1 hj)
end M
end Go.Proofs.Ytmobcobdpemlnaa

namespace Go.Proofs.Ytmobcobdpemlnaa
namespace M
def permRes (R : List (List Int)) : Int × Int := if sqB R then chk (perm R).1 else (0, 1)
theorem permRes_t {R : List (List Int)} {x : Int} (h : permRes R = (x, 0)) : sqB R = true ∧ x = (perm R).1 := by
  unfold permRes at h
  by_cases h1 : sqB R = true
  · rw [if_pos h1] at h
    unfold chk at h
    by_cases h2 : isVal (perm R).1 = true
    · rw [if_pos h2] at h
      exact ⟨h1, (congrArg Prod.fst h).symm⟩
    · rw [if_neg h2] at h
      exact absurd (show (_ : Int) = 0 from congrArg Prod.snd h) (by decide)
  · rw [if_neg h1] at h
    exact absurd (show (_ : Int) = 0 from congrArg Prod.snd h) (by decide)
theorem sumI_z : ∀ (l : List Int), sumI l = sumY l.length fun i => l.getD i 0
  | [] => rfl
  | x :: l => by
    rw [sumI, List.length_cons, sumY_front, sumI_z l]
    simp
theorem sumSet_z {v : List Int} {N : Nat} : ∀ n, n ≤ N → sumSet v n (2 ^ N - 1) = sumY n fun i => v.getD i 0
  | 0, _ => rfl
  | n + 1, h => by
    rw [sumSet, sumSet_z n (by omega), sumY_s, Nat.testBit_two_pow_sub_one, if_pos (by simp; omega)]
/-- Each dual bounds the permanent. -/
theorem dual_bound {R : List (List Int)} {u v : List Int} (h : dualB R u v = true) : (perm R).1 ≤ sumI u + sumI v := by
  unfold dualB at h
  rw [Bool.and_eq_true, Bool.and_eq_true, Bool.and_eq_true] at h
  obtain ⟨⟨⟨hs, hu⟩, hv⟩, hr⟩ := h
  obtain ⟨u1, u2⟩ := finL_t hu
  obtain ⟨v1, v2⟩ := finL_t hv
  have hq := sq_is hs
  have h1 := T_dual (n := R.length) (v := v) R u (2 ^ R.length - 1) u1 (fun i hi j hj => by
    have h2 := List.all_eq_true.1 hr i (List.mem_range.2 hi)
    unfold rowB at h2
    have h3 := List.all_eq_true.1 h2 j (List.mem_range.2 hj)
    rw [decide_eq_true_iff] at h3
    exact h3) (fun j hj => (v2 j hj).1) (fun i hi => (u2 i hi).1) (by have := hq.1; omega) (by have := hq.1; omega) (by have := Nat.two_pow_pos R.length; omega) (pc_full _ _ (Nat.le_refl _))
  rw [← perm_T hq, sumSet_z _ (Nat.le_refl _)] at h1
  rw [sumI_z v, v1]
  exact h1
theorem dual_told {R : List (List Int)} {u v : List Int} (h : dualRes R = (u, v, 0)) : dualB R u v = true ∧ sumI u + sumI v = (perm R).1 ∧ u.length = R.length ∧ v.length = R.length := by
  unfold dualRes at h
  by_cases hs : sqB R = true
  · rw [if_pos hs] at h
    by_cases hb : (perm R).1 = -1000000000000000
    · rw [if_pos hb] at h
      exact absurd (show (_ : Int) = 0 from congrArg (fun x => x.2.2) h) (by decide)
    · rw [if_neg hb] at h
      by_cases hv : (isVec (dualU R) && isVec (dualV R R.length)) = true
      · rw [if_pos hv] at h
        rw [Bool.and_eq_true] at hv
        have e1 : dualU R = u := congrArg (fun x => x.1) h
        have e2 : dualV R R.length = v := congrArg (fun x => x.2.1) h
        rw [← e1, ← e2]
        have hq := sq_is hs
        have B := bst_of hq hb
        have hS : ∀ i j, i < R.length → j < R.length → Sm 1000001000000 (relF R (colsP R) i j) := fun i j hi hj => sm_up (B.sm i j hi hj) (by omega)
        have hul : (dualU R).length = R.length := zp_len _ _
        have hvl := dualV_len R R.length
        have hu0 : ∀ i, i < R.length → 0 ≤ (dualU R).getD i 0 ∧ (dualU R).getD i 0 ≤ 1000000 := fun i hi => by
          have h1 := (zp_sm hq.1 hS B.noP hi).2.1
          have h2 := isVal_t ((isVec_t hv.1).2.2 i (by omega))
          have h1 : 0 ≤ (dualU R).getD i 0 := h1
          omega
        have hvat := fun k hk => dualV_at B R.length (Nat.le_refl _) k hk
        have hv0 : ∀ j, j < R.length → -1000000 ≤ (dualV R R.length).getD j 0 ∧ (dualV R R.length).getD j 0 ≤ 1000000 := fun j hj => by
          obtain ⟨k, hk, rfl⟩ := col_row B hj
          have h1 := hvat k hk
          have h2 := isVal_t ((isVec_t hv.2).2.2 (colsP R k) (by omega))
          have h3 := (B.col k hk).2.2
          have h4 := hu0 k hk
          omega
        have finl : ∀ (x : List Int), x.length = R.length → (∀ i, i < R.length → -1000000 ≤ x.getD i 0 ∧ x.getD i 0 ≤ 1000000) → finL R.length x = true := fun x hx h => by
          unfold finL
          rw [decide_eq_true hx, Bool.true_and, List.all_eq_true]
          intro y hy
          obtain ⟨i, hi, rfl⟩ := List.mem_iff_getElem.1 hy
          have := h i (by omega)
          rw [List.getD_eq_getElem?_getD, List.getElem?_eq_getElem hi] at this
          have this : -1000000 ≤ x[i] ∧ x[i] ≤ 1000000 := this
          unfold isFin; simp; omega
        refine ⟨?_, ?_, hul, hvl⟩
        · refine dual_t hs (finl _ hul fun i hi => by have := hu0 i hi; omega) (finl _ hvl hv0) fun i hi => rowB_t fun j hj => ?_
          obtain ⟨k, hk, rfl⟩ := col_row B hj
          have h1 := hvat k hk
          have h2 := zp_arc hq.1 hS B.noP hi hk
          have h3 := (B.col k hk).2.2
          have h4 := hu0 k hk
          by_cases z : ent R i (colsP R k) = -1000000000000000
          · exact .inl z
          · right
            have hne : relF R (colsP R) i k ≠ -1000000000000000 := by
              unfold relF times
              rw [if_neg (by omega)]
              have := hq.2 i hi _ (B.col k hk).1
              unfold Sm at this
              omega
            have h5 := (relF_fin h3 hne).2
            have h2 : times (relF R (colsP R) i k) ((dualU R).getD k 0) ≤ (dualU R).getD i 0 := h2
            unfold times at h2
            rw [if_neg (by omega)] at h2
            omega
        · rw [sumI_z, sumI_z, hul, hvl, ← B.sum]
          have e3 := sumY_img (n := R.length) (v := colsP R) (h := fun j => (dualV R R.length).getD j 0) R.length (fun a b h1 h2 q => by have := B.inj a b (by omega) h2 q; omega) (fun k hk => (B.col k hk).1)
          have e4 : sumY R.length (fun i => if (List.range R.length).any (fun t => decide (colsP R t = i)) then (dualV R R.length).getD i 0 else 0) = sumY R.length (fun i => (dualV R R.length).getD i 0) := sumY_congr _ fun i hi => by
            obtain ⟨k, hk, hki⟩ := col_row B hi
            rw [if_pos]
            rw [List.any_eq_true]
            exact ⟨k, List.mem_range.2 hk, by rw [decide_eq_true_iff]; exact hki⟩
          rw [← e4, ← e3, ← sumY_add]
          exact sumY_congr _ fun k hk => by rw [hvat k hk]; omega
      · rw [if_neg hv] at h
        exact absurd (show (_ : Int) = 0 from congrArg (fun x => x.2.2) h) (by decide)
  · rw [if_neg hs] at h
    exact absurd (show (_ : Int) = 0 from congrArg (fun x => x.2.2) h) (by decide)
end M
end Go.Proofs.Ytmobcobdpemlnaa

namespace Go.Proofs.Ytmobcobdpemlnaa
namespace M
def kp : Nat → Int
  | 0 => 1
  | m + 1 => 10 * kp m
theorem kp_pos : ∀ m, 1 ≤ kp m
  | 0 => Int.le_refl _
  | m + 1 => by have := kp_pos m; unfold kp; omega
theorem kp_mono {a b : Nat} (h : a ≤ b) : kp a ≤ kp b := by
  induction b with
  | zero => obtain rfl : a = 0 := by omega
            exact Int.le_refl _
  | succ b ih =>
    by_cases e : a = b + 1
    · subst e; exact Int.le_refl _
    · have := ih (by omega)
      have := kp_pos b
      show kp a ≤ 10 * kp b
      omega
theorem dpF_ways {R : List (List Int)} {n s : Nat} {prev : Nat → Int × Int} {K : Int} (hK : 0 ≤ K) (h : ∀ j, j < n → s.testBit j = true → 0 ≤ (prev (s - 2 ^ j)).2 ∧ (prev (s - 2 ^ j)).2 ≤ K) : ∀ j, j ≤ n → 0 ≤ (dpF R n prev s j).2 ∧ (dpF R n prev s j).2 ≤ j * K
  | 0, _ => by simp [dpF]
  | j + 1, hj => by
    obtain ⟨i1, i2⟩ := dpF_ways (R := R) hK h j (by omega)
    have e : ((j + 1 : Nat) : Int) * K = j * K + K := by rw [Int.natCast_add, Int.add_mul]; simp
    have e0 : 0 ≤ (j : Int) * K := Int.mul_nonneg (by omega) hK
    rw [e]
    unfold dpF
    by_cases q : s.testBit j = true
    · rw [if_pos q]
      obtain ⟨k1, k2⟩ := h j (by omega) q
      unfold stepT
      split
      · omega
      · split
        · show 0 ≤ (prev (s - 2 ^ j)).2 ∧ (prev (s - 2 ^ j)).2 ≤ _; omega
        · split
          · show 0 ≤ _ + (prev (s - 2 ^ j)).2 ∧ _ + (prev (s - 2 ^ j)).2 ≤ _; omega
          · omega
    · rw [if_neg q]; omega
theorem dp_ways {R : List (List Int)} {n : Nat} (hn : n ≤ 10) : ∀ m s, s < 2 ^ n → pc n s = m → 0 ≤ (dp R n s).2 ∧ (dp R n s).2 ≤ kp m
  | 0, s, hs, hm => by
    obtain rfl := none_zero hs hm
    rw [dp_zero]
    exact ⟨by decide, by decide⟩
  | m + 1, s, hs, hm => by
    have hs0 : 0 < s := by
      apply Classical.byContradiction
      intro q
      obtain rfl : s = 0 := by omega
      obtain ⟨j, -, hj⟩ := pc_some n (by rw [hm]; omega)
      rw [Nat.zero_testBit] at hj; cases hj
    have h1 := dpF_ways (R := R) (n := n) (s := s) (prev := dp R n) (K := kp m) (by have := kp_pos m; omega) (fun j hj q => by
      have h1 := pc_out q n
      rw [if_pos hj, hm] at h1
      exact dp_ways hn m _ (Nat.lt_trans (bit_less q) hs) (by omega)) n (Nat.le_refl _)
    rw [dp_rec hs0]
    have h2 : (n : Int) * kp m ≤ 10 * kp m := Int.mul_le_mul_of_nonneg_right (show (n : Int) ≤ 10 by omega) (by have := kp_pos m; omega)
    exact ⟨h1.1, Int.le_trans h1.2 h2⟩
theorem ways_bd {R : List (List Int)} {n : Nat} (hn : n ≤ 10) : (∀ s, s < 2 ^ n → 0 ≤ (dp R n s).2 ∧ (dp R n s).2 ≤ 100000000000) ∧ ∀ s, s < 2 ^ n → ∀ j, j ≤ n → 0 ≤ (dpF R n (dp R n) s j).2 ∧ (dpF R n (dp R n) s j).2 ≤ 100000000000 := by
  have key : ∀ s, s < 2 ^ n → 0 ≤ (dp R n s).2 ∧ (dp R n s).2 ≤ 10000000000 := fun s hs => by
    have h1 := dp_ways (R := R) hn _ s hs rfl
    have h2 := kp_mono (Nat.le_trans (pc_le s n) hn)
    have h3 : kp 10 = 10000000000 := rfl
    omega
  refine ⟨fun s hs => by have := key s hs; omega, fun s hs j hj => ?_⟩
  have h1 := dpF_ways (R := R) (n := n) (s := s) (prev := dp R n) (K := 10000000000) (by omega) (fun j hj q => key _ (Nat.lt_trans (bit_less q) hs)) j hj
  have h2 : (j : Int) * 10000000000 ≤ 100000000000 := by omega
  omega
/-! What the functions answer. -/
def cntRes (R : List (List Int)) : Int × Int := if sqB R then chk (perm R).2 else (0, 1)
def singRes (R : List (List Int)) : Bool × Int := if sqB R then (decide ((perm R).2 ≠ 1), 0) else (false, 1)
end M
end Go.Proofs.Ytmobcobdpemlnaa

namespace Go.Proofs.Ytmobcobdpemlnaa.V
open Go.RowKit

theorem retB {a b : Bool} (h : a = b) : Ending.returned (.bool a) = .returned (.bool b) := by rw [h]
theorem retI {a b : Int} {k : IntKind} (h : a = b) : Ending.returned (.int k a) = .returned (.int k b) := by rw [h]
theorem retI2 {a b c d : Int} {k l : IntKind} (h : a = c) (h' : b = d) : Ending.returned (.tuple #[.int k a, .int l b]) = .returned (.tuple #[.int k c, .int l d]) := by rw [h, h']
theorem retP {a b : Int} {p : Int × Int} {k l : IntKind} (h : p = (a, b)) : Ending.returned (.tuple #[.int k a, .int l b]) = .returned (.tuple #[.int k p.1, .int l p.2]) := by rw [h]

set_option maxRecDepth 100000 in
set_option maxHeartbeats 400000 in
theorem isFinite (a : Int) (w : World) : Calls Try.prog 110 #[.int .i64 a] w fun e w' => e = .returned (.bool (M.isFin a)) ∧ w = w' := by
  go_enter Try.func110, Try.ntmps110
  go_wp2
  all_goals
    go_ret
    refine ⟨retB ?_, rfl⟩
    unfold M.isFin
    grind

set_option maxRecDepth 100000 in
set_option maxHeartbeats 400000 in
theorem isValid (a : Int) (w : World) : Calls Try.prog 103 #[.int .i64 a] w fun e w' => e = .returned (.bool (M.isVal a)) ∧ w = w' := by
  go_enter Try.func103, Try.ntmps103
  go_wp2_with (first | (go_at_call 110; refine (isFinite _ _).mono ?_; rintro e w' ⟨rfl, rfl⟩))
  all_goals
    go_ret
    refine ⟨retB ?_, rfl⟩
    unfold M.isVal
    grind

set_option maxRecDepth 100000 in
set_option maxHeartbeats 400000 in
theorem isValue (a : Int) (w : World) : Calls Try.prog 120 #[.int .i64 a] w fun e w' => e = .returned (.bool (M.isVal a)) ∧ w = w' := by
  go_enter Try.func120, Try.ntmps120
  go_wp2_with (first | (go_at_call 103; refine (isValid _ _).mono ?_; rintro e w' ⟨rfl, rfl⟩))
  all_goals
    go_ret
    exact ⟨rfl, rfl⟩

set_option maxRecDepth 100000 in
set_option maxHeartbeats 400000 in
theorem sIn (a b c : Int) (w : World) : Calls Try.prog 106 #[.int .i64 a, .int .i64 b, .int .i64 c] w fun e w' => e = .returned (.bool (decide (b ≤ a) && decide (a ≤ c))) ∧ w = w' := by
  go_enter Try.func106, Try.ntmps106
  go_wp2
  all_goals
    go_ret
    refine ⟨retB ?_, rfl⟩
    grind

set_option maxRecDepth 100000 in
set_option maxHeartbeats 400000 in
theorem sFinite (a : Int) (w : World) : Calls Try.prog 124 #[.int .i64 a] w fun e w' => e = .returned (.bool (M.isFin a)) ∧ w = w' := by
  go_enter Try.func124, Try.ntmps124
  go_wp2_with (first | (go_at_call 106; refine (sIn _ _ _ _).mono ?_; rintro e w' ⟨rfl, rfl⟩))
  all_goals
    go_ret
    exact ⟨retB (by unfold M.isFin; grind), rfl⟩

set_option maxRecDepth 100000 in
set_option maxHeartbeats 400000 in
theorem sIsValue (a : Int) (w : World) : Calls Try.prog 97 #[.int .i64 a] w fun e w' => e = .returned (.bool (M.isVal a)) ∧ w = w' := by
  go_enter Try.func97, Try.ntmps97
  go_wp2_with (first | (go_at_call 124; refine (sFinite _ _).mono ?_; rintro e w' ⟨rfl, rfl⟩))
  all_goals
    go_ret
    refine ⟨retB ?_, rfl⟩
    unfold M.isVal
    grind

end Go.Proofs.Ytmobcobdpemlnaa.V

namespace Go.Proofs.Ytmobcobdpemlnaa.V
open Go.RowKit

theorem append1 (w : World) {ops : Array Oper} {rest : List Oper} {o : Oper} {a : Act} {Q : Exit → Act → World → Prop} (hgd : o.guard = none) (s x : Operand)
    (ho : o.op = .call { callee := .builtin .append, args := #[s, x], argTypes := #[26, 26] }) (B : Nat) (v : Value) (l : List Int) (y : Int) (n : Nat) (hn : l.length = n) (hs : a.eval s = v) (hown : Own w B v l)
    (hx : a.eval x = .slice (some ⟨w.heap.size, 0, none⟩) 1 1) (hlen : l.length ≤ 2000000) (hB : B ≤ w.heap.size)
    (h : ∀ b' c' w', Own w' B (.slice b' (n + 1) c') (l ++ [y]) → Below B w w' → (∀ k, k < w.heap.size → v.ownBlock ≠ some k → w'.heap[k]? = w.heap[k]?) → wpList Try.prog ops Q rest (a.put o.dst (.slice b' (n + 1) c')) w') :
    wpList Try.prog ops Q (o :: rest) a (w.alloc (.cells #[.int .i64 y] 2)) := by
  subst hn
  obtain ⟨i0, hi, hz0, hz1, hz2⟩ := info_parts info64
  have hown2 : (w.alloc (.cells #[.int .i64 y] 2)).ownsRow B 2 1 v l.length (l.map (Value.int .i64)) := World.ownsRow.alloc hown _
  refine wpList_append_own_at (w := w.alloc (.cells #[.int .i64 y] 2)) hgd s x 26 ho B 2 i0 (.int .i64 0) 1 8 Try.underlying26 hi hz0 hz1 hz2 rfl (by decide) v _ _ hs hown2 ⟨w.heap.size, 0, none⟩ 1 1 [.int .i64 y] hx rfl (cell_one_new _ _ _) ?c2 ?c3 ?c4 ?c5 ?_
  case c2 => intro u hu; simp at hu; subst hu; rfl
  case c3 => unfold maxLen; omega
  case c4 => omega
  case c5 => simp; omega
  · intro v' w' hown' hgrow hz hvb
    have ho' : Own w' B v' (l ++ [y]) := by
      show w'.ownsRow B _ 1 v' (l ++ [y]).length ((l ++ [y]).map (Value.int .i64))
      simpa using hown'
    obtain ⟨b', c', hv', _⟩ := own_form ho'
    rw [show (l ++ [y]).length = l.length + 1 by simp] at hv'
    subst hv'
    refine h b' c' w' ho' (((Below.refl B w).alloc hB _).grown hgrow (by simp; omega) (fun k hk => (own_lt hown hk).1)) (fun k hk hne => ?_)
    obtain ⟨g1, g2, g3, g4, g5⟩ := hgrow
    rw [g5 k (by simp; omega) (fun e => hne e.symm), Below.heap_alloc _ _ _ hk]

theorem appendRow (w0 w : World) {ops : Array Oper} {rest : List Oper} {o : Oper} {a : Act} {Q : Exit → Act → World → Prop} (hgd : o.guard = none) (s x : Operand)
    (ho : o.op = .call { callee := .builtin .append, args := #[s, x], argTypes := #[24, 24] }) (B : Nat) (v rv : Value) (R : List (List Int)) (l : List Int) (n : Nat) (hn : R.length = n) (hs : a.eval s = v) (hown : OwnM w0 B v R) (hb : Below w0.heap.size w0 w) (hro : Own w w0.heap.size rv l)
    (hx : a.eval x = .slice (some ⟨w.heap.size, 0, none⟩) 1 1) (hlen : R.length ≤ 2000000) (hB : B ≤ w0.heap.size)
    (h : ∀ b' c' w', OwnM w' B (.slice b' (n + 1) c') (R ++ [l]) → Below B w w' → (∀ k, k < w.heap.size → v.ownBlock ≠ some k → w'.heap[k]? = w.heap[k]?) → wpList Try.prog ops Q rest (a.put o.dst (.slice b' (n + 1) c')) w') :
    wpList Try.prog ops Q (o :: rest) a (w.alloc (.cells #[rv] 26)) := by
  subst hn
  obtain ⟨i0, hi, hz0, hz1, hz2⟩ := info_parts infoS64
  have hsz := hb.size
  obtain ⟨V, h1, h2, h3⟩ := hown
  have hwV : w.ownsRow B 26 1 v R.length V := ownsRow_keep h2 (fun k hv => hb.block k (own_lt h2 hv).2)
  have hown2 : (w.alloc (.cells #[rv] 26)).ownsRow B 26 1 v R.length V := World.ownsRow.alloc hwV _
  refine wpList_append_own_at (w := w.alloc (.cells #[rv] 26)) hgd s x 24 ho B 26 i0 (.slice none 0 0) 1 24 Try.underlying24 hi hz0 hz1 hz2 rfl (by decide) v _ _ hs hown2 ⟨w.heap.size, 0, none⟩ 1 1 [rv] hx rfl (cell_one_new _ _ _) ?c2 ?c3 ?c4 ?c5 ?_
  case c2 =>
    intro u hu; simp at hu; subst hu
    obtain ⟨b', c', hv', _⟩ := own_form hro
    rw [hv']; rfl
  case c3 => unfold maxLen; omega
  case c4 => omega
  case c5 => simp; omega
  · intro v' w' hownV' hgrow hz hvb
    obtain ⟨g1, g2, g3, g4, g5⟩ := hgrow
    have hg : ∀ k, k < w.heap.size → v.ownBlock ≠ some k → w'.heap[k]? = w.heap[k]? := fun k hk hne => by
      rw [g5 k (by simp; omega) (fun e => hne e.symm), Below.heap_alloc _ _ _ hk]
    have hM : OwnM w' B v' (R ++ [l]) := by
      exact OwnV.snoc (q := (w.alloc (.cells #[rv] 26)).heap.size) ⟨h1, h2, h3⟩ hb hB hro hownV' hg hvb (by simp)
    obtain ⟨b', c', hv', _⟩ := hM.form
    rw [show (R ++ [l]).length = R.length + 1 by simp] at hv'
    subst hv'
    exact h b' c' w' hM (((Below.refl B w).alloc (by omega) _).grown ⟨g1, g2, g3, g4, g5⟩ (by simp; omega) (fun k hk => (own_lt h2 hk).1)) hg
end Go.Proofs.Ytmobcobdpemlnaa.V
