/- Texts laid together: Plx, Plw, Repeat, Sqp, Vals0, App, SBot, Vec, IsMat, SMul, IAdd. -/
import Derived.Test.YtlljnfljcdljaaaQa2
import Derived.Test.YtlljnfljcdljaaaRows
import Derived.Test.YtlljnfljcdljaaaQa1
import Derived.WalkKit
import Derived.ProofKit
import Derived.WalkSmall
import Derived.Deep.QuietTactic
import Derived.BigQuiet
import Derived.BigRegion
import Derived.Deep.Draws
import Derived.Lib.Hide
import Derived.OpenShut
import Derived.Deep.OwnRows
import Derived.Laws.CopyOwn
import Derived.Deep.RegionLaw
import Derived.IntWalk
import Derived.Maps.AppendAt
import Derived.StillTailTactics
import Derived.Deep.RegionHeld3
set_option linter.unusedSimpArgs false
set_option linter.unusedVariables false
set_option linter.unusedSectionVars false
namespace Go.Proofs.Ytlljnfljcdljaaa
namespace M
theorem sumN_low (k : Nat) (f : Nat → Int) : -1000000000000000 ≤ sumN k f := by
  induction k with
  | zero => exact Int.le_refl _
  | succ k ih => show _ ≤ max _ _; omega
theorem sumN_more {k m : Nat} {f : Nat → Int} (hkm : k ≤ m) (h : ∀ t, k ≤ t → t < m → f t = -1000000000000000) : sumN m f = sumN k f := by
  induction m with
  | zero =>
    obtain rfl : k = 0 := by omega
    rfl
  | succ m ih =>
    by_cases e : k = m + 1
    · subst e; rfl
    · have := ih (by omega) fun t a b => h t a (by omega)
      have h2 := h m (by omega) (by omega)
      have h3 := sumN_low m f
      show max (sumN m f) (f m) = _
      rw [← this]; omega
theorem sumN_ub {k : Nat} {f : Nat → Int} {c : Int} (hc : -1000000000000000 ≤ c) (h : ∀ t, t < k → f t ≤ c) : sumN k f ≤ c := by
  induction k with
  | zero => exact hc
  | succ k ih =>
    have := ih fun t ht => h t (by omega)
    have := h k (by omega)
    show max _ _ ≤ _
    omega
theorem sumN_ge {k t : Nat} {f : Nat → Int} (h : t < k) : f t ≤ sumN k f := by
  induction k with
  | zero => omega
  | succ k ih =>
    show _ ≤ max _ _
    by_cases e : t = k
    · subst e; omega
    · have := ih (by omega); omega
theorem sumN_att (k : Nat) (f : Nat → Int) : sumN k f = -1000000000000000 ∨ ∃ t, t < k ∧ sumN k f = f t := by
  induction k with
  | zero => exact .inl rfl
  | succ k ih =>
    show max _ _ = _ ∨ ∃ t, _ ∧ max _ _ = _
    rcases Int.le_total (sumN k f) (f k) with h | h
    · exact .inr ⟨k, by omega, by omega⟩
    · rcases ih with e | ⟨t, ht, e⟩
      · exact .inl (by omega)
      · exact .inr ⟨t, by omega, by omega⟩
theorem gB_lt {l : List Int} {i : Nat} (h : i < l.length) : gB l i = l.getD i 0 := if_pos h
theorem gB_ge {l : List Int} {i : Nat} (h : l.length ≤ i) : gB l i = -1000000000000000 := if_neg (by omega)
theorem gB_val {l : List Int} (h : ∀ i, i < l.length → isVal (l.getD i 0) = true) (i : Nat) : isVal (gB l i) = true := by
  unfold gB
  split
  · next k => exact h i k
  · rfl
theorem max_val {a b : Int} (ha : isVal a = true) (hb : isVal b = true) : isVal (max a b) = true := by
  rcases Int.le_total a b with h | h
  · rw [Int.max_eq_right h]; exact hb
  · rw [Int.max_eq_left h]; exact ha
theorem isPoly_add {c d : List Int} (hc : isPoly c = true) (hd : isPoly d = true) : isPoly (addL c d) = true := by
  obtain ⟨c1, c2, c3, i, ci, cb⟩ := isPoly_t hc
  obtain ⟨d1, d2, d3, _⟩ := isPoly_t hd
  refine isPoly_of (by rw [addL_len]; omega) (by rw [addL_len]; omega) (fun j hj => ?_) ⟨i, by rw [addL_len]; omega, ?_⟩
  · rw [addL_len] at hj
    rw [addL_get hj]
    exact max_val (gB_val c3 j) (gB_val d3 j)
  · rw [addL_get (by omega), gB_lt ci]
    have h1 := isVal_bound (c3 i ci)
    have h2 := isVal_bound (gB_val d3 i)
    omega
theorem eval_gB {c : List Int} {x : Int} {m : Nat} (hm : c.length ≤ m) : (sumN m fun i => times (gB c i) (i * x)) = sumN c.length fun i => times (c.getD i 0) (i * x) := by
  rw [sumN_more hm fun t h _ => by rw [gB_ge h]; exact bot_times _]
  exact sumN_congr fun t ht => by rw [gB_lt ht]
theorem evalV_fin {c : List Int} {x : Int} (hx : isFin x = true) : evalV c x = sumN c.length fun i => times (c.getD i 0) (i * x) := by
  have := isFin_t hx
  unfold evalV; rw [if_neg (by omega)]
theorem eval_add {c d : List Int} {x : Int} (hc : isPoly c = true) (hd : isPoly d = true) (hx : isFin x = true) : evalV (addL c d) x = max (evalV c x) (evalV d x) := by
  obtain ⟨c1, c2, c3, _⟩ := isPoly_t hc
  obtain ⟨d1, d2, d3, _⟩ := isPoly_t hd
  rw [evalV_fin hx, evalV_fin hx, evalV_fin hx, ← eval_gB (c := c) (m := max c.length d.length) (by omega), ← eval_gB (c := d) (m := max c.length d.length) (by omega), ← sumN_max, addL_len]
  refine sumN_congr fun t ht => ?_
  rw [addL_get ht]
  have h2 := pw_sm hx (i := t) (by omega)
  have k1 := isVal_sm (gB_val c3 t)
  have k2 := isVal_sm (gB_val d3 t)
  exact max_times (show Sm 100000000 _ by unfold Sm; omega) (by unfold Sm at *; omega) (by unfold Sm at *; omega)
/-- The value of a polynomial is reached, and bounds all terms. -/
theorem eval_att {c : List Int} {x : Int} (hc : isPoly c = true) (hx : isFin x = true) : (∃ i, i < c.length ∧ c.getD i 0 ≠ -1000000000000000 ∧ evalV c x = c.getD i 0 + i * x) ∧ ∀ i, i < c.length → c.getD i 0 ≠ -1000000000000000 → c.getD i 0 + i * x ≤ evalV c x := by
  obtain ⟨c1, c2, c3, u, cu, cb⟩ := isPoly_t hc
  rw [evalV_fin hx]
  have ht : ∀ i, i < c.length → c.getD i 0 ≠ -1000000000000000 → times (c.getD i 0) (i * x) = c.getD i 0 + i * x := fun i hi hb => by
    have h2 := pw_sm hx (i := i) (by omega)
    unfold times; rw [if_neg (by omega)]
  have hge : ∀ i, i < c.length → c.getD i 0 ≠ -1000000000000000 → c.getD i 0 + i * x ≤ sumN c.length fun i => times (c.getD i 0) (i * x) := fun i hi hb => by
    rw [← ht i hi hb]; exact sumN_ge (f := fun i : Nat => times (c.getD i 0) (i * x)) hi
  refine ⟨?_, hge⟩
  have hu := hge u cu cb
  have p2 := pw_sm hx (i := u) (by omega)
  have v2 := isVal_t (c3 u cu)
  rcases sumN_att c.length (fun i : Nat => times (c.getD i 0) (i * x)) with e | ⟨i, hi, e⟩
  · omega
  · refine ⟨i, hi, fun eb => ?_, ?_⟩
    · simp only [eb, bot_times] at e; omega
    · rw [e]
      refine ht i hi fun eb => ?_
      simp only [eb, bot_times] at e; omega
/-- The coefficients of a product. -/
theorem mul_le {c d : List Int} {i k : Nat} (hi : i < c.length) (hk : k < d.length) : times (c.getD i 0) (d.getD k 0) ≤ (mulP c d).getD (i + k) 0 := by
  unfold mulP
  rw [mulK_get (by omega)]
  have := sumN_ge (k := c.length) (t := i) (f := mulT c d (i + k)) hi
  unfold mulT at this
  rw [if_pos (by omega), show i + k - i = k by omega] at this
  exact this
theorem mul_att {c d : List Int} {n : Nat} (hn : n < c.length + d.length - 1) (hb : (mulP c d).getD n 0 ≠ -1000000000000000) : ∃ i k, i < c.length ∧ k < d.length ∧ i + k = n ∧ c.getD i 0 ≠ -1000000000000000 ∧ d.getD k 0 ≠ -1000000000000000 ∧ (mulP c d).getD n 0 = c.getD i 0 + d.getD k 0 := by
  unfold mulP at *
  rw [mulK_get hn] at *
  rcases sumN_att c.length (mulT c d n) with e | ⟨i, hi, e⟩
  · exact absurd e hb
  · rw [e] at hb ⊢
    unfold mulT at hb ⊢
    by_cases h : i ≤ n ∧ n - i < d.length
    · rw [if_pos h] at hb ⊢
      refine ⟨i, n - i, hi, h.2, by omega, fun eb => hb (by rw [eb]; exact bot_times _), fun eb => hb (by rw [eb]; exact times_bot _), ?_⟩
      unfold times at hb ⊢
      split at hb
      · exact absurd rfl hb
      · next h2 => rw [if_neg h2]
    · rw [if_neg h] at hb; exact absurd rfl hb
theorem mulP_len (c d : List Int) : (mulP c d).length = c.length + d.length - 1 := mulK_len _ _ _ _
theorem mul_fin {c d : List Int} (hc : isPoly c = true) (hd : isPoly d = true) {i k : Nat} (hi : i < c.length) (hk : k < d.length) (bi : c.getD i 0 ≠ -1000000000000000) (bk : d.getD k 0 ≠ -1000000000000000) : c.getD i 0 + d.getD k 0 ≤ (mulP c d).getD (i + k) 0 ∧ (mulP c d).getD (i + k) 0 ≠ -1000000000000000 := by
  have h := mul_le hi hk
  have v1 := isVal_t ((isPoly_t hc).2.2.1 i hi)
  have v2 := isVal_t ((isPoly_t hd).2.2.1 k hk)
  unfold times at h
  rw [if_neg (by omega)] at h
  exact ⟨h, by omega⟩
theorem eval_mul {c d : List Int} {x : Int} (hc : isPoly c = true) (hd : isPoly d = true) (hp : isPoly (mulP c d) = true) (hx : isFin x = true) : evalV (mulP c d) x = evalV c x + evalV d x := by
  obtain ⟨⟨i, hi, bi, ei⟩, ci⟩ := eval_att hc hx
  obtain ⟨⟨k, hk, bk, ek⟩, dk⟩ := eval_att hd hx
  obtain ⟨⟨n, hn, bn, en⟩, pn⟩ := eval_att hp hx
  rw [mulP_len] at hn
  obtain ⟨u, v, hu, hv, huv, bu, bv, e⟩ := mul_att hn bn
  have h1 := ci u hu bu
  have h2 := dk v hv bv
  obtain ⟨g1, g2⟩ := mul_fin hc hd hi hk bi bk
  have h3 := pn (i + k) (by rw [mulP_len]; omega) g2
  have e1 : ((i + k : Nat) : Int) * x = i * x + k * x := by rw [Int.natCast_add, Int.add_mul]
  have e2 : (n : Int) * x = u * x + v * x := by rw [← huv, Int.natCast_add, Int.add_mul]
  rw [e1] at h3
  rw [e2] at en
  omega
/-- What the law of values asks. -/
theorem pv_law {c d : List Int} {x : Int} (h1 : (addPRes c d).2 = 0) (h2 : (mulPRes c d).2 = 0) (hx : isFin x = true) :
    ((evalRes c x).2 = 0 ∨ (evalRes c x).2 = 3) ∧ ((evalRes d x).2 = 0 ∨ (evalRes d x).2 = 3) ∧
    ((evalRes c x).2 = 0 → (evalRes d x).2 = 0 → (evalRes (addL c d) x).2 = 0 ∧ (evalRes (addL c d) x).1 = max (evalRes c x).1 (evalRes d x).1 ∧ ((evalRes (mulP c d) x).2 = 3 ∨ ((evalRes (mulP c d) x).2 = 0 ∧ (evalRes (mulP c d) x).1 = (evalRes c x).1 + (evalRes d x).1))) ∧ addPRes c d = (addL c d, 0) ∧ mulPRes c d = (mulP c d, 0) := by
  have hc : isPoly c = true := by
    cases e : isPoly c with
    | true => rfl
    | false => unfold addPRes at h1; rw [e] at h1; simp at h1
  have hd : isPoly d = true := by
    cases e : isPoly d with
    | true => rfl
    | false => unfold addPRes at h1; rw [e] at h1; simp at h1
  have hp : isPoly (mulP c d) = true := by
    cases e : isPoly (mulP c d) with
    | true => rfl
    | false => unfold mulPRes at h2; rw [hc, hd, e] at h2; simp at h2
  have hv := isVal_of_fin hx
  have ha := isPoly_add hc hd
  have er : ∀ {l : List Int}, isPoly l = true → evalRes l x = chk (evalV l x) := fun h => by unfold evalRes; rw [h, hv]; rfl
  have cc : ∀ y : Int, (chk y).2 = 0 ∨ (chk y).2 = 3 := fun y => by unfold chk; cases isVal y <;> simp
  rw [er hc, er hd, er ha, er hp, eval_add hc hd hx, eval_mul hc hd hp hx]
  refine ⟨cc _, cc _, fun k1 k2 => ?_, by unfold addPRes; rw [hc, hd]; rfl, by unfold mulPRes; rw [hc, hd, hp]; rfl⟩
  obtain ⟨v1, e1⟩ := chk_ok k1
  obtain ⟨v2, e2⟩ := chk_ok k2
  rw [e1, e2]
  have e3 : chk (max (evalV c x) (evalV d x)) = (max (evalV c x) (evalV d x), 0) := by unfold chk; rw [max_val v1 v2]; rfl
  rw [e3]
  refine ⟨rfl, rfl, ?_⟩
  rcases cc (evalV c x + evalV d x) with q | q
  · right
    obtain ⟨_, e4⟩ := chk_ok q
    rw [e4]; exact ⟨rfl, rfl⟩
  · exact .inl q
/-- The greatest coefficient that is not Bottom is an essential one. -/
theorem most_nB {c : Nat → Int} {n : Nat} (i : Nat) (hi : i < n) (bi : nB c i) : ∃ m, i ≤ m ∧ Ess c n m ∧ ∀ u, m < u → u < n → ¬ nB c u := by
  have key : ∀ d i, n - i = d → i < n → nB c i → ∃ m, i ≤ m ∧ Ess c n m ∧ ∀ u, m < u → u < n → ¬ nB c u := by
    intro d
    induction d using Nat.strongRecOn with
    | ind d ih =>
      intro i hd hi bi
      by_cases h : ∃ u, i < u ∧ u < n ∧ nB c u
      · obtain ⟨u, h1, h2, h3⟩ := h
        obtain ⟨m, k1, k2⟩ := ih (n - u) (by omega) u rfl h2 h3
        exact ⟨m, by omega, k2⟩
      · exact ⟨i, Nat.le_refl _, ⟨hi, bi, fun a k _ hk hkn _ bk => absurd ⟨k, hk, hkn, bk⟩ h⟩, fun u h1 h2 bu => h ⟨u, h1, h2, bu⟩⟩
  exact key _ i rfl hi bi
theorem Hull.last {c : Nat → Int} {n L : Nat} {t : Nat → Nat} (h : Hull c n t L) (u : Nat) (hu : t (L - 1) < u) (hn : u < n) : ¬ nB c u := by
  intro bu
  obtain ⟨m, h1, h2, _⟩ := most_nB u hn bu
  obtain ⟨a, ha, rfl⟩ := (h.2 m).1 h2
  by_cases e : a = L - 1
  · subst e; omega
  · have := h.1 a (L - 1) (by omega) (by omega); omega
/-- Values on the segments. -/
theorem seg_le {v t : Nat → Int} {s : Nat} {m : Int} (hw : t s < t (s + 1)) : segV v t s m * (t (s + 1) - t s) ≤ v s * (t (s + 1) - m) + v (s + 1) * (m - t s) := Int.ediv_mul_le _ (by omega)
theorem seg_gt {v t : Nat → Int} {s : Nat} {m : Int} (hw : t s < t (s + 1)) : v s * (t (s + 1) - m) + v (s + 1) * (m - t s) < (segV v t s m + 1) * (t (s + 1) - t s) := Int.lt_ediv_add_one_mul_self _ (by omega)
theorem seg_end {v t : Nat → Int} {s : Nat} (hw : t s < t (s + 1)) : segV v t s (t (s + 1)) = v (s + 1) := by
  unfold segV
  rw [Int.sub_self, Int.mul_zero, Int.zero_add]
  exact Int.mul_ediv_cancel _ (by omega)
theorem seg_bd {v t : Nat → Int} {s : Nat} {m : Int} {B : Int} (h1 : t s ≤ m) (h2 : m ≤ t (s + 1)) (hw : t s < t (s + 1)) (b1 : -B ≤ v s) (b2 : v s ≤ B) (b3 : -B ≤ v (s + 1)) (b4 : v (s + 1) ≤ B) : -B ≤ segV v t s m ∧ segV v t s m ≤ B := by
  have k1 := Int.mul_le_mul_of_nonneg_right b2 (show 0 ≤ t (s + 1) - m by omega)
  have k2 := Int.mul_le_mul_of_nonneg_right b4 (show 0 ≤ m - t s by omega)
  have k3 := Int.mul_le_mul_of_nonneg_right b1 (show 0 ≤ t (s + 1) - m by omega)
  have k4 := Int.mul_le_mul_of_nonneg_right b3 (show 0 ≤ m - t s by omega)
  have e1 : B * (t (s + 1) - m) + B * (m - t s) = B * (t (s + 1) - t s) := by rw [← Int.mul_add]; congr 1; omega
  have e2 : -B * (t (s + 1) - m) + -B * (m - t s) = -B * (t (s + 1) - t s) := by rw [← Int.mul_add]; congr 1; omega
  have u1 := seg_le (v := v) (m := m) hw
  have u2 := seg_gt (v := v) (m := m) hw
  have hw' : 0 < t (s + 1) - t s := by omega
  constructor
  · have : -B * (t (s + 1) - t s) < (segV v t s m + 1) * (t (s + 1) - t s) := by omega
    have := Int.lt_of_mul_lt_mul_right this (Int.le_of_lt hw')
    omega
  · have : segV v t s m * (t (s + 1) - t s) ≤ B * (t (s + 1) - t s) := by omega
    exact Int.le_of_mul_le_mul_right this hw'
def IncT (t : Nat → Nat) (S : Nat) : Prop := ∀ i j, i < j → j ≤ S → t i < t j
theorem fullF_seg {t : Nat → Nat} {v : Nat → Int} : ∀ {S : Nat}, IncT t S → ∀ s, s < S → ∀ m, t s < m → m ≤ t (s + 1) → fullF t v S m = segV v (fun i => (t i : Int)) s m
  | 0, _, s, hs, _, _, _ => absurd hs (Nat.not_lt_zero s)
  | S + 1, hI, s, hs, m, h1, h2 => by
    by_cases e : s = S
    · subst e; rw [fullF, if_pos ⟨h1, h2⟩]
    · have : t (s + 1) ≤ t S := by
        by_cases e2 : s + 1 = S
        · rw [e2]; exact Nat.le_refl _
        · exact Nat.le_of_lt (hI (s + 1) S (by omega) (by omega))
      rw [fullF, if_neg (by omega)]
      exact fullF_seg (fun i j a b => hI i j a (by omega)) s (by omega) m h1 h2
theorem fullF_first {t : Nat → Nat} {v : Nat → Int} : ∀ {S : Nat}, IncT t S → fullF t v S (t 0) = v 0
  | 0, _ => by rw [fullF, if_pos rfl]
  | S + 1, hI => by
    have : t 0 ≤ t S := by
      by_cases e : S = 0
      · subst e; exact Nat.le_refl _
      · exact Nat.le_of_lt (hI 0 S (by omega) (by omega))
    rw [fullF, if_neg (by omega)]
    exact fullF_first (fun i j a b => hI i j a (by omega))
theorem fullF_out {t : Nat → Nat} {v : Nat → Int} : ∀ {S : Nat}, IncT t S → ∀ m, (m < t 0 ∨ t S < m) → fullF t v S m = -1000000000000000
  | 0, _, m, h => by rw [fullF, if_neg (by omega)]
  | S + 1, hI, m, h => by
    have k1 := hI S (S + 1) (by omega) (by omega)
    have : t 0 ≤ t S := by
      by_cases e : S = 0
      · subst e; exact Nat.le_refl _
      · exact Nat.le_of_lt (hI 0 S (by omega) (by omega))
    rw [fullF, if_neg (by omega)]
    exact fullF_out (fun i j a b => hI i j a (by omega)) m (by omega)
theorem fullF_at {t : Nat → Nat} {v : Nat → Int} {S : Nat} (hI : IncT t S) (j : Nat) (hj : j ≤ S) : fullF t v S (t j) = v j := by
  by_cases e : j = 0
  · subst e; exact fullF_first hI
  · obtain ⟨s, rfl⟩ : ∃ s, j = s + 1 := ⟨j - 1, by omega⟩
    have hlt := hI s (s + 1) (by omega) hj
    rw [fullF_seg hI s (by omega) _ hlt (Nat.le_refl _)]
    exact seg_end (t := fun i => (t i : Int)) (by omega)
/-- Where a number between the first and the last term lies. -/
theorem seg_of {t : Nat → Nat} : ∀ S m, t 0 < m → m ≤ t S → ∃ s, s < S ∧ t s < m ∧ m ≤ t (s + 1)
  | 0, m, h1, h2 => by omega
  | S + 1, m, h1, h2 => by
    by_cases e : m ≤ t S
    · obtain ⟨s, a, b⟩ := seg_of S m h1 e
      exact ⟨s, by omega, b⟩
    · exact ⟨S, by omega, by omega, h2⟩
/-- A line that lies above both ends lies above the segment. -/
theorem seg_line {v t : Nat → Int} {s : Nat} {m p q M : Int} (hq : 0 < q) (h1 : t s < m) (h2 : m ≤ t (s + 1)) (a : q * v s + p * t s ≤ M) (b : q * v (s + 1) + p * t (s + 1) ≤ M) : q * segV v t s m + p * m ≤ M ∧ (q * v (s + 1) + p * t (s + 1) < M → q * segV v t s m + p * m < M) := by
  have u1 := seg_le (v := v) (m := m) (show t s < t (s + 1) by omega)
  have hw' : 0 < t (s + 1) - t s := by omega
  have k1 := Int.mul_le_mul_of_nonneg_right a (show 0 ≤ t (s + 1) - m by omega)
  have k2 := Int.mul_le_mul_of_nonneg_right b (show 0 ≤ m - t s by omega)
  have k0 := Int.mul_le_mul_of_nonneg_left u1 (Int.le_of_lt hq)
  have e1 : (q * v s + p * t s) * (t (s + 1) - m) + (q * v (s + 1) + p * t (s + 1)) * (m - t s) = q * (v s * (t (s + 1) - m) + v (s + 1) * (m - t s)) + p * m * (t (s + 1) - t s) := by grind
  have e2 : (q * segV v t s m + p * m) * (t (s + 1) - t s) = q * (segV v t s m * (t (s + 1) - t s)) + p * m * (t (s + 1) - t s) := by grind
  have e3 : M * (t (s + 1) - m) + M * (m - t s) = M * (t (s + 1) - t s) := by rw [← Int.mul_add]; congr 1; omega
  refine ⟨Int.le_of_mul_le_mul_right (show (q * segV v t s m + p * m) * (t (s + 1) - t s) ≤ M * (t (s + 1) - t s) by omega) hw', fun hb => ?_⟩
  have k3 := Int.mul_lt_mul_of_pos_right hb (show 0 < m - t s by omega)
  exact Int.lt_of_mul_lt_mul_right (show (q * segV v t s m + p * m) * (t (s + 1) - t s) < M * (t (s + 1) - t s) by omega) (Int.le_of_lt hw')
section full
variable {c : List Int} (hc : isPoly c = true)
include hc
theorem full_inc : IncT (tI c) ((tL c).length - 1) := fun i j a b => tL_inc a (by have := tL_pos hc; omega)
theorem full_len : (fullL c).length = c.length := by simp [fullL]
theorem full_get {m : Nat} (hm : m < c.length) : (fullL c).getD m 0 = fullF (tI c) (tV c) ((tL c).length - 1) m := by simp [fullL, hm]
theorem full_hull : Hull (cf c) c.length (tI c) (tL c).length := terms_hull (cf c) c.length
theorem full_at {j : Nat} (hj : j < (tL c).length) : (fullL c).getD (tI c j) 0 = c.getD (tI c j) 0 := by
  show (fullL c).getD (tI c j) 0 = _
  rw [full_get hc (show tI c j < c.length from tL_lt hj), fullF_at (full_inc hc) j (by omega)]
  rfl
/-- A coefficient of the full polynomial lies between the essential ones. -/
theorem full_seg {m : Nat} (h1 : tI c 0 < m) (h2 : m ≤ tI c ((tL c).length - 1)) : ∃ s, s + 1 < (tL c).length ∧ tI c s < m ∧ m ≤ tI c (s + 1) ∧ (m < c.length → (fullL c).getD m 0 = segV (tV c) (fun i => (tI c i : Int)) s m) := by
  obtain ⟨s, hs, a, b⟩ := seg_of ((tL c).length - 1) m h1 h2
  exact ⟨s, by omega, a, b, fun hm => by rw [full_get hc hm, fullF_seg (full_inc hc) s hs m a b]⟩
theorem full_nB {m : Nat} (hm : m < c.length) (h : nB (cf (fullL c)) m) : tI c 0 ≤ m ∧ m ≤ tI c ((tL c).length - 1) := by
  have h' : (fullL c).getD m 0 ≠ -1000000000000000 := h
  rw [full_get hc hm] at h'
  constructor
  · rcases Nat.lt_or_ge m (tI c 0) with e | e
    · exact absurd (fullF_out (full_inc hc) m (.inl e)) h'
    · exact e
  · rcases Nat.lt_or_ge (tI c ((tL c).length - 1)) m with e | e
    · exact absurd (fullF_out (full_inc hc) m (.inr e)) h'
    · exact e
theorem full_bd {m : Nat} (hm : m < c.length) : isVal ((fullL c).getD m 0) = true := by
  have hL := tL_pos hc
  by_cases h : tI c 0 ≤ m ∧ m ≤ tI c ((tL c).length - 1)
  · by_cases e : m = tI c 0
    · subst e
      rw [full_at hc hL]
      exact (isPoly_t hc).2.2.1 _ hm
    · obtain ⟨s, s1, s2, s3, s4⟩ := full_seg hc (show tI c 0 < m by omega) h.2
      rw [s4 hm]
      have b1 := tL_fin hc (j := s) (by omega)
      have b2 := tL_fin hc (j := s + 1) (by omega)
      have := seg_bd (v := tV c) (t := fun i => (tI c i : Int)) (s := s) (m := m) (B := 1000000) (by omega) (by omega) (by omega) b1.1 b1.2 b2.1 b2.2
      exact isVal_of_fin (by unfold isFin; simp; omega)
  · rw [full_get hc hm, fullF_out (full_inc hc) m (by omega)]; rfl
theorem full_poly : isPoly (fullL c) = true := by
  have hL := tL_pos hc
  obtain ⟨c1, c2, c3, _⟩ := isPoly_t hc
  refine isPoly_of (by rw [full_len hc]; exact c1) (by rw [full_len hc]; exact c2) (fun i hi => full_bd hc (by rw [full_len hc] at hi; exact hi)) ⟨tI c 0, by rw [full_len hc]; exact tL_lt hL, ?_⟩
  rw [full_at hc hL]
  exact terms_nB (c := cf c) hL
theorem full_ess (m : Nat) : Ess (cf (fullL c)) c.length m ↔ Ess (cf c) c.length m := by
  have H := full_hull hc
  have hL := tL_pos hc
  constructor
  · rintro ⟨h1, h2, h3⟩
    obtain ⟨a, b⟩ := full_nB hc h1 h2
    by_cases e : m = tI c 0
    · subst e; exact H.ess hL
    · obtain ⟨s, s1, s2, s3, s4⟩ := full_seg hc (show tI c 0 < m by omega) b
      by_cases e2 : m = tI c (s + 1)
      · subst e2; exact H.ess s1
      · exfalso
        have l1 := tL_lt (c := c) (j := s) (by omega)
        have l2 := tL_lt (c := c) (j := s + 1) (by omega)
        have f1 := full_at hc (j := s) (by omega)
        have f2 := full_at hc (j := s + 1) (by omega)
        have n1 : nB (cf (fullL c)) (tI c s) := by show (fullL c).getD _ 0 ≠ _; rw [f1]; exact (H.ess (j := s) (by omega)).2.1
        have n2 : nB (cf (fullL c)) (tI c (s + 1)) := by show (fullL c).getD _ 0 ≠ _; rw [f2]; exact (H.ess (j := s + 1) (by omega)).2.1
        have hcr := h3 (tI c s) (tI c (s + 1)) s2 (by omega) l2 n1 n2
        have u : segV (tV c) (fun i => (tI c i : Int)) s m * ((tI c (s + 1) : Int) - tI c s) ≤ tV c s * ((tI c (s + 1) : Int) - m) + tV c (s + 1) * ((m : Int) - tI c s) := seg_le (v := tV c) (t := fun i => (tI c i : Int)) (s := s) (m := m) (show (tI c s : Int) < tI c (s + 1) by omega)
        unfold crit cf at hcr
        rw [f1, f2, s4 h1] at hcr
        have q1 : tV c s = c.getD (tI c s) 0 := rfl
        have q2 : tV c (s + 1) = c.getD (tI c (s + 1)) 0 := rfl
        rw [← q1, ← q2] at hcr
        generalize segV (tV c) (fun i => (tI c i : Int)) s m = y at *
        generalize tV c s = v0 at *
        generalize tV c (s + 1) = v1 at *
        generalize (tI c s : Int) = x0 at *
        generalize (tI c (s + 1) : Int) = x1 at *
        have e1 : (v1 - y) * ((m : Int) - x0) - (y - v0) * (x1 - m) = v0 * (x1 - m) + v1 * (m - x0) - y * (x1 - x0) := by grind
        omega
  · intro he
    obtain ⟨j, hj, rfl⟩ := (H.2 m).1 he
    have fj := full_at hc hj
    refine ⟨he.1, by show (fullL c).getD _ 0 ≠ _; rw [fj]; exact he.2.1, fun i k hi hk hkn bi bk => ?_⟩
    obtain ⟨i1, i2⟩ := full_nB hc (by omega) bi
    obtain ⟨k1, k2⟩ := full_nB hc hkn bk
    have hj0 : 0 < j := by
      rcases Nat.eq_zero_or_pos j with e | e
      · subst e; omega
      · exact e
    obtain ⟨u, rfl⟩ : ∃ u, j = u + 1 := ⟨j - 1, by omega⟩
    have hlt := H.1 u (u + 1) (by omega) hj
    obtain ⟨p, hp⟩ : ∃ p, p = cf c (tI c u) - cf c (tI c (u + 1)) := ⟨_, rfl⟩
    obtain ⟨q, hq⟩ : ∃ q, q = (tI c (u + 1) : Int) - tI c u := ⟨_, rfl⟩
    have hq0 : 0 < q := by omega
    have hS := H.supp (j := u) hj
    have hdir := G_dir (cf c) (tI c u) (tI c (u + 1))
    rw [← hp, ← hq] at hS hdir
    have hall : ∀ a, a < (tL c).length → q * tV c a + p * (tI c a : Int) ≤ G (cf c) p q (tI c u) := fun a ha => (hS _ (tL_lt ha) (terms_nB (c := cf c) ha)).1
    have hbeh : ∀ a, u + 1 < a → a < (tL c).length → q * tV c a + p * (tI c a : Int) < G (cf c) p q (tI c u) := fun a h1 ha => (hS _ (tL_lt ha) (terms_nB (c := cf c) ha)).2.2 (H.1 (u + 1) a h1 ha)
    have hGm : G (cf (fullL c)) p q (tI c (u + 1)) = G (cf c) p q (tI c u) := by
      rw [hdir]
      show q * (fullL c).getD _ 0 + _ = q * c.getD _ 0 + _
      rw [fj]
    have hGi : G (cf (fullL c)) p q i ≤ G (cf c) p q (tI c u) := by
      by_cases e : i = tI c 0
      · subst e
        show q * (fullL c).getD _ 0 + _ ≤ _
        rw [full_at hc hL]
        exact hall 0 hL
      · obtain ⟨s, s1, s2, s3, s4⟩ := full_seg hc (show tI c 0 < i by omega) i2
        show q * (fullL c).getD i 0 + p * i ≤ _
        rw [s4 (by omega)]
        exact (seg_line (t := fun i => (tI c i : Int)) hq0 (by omega) (by omega) (hall s (by omega)) (hall (s + 1) s1)).1
    have hGk : G (cf (fullL c)) p q k < G (cf c) p q (tI c u) := by
      obtain ⟨s, s1, s2, s3, s4⟩ := full_seg hc (show tI c 0 < k by omega) k2
      show q * (fullL c).getD k 0 + p * k < _
      rw [s4 hkn]
      refine (seg_line (t := fun i => (tI c i : Int)) hq0 (by omega) (by omega) (hall s (by omega)) (hall (s + 1) s1)).2 (hbeh (s + 1) ?_ s1)
      rcases Nat.lt_or_ge (u + 1) (s + 1) with e | e
      · exact e
      · by_cases e2 : s + 1 = u + 1
        · rw [e2] at s3; omega
        · have := H.1 (s + 1) (u + 1) (by omega) hj; omega
    refine crit_of (p := p) hq0 ?_
    rw [hGm]
    have b1 := neg_lt (a := G (cf (fullL c)) p q k - G (cf c) p q (tI c u)) (b := (tI c (u + 1) : Int) - i) (by omega) (by omega)
    have b2 := Int.mul_nonneg (a := G (cf c) p q (tI c u) - G (cf (fullL c)) p q i) (b := (k : Int) - tI c (u + 1)) (by omega) (by omega)
    omega
theorem full_terms : tL (fullL c) = tL c := by
  have h1 : Hull (cf (fullL c)) c.length (tI (fullL c)) (tL (fullL c)).length := by
    have := terms_hull (cf (fullL c)) (fullL c).length
    rw [full_len hc] at this
    have e : tL (fullL c) = termsL (cf (fullL c)) c.length := by unfold tL; rw [full_len hc]
    unfold tI; rw [e]; exact this
  obtain ⟨e1, e2⟩ := hull_uniq h1 (full_hull hc) (full_ess hc)
  refine List.ext_getElem e1 fun i a b => ?_
  have := e2 i a
  unfold tI at this
  simpa [a, b] using this
theorem full_same : sameRes c (fullL c) = (true, 0) := by
  unfold sameRes sameB
  rw [hc, full_poly hc, full_terms hc]
  simp only [Bool.and_self, if_true, decide_true, Bool.true_and]
  congr 1
  rw [List.all_eq_true]
  intro x hx
  obtain ⟨j, hj, rfl⟩ := List.getElem_of_mem hx
  have := full_at hc hj
  unfold tI at this
  rw [List.getD_eq_getElem?_getD (l := tL c), List.getElem?_eq_getElem hj] at this
  exact decide_eq_true this.symm
theorem full_again : fullRes (fullL c) = (fullL c, 0) := by
  unfold fullRes
  rw [full_poly hc, if_pos rfl]
  congr 1
  have e1 : tI (fullL c) = tI c := by unfold tI; rw [full_terms hc]
  have e2 : ∀ j, j < (tL c).length → tV (fullL c) j = tV c j := fun j hj => by
    unfold tV
    rw [full_terms hc]
    exact full_at hc hj
  have hF : ∀ S, S < (tL c).length → ∀ m, fullF (tI c) (tV (fullL c)) S m = fullF (tI c) (tV c) S m := by
    intro S
    induction S with
    | zero => intro hS m; rw [fullF, fullF, e2 0 hS]
    | succ S ih =>
      intro hS m
      rw [fullF, fullF, ih (by omega) m]
      unfold segV
      rw [e2 S (by omega), e2 (S + 1) hS]
  unfold fullL at hF ⊢
  rw [show ((List.range c.length).map (fullF (tI c) (tV c) ((tL c).length - 1))) = fullL c from rfl, full_len hc, e1, full_terms hc]
  unfold fullL
  exact List.map_congr_left fun m _ => hF _ (by have := tL_pos hc; omega) m
theorem full_up {m : Nat} (hm : m < c.length) : c.getD m 0 ≤ (fullL c).getD m 0 := by
  have H := full_hull hc
  have hL := tL_pos hc
  by_cases e : c.getD m 0 = -1000000000000000
  · rw [e]; exact (isVal_bound (full_bd hc hm)).1
  · have a : tI c 0 ≤ m := by
      rcases Nat.lt_or_ge m (tI c 0) with k | k
      · exact absurd e (H.first hL m k)
      · exact k
    have b : m ≤ tI c ((tL c).length - 1) := by
      rcases Nat.lt_or_ge (tI c ((tL c).length - 1)) m with k | k
      · exact absurd e (H.last m k hm)
      · exact k
    by_cases e0 : m = tI c 0
    · subst e0; rw [full_at hc hL]; exact Int.le_refl _
    · obtain ⟨s, s1, s2, s3, s4⟩ := full_seg hc (show tI c 0 < m by omega) b
      rw [s4 hm]
      have hS := (H.supp (j := s) s1 m hm e).1
      show _ ≤ (tV c s * ((tI c (s + 1) : Int) - m) + tV c (s + 1) * ((m : Int) - tI c s)) / ((tI c (s + 1) : Int) - tI c s)
      refine Int.le_ediv_of_mul_le (by omega) ?_
      unfold G cf at hS
      have q1 : tV c s = c.getD (tI c s) 0 := rfl
      have q2 : tV c (s + 1) = c.getD (tI c (s + 1)) 0 := rfl
      rw [← q1, ← q2] at hS
      generalize c.getD m 0 = y at *
      generalize tV c s = v0 at *
      generalize tV c (s + 1) = v1 at *
      generalize (tI c s : Int) = x0 at *
      generalize (tI c (s + 1) : Int) = x1 at *
      have e1 : v0 * (x1 - m) + v1 * (m - x0) - y * (x1 - x0) = ((x1 - x0) * v0 + (v0 - v1) * x0) - ((x1 - x0) * y + (v0 - v1) * m) := by grind
      omega
end full
end M
end Go.Proofs.Ytlljnfljcdljaaa

namespace Go.Proofs.Ytlljnfljcdljaaa
namespace M
def sumZ : Nat → (Nat → Int) → Int
  | 0, _ => 0
  | k + 1, f => sumZ k f + f k
theorem sumZ_congr {k : Nat} {f g : Nat → Int} (h : ∀ j, j < k → f j = g j) : sumZ k f = sumZ k g := by
  induction k with
  | zero => rfl
  | succ k ih => show sumZ k f + f k = sumZ k g + g k; rw [ih fun j hj => h j (by omega), h k (by omega)]
theorem sumZ_zero {k : Nat} {f : Nat → Int} (h : ∀ j, j < k → f j = 0) : sumZ k f = 0 := by
  induction k with
  | zero => rfl
  | succ k ih => show sumZ k f + f k = 0; rw [ih fun j hj => h j (by omega), h k (by omega)]; rfl
theorem sumZ_one {k a : Nat} {f : Nat → Int} (ha : a < k) (h : ∀ j, j < k → j ≠ a → f j = 0) : sumZ k f = f a := by
  induction k with
  | zero => omega
  | succ k ih =>
    show sumZ k f + f k = f a
    by_cases e : a = k
    · subst e; rw [sumZ_zero fun j hj => h j (by omega) (by omega)]; omega
    · rw [ih (by omega) fun j hj => h j (by omega), h k (by omega) (fun q => e q.symm)]; omega
theorem sumZ_tel (g : Nat → Int) (k : Nat) : sumZ k (fun j => g (j + 1) - g j) = g k - g 0 := by
  induction k with
  | zero => show (0 : Int) = _; omega
  | succ k ih =>
    show sumZ k _ + (g (k + 1) - g k) = _
    rw [ih]; omega
/-- The least and the greatest index with the greatest height. -/
def IsLo (c : Nat → Int) (p q : Int) (n lo : Nat) : Prop := lo < n ∧ nB c lo ∧ (∀ m, m < n → nB c m → G c p q m ≤ G c p q lo) ∧ ∀ m, m < lo → nB c m → G c p q m < G c p q lo
def IsHi (c : Nat → Int) (p q : Int) (n hi : Nat) : Prop := hi < n ∧ nB c hi ∧ (∀ m, m < n → nB c m → G c p q m ≤ G c p q hi) ∧ ∀ m, hi < m → m < n → nB c m → G c p q m < G c p q hi
theorem lohi_eq {c : Nat → Int} {p q : Int} {n lo hi : Nat} (h : IsLo c p q n lo) (h' : IsHi c p q n hi) : G c p q lo = G c p q hi ∧ lo ≤ hi := by
  have a := h.2.2.1 hi h'.1 h'.2.1
  have b := h'.2.2.1 lo h.1 h.2.1
  refine ⟨by omega, ?_⟩
  rcases Nat.lt_or_ge hi lo with e | e
  · have := h.2.2.2 hi e h'.2.1; omega
  · exact e
/-- A step of the hull on the level is the way from the least to the greatest. -/
theorem pair_lohi {c : Nat → Int} {p q : Int} {n L lo hi j : Nat} {t : Nat → Nat} (H : Hull c n t L) (hq : 0 < q) (h : IsLo c p q n lo) (h' : IsHi c p q n hi) (hj : j + 1 < L) (hG : G c p q (t j) = G c p q (t (j + 1))) : lo = t j ∧ hi = t (j + 1) := by
  have hlt := H.1 j (j + 1) (by omega) hj
  have S := fun m hm bm => supp (p := p) (q := q) hq (H.ess (j := j) (by omega)) (H.ess hj) hlt (H.gap hj) hG m hm bm
  have e1 := h.2.2.1 (t j) (H.ess (j := j) (by omega)).1 (H.ess (j := j) (by omega)).2.1
  have e2 := h'.2.2.1 (t (j + 1)) (H.ess hj).1 (H.ess hj).2.1
  constructor
  · rcases Nat.lt_trichotomy lo (t j) with k | k | k
    · have := (S lo h.1 h.2.1).2.1 k; omega
    · exact k
    · have := h.2.2.2 (t j) k (H.ess (j := j) (by omega)).2.1
      have := (S lo h.1 h.2.1).1; omega
  · rcases Nat.lt_trichotomy hi (t (j + 1)) with k | k | k
    · have := h'.2.2.2 (t (j + 1)) k (H.ess hj).1 (H.ess hj).2.1
      have := (S hi h'.1 h'.2.1).1; omega
    · exact k
    · have := (S hi h'.1 h'.2.1).2.2 k; omega
theorem corner_sum {c : Nat → Int} {p q : Int} {n L lo hi : Nat} {t : Nat → Nat} (H : Hull c n t L) (hq : 0 < q) (h : IsLo c p q n lo) (h' : IsHi c p q n hi) :
    sumZ (L - 1) (fun j => if G c p q (t j) = G c p q (t (j + 1)) then (t (j + 1) : Int) - t j else 0) = (hi : Int) - lo := by
  obtain ⟨hE, hle⟩ := lohi_eq h h'
  by_cases e : lo = hi
  · subst e
    rw [sumZ_zero fun j hj => ?_]
    · omega
    · refine if_neg fun hG => ?_
      obtain ⟨e1, e2⟩ := pair_lohi H hq h h' (by omega) hG
      have := H.1 j (j + 1) (by omega) (by omega)
      omega
  · obtain ⟨a, ha, ea⟩ := (H.2 lo).1 (lo_ess hq h.1 h.2.1 h.2.2.1 h.2.2.2)
    obtain ⟨b, hb, eb⟩ := (H.2 hi).1 (hi_ess hq h'.1 h'.2.1 h'.2.2.1 h'.2.2.2)
    have hab : a < b := by
      rcases Nat.lt_trichotomy a b with k | k | k
      · exact k
      · subst k; omega
      · have := H.1 b a k ha; omega
    have hb1 : b = a + 1 := by
      by_cases k : b = a + 1
      · exact k
      · exfalso
        have l1 := H.1 a (a + 1) (by omega) (by omega)
        have l2 := H.1 (a + 1) b (by omega) hb
        have hm := H.ess (j := a + 1) (by omega)
        have hcr := of_crit (p := p) hq (hm.2.2 lo hi (by omega) (by omega) h'.1 h.2.1 h'.2.1)
        have g := h.2.2.1 _ hm.1 hm.2.1
        have b1 := np (a := G c p q (t (a + 1)) - G c p q lo) (b := (hi : Int) - t (a + 1)) (by omega) (by omega)
        have b2 := Int.mul_nonneg (a := G c p q hi - G c p q (t (a + 1))) (b := (t (a + 1) : Int) - lo) (by omega) (by omega)
        omega
    subst hb1
    rw [sumZ_one (a := a) (by omega) fun j hj hne => ?_]
    · rw [ea, eb, if_pos hE]
    · refine if_neg fun hG => ?_
      obtain ⟨e1, e2⟩ := pair_lohi H hq h h' (by omega) hG
      rcases Nat.lt_trichotomy j a with k | k | k
      · have := H.1 j a k (by omega); omega
      · exact hne k
      · have := H.1 a j k (by omega); omega
/-- The product's least and greatest index. -/
theorem lo_mul {c d : List Int} {p q : Int} {a b : Nat} (hc : isPoly c = true) (hd : isPoly d = true) (hq : 0 < q) (h : IsLo (cf c) p q c.length a) (h' : IsLo (cf d) p q d.length b) : IsLo (cf (mulP c d)) p q (mulP c d).length (a + b) := by
  obtain ⟨a1, a2, a3, a4⟩ := h
  obtain ⟨b1, b2, b3, b4⟩ := h'
  obtain ⟨g1, g2⟩ := mul_fin hc hd a1 b1 a2 b2
  have hge : G (cf c) p q a + G (cf d) p q b ≤ G (cf (mulP c d)) p q (a + b) := by
    have k := Int.mul_le_mul_of_nonneg_left g1 (Int.le_of_lt hq)
    unfold G cf
    rw [Int.natCast_add, Int.mul_add]
    rw [Int.mul_add] at k
    omega
  have hat : ∀ m, m < c.length + d.length - 1 → nB (cf (mulP c d)) m → ∃ u v, u < c.length ∧ v < d.length ∧ u + v = m ∧ nB (cf c) u ∧ nB (cf d) v ∧ G (cf (mulP c d)) p q m = G (cf c) p q u + G (cf d) p q v := by
    intro m hm bm
    obtain ⟨u, v, hu, hv, huv, bu, bv, e⟩ := mul_att hm bm
    refine ⟨u, v, hu, hv, huv, bu, bv, ?_⟩
    unfold G cf
    rw [e, ← huv, Int.natCast_add]
    grind
  refine ⟨by rw [mulP_len]; omega, g2, fun m hm bm => ?_, fun m hm bm => ?_⟩
  · rw [mulP_len] at hm
    obtain ⟨u, v, hu, hv, _, bu, bv, e⟩ := hat m hm bm
    have := a3 u hu bu
    have := b3 v hv bv
    omega
  · obtain ⟨u, v, hu, hv, huv, bu, bv, e⟩ := hat m (by omega) bm
    have := a3 u hu bu
    have := b3 v hv bv
    rcases Nat.lt_or_ge u a with k | k
    · have := a4 u k bu; omega
    · have := b4 v (by omega) bv; omega
theorem hi_mul {c d : List Int} {p q : Int} {a b : Nat} (hc : isPoly c = true) (hd : isPoly d = true) (hq : 0 < q) (h : IsHi (cf c) p q c.length a) (h' : IsHi (cf d) p q d.length b) : IsHi (cf (mulP c d)) p q (mulP c d).length (a + b) := by
  obtain ⟨a1, a2, a3, a4⟩ := h
  obtain ⟨b1, b2, b3, b4⟩ := h'
  obtain ⟨g1, g2⟩ := mul_fin hc hd a1 b1 a2 b2
  have hge : G (cf c) p q a + G (cf d) p q b ≤ G (cf (mulP c d)) p q (a + b) := by
    have k := Int.mul_le_mul_of_nonneg_left g1 (Int.le_of_lt hq)
    unfold G cf
    rw [Int.natCast_add, Int.mul_add]
    rw [Int.mul_add] at k
    omega
  have hat : ∀ m, m < c.length + d.length - 1 → nB (cf (mulP c d)) m → ∃ u v, u < c.length ∧ v < d.length ∧ u + v = m ∧ nB (cf c) u ∧ nB (cf d) v ∧ G (cf (mulP c d)) p q m = G (cf c) p q u + G (cf d) p q v := by
    intro m hm bm
    obtain ⟨u, v, hu, hv, huv, bu, bv, e⟩ := mul_att hm bm
    refine ⟨u, v, hu, hv, huv, bu, bv, ?_⟩
    unfold G cf
    rw [e, ← huv, Int.natCast_add]
    grind
  refine ⟨by rw [mulP_len]; omega, g2, fun m hm bm => ?_, fun m hm hm2 bm => ?_⟩
  · rw [mulP_len] at hm
    obtain ⟨u, v, hu, hv, _, bu, bv, e⟩ := hat m hm bm
    have := a3 u hu bu
    have := b3 v hv bv
    omega
  · rw [mulP_len] at hm2
    obtain ⟨u, v, hu, hv, huv, bu, bv, e⟩ := hat m hm2 bm
    have := a3 u hu bu
    have := b3 v hv bv
    rcases Nat.lt_or_ge a u with k | k
    · have := a4 u k hu bu; omega
    · have := b4 v (by omega) hv bv; omega
/-- Lowest terms are unique. -/
theorem ply_dvd {a b c : Int} (h : a ∣ b * c) (hg : Int.gcd b a = 1) : a ∣ c := by
  have e : a.natAbs ∣ b.natAbs * c.natAbs := by rw [← Int.natAbs_mul]; exact Int.natAbs_dvd_natAbs.2 h
  exact Int.natAbs_dvd_natAbs.1 (Nat.Coprime.dvd_of_dvd_mul_left (show Nat.gcd a.natAbs b.natAbs = 1 by rw [Nat.gcd_comm]; exact hg) e)
theorem rat_is {n d p q : Int} (hd : 0 < d) (hq : 0 < q) (hg : Int.gcd p q = 1) : (ratN n d = p ∧ ratD n d = q) ↔ n * q = p * d := by
  have e := rat_back (n := n) (d := d) (by omega)
  have g := rat_gcd (n := n) (d := d) (by omega)
  have ps := rat_pos (n := n) (d := d) (by omega)
  constructor
  · rintro ⟨rfl, rfl⟩; exact e.symm
  · intro h
    have h2 : ratN n d * q = p * ratD n d := by
      have : d * (ratN n d * q) = d * (p * ratD n d) := by
        have e1 : d * (ratN n d * q) = ratN n d * d * q := by ac_rfl
        have e2 : d * (p * ratD n d) = p * d * ratD n d := by ac_rfl
        rw [e1, e2, e, ← h]; ac_rfl
      exact Int.eq_of_mul_eq_mul_left (by omega) this
    have d1 : ratD n d ∣ q := by
      have : ratD n d ∣ ratN n d * q := ⟨p, by rw [h2]; ac_rfl⟩
      exact ply_dvd this g
    have d2 : q ∣ ratD n d := by
      have : q ∣ p * ratD n d := ⟨ratN n d, by rw [← h2]; ac_rfl⟩
      exact ply_dvd this hg
    have e3 : ratD n d = q := Int.dvd_antisymm (by omega) (by omega) d1 d2
    refine ⟨?_, e3⟩
    rw [e3] at h2
    exact Int.eq_of_mul_eq_mul_right (by omega) h2
/-- The step between two terms is level in its own direction alone. -/
theorem level_iff (c : Nat → Int) {i k : Nat} (hik : i < k) {p q : Int} (hq : 0 < q) (hg : Int.gcd p q = 1) : (ratN (c i - c k) ((k : Int) - i) = p ∧ ratD (c i - c k) ((k : Int) - i) = q) ↔ G c p q i = G c p q k := by
  rw [rat_is (by omega) hq hg]
  unfold G
  rw [Int.sub_mul, Int.mul_sub, Int.mul_comm (c i) q, Int.mul_comm (c k) q]
  omega
/-- How often a corner occurs. -/
def timesAt (c : List Int) (p q : Int) : Int := sumZ ((tL c).length - 1) fun j => if (cornAt c j).1 = p ∧ (cornAt c j).2.1 = q then (cornAt c j).2.2 else 0
theorem timesAt_eq {c : List Int} {p q : Int} {lo hi : Nat} (hq : 0 < q) (hg : Int.gcd p q = 1) (h : IsLo (cf c) p q c.length lo) (h' : IsHi (cf c) p q c.length hi) : timesAt c p q = (hi : Int) - lo := by
  rw [← corner_sum (terms_hull (cf c) c.length) hq h h']
  unfold timesAt
  refine sumZ_congr fun j hj => ?_
  have hlt := tL_inc (c := c) (i := j) (j := j + 1) (by omega) (by unfold tL at *; omega)
  have := level_iff (cf c) hlt hq hg
  by_cases e : G (cf c) p q ((tL c).getD j 0) = G (cf c) p q ((tL c).getD (j + 1) 0)
  · exact (if_pos (this.2 e)).trans (if_pos e).symm
  · exact (if_neg (fun k => e (this.1 k))).trans (if_neg e).symm
theorem lohi_ex {c : List Int} (hc : isPoly c = true) (p q : Int) : (∃ lo, IsLo (cf c) p q c.length lo) ∧ ∃ hi, IsHi (cf c) p q c.length hi := by
  obtain ⟨_, _, _, i, hi, bi⟩ := isPoly_t hc
  exact ⟨lo_ex (cf c) p q c.length ⟨i, hi, bi⟩, hi_ex (cf c) p q c.length ⟨i, hi, bi⟩⟩
/-- A corner of a product. -/
theorem corner_mul {c d : List Int} (hc : isPoly c = true) (hd : isPoly d = true) (hp : isPoly (mulP c d) = true) {j : Nat} (hj : j + 1 < (tL (mulP c d)).length) :
    timesAt c (cornAt (mulP c d) j).1 (cornAt (mulP c d) j).2.1 + timesAt d (cornAt (mulP c d) j).1 (cornAt (mulP c d) j).2.1 = (cornAt (mulP c d) j).2.2 := by
  have hlt := tL_inc (c := mulP c d) (i := j) (j := j + 1) (by omega) hj
  have hw : (0 : Int) < ((tL (mulP c d)).getD (j + 1) 0 : Int) - ((tL (mulP c d)).getD j 0 : Int) := by omega
  obtain ⟨p, ep⟩ : ∃ p, p = (cornAt (mulP c d) j).1 := ⟨_, rfl⟩
  obtain ⟨q, eq⟩ : ∃ q, q = (cornAt (mulP c d) j).2.1 := ⟨_, rfl⟩
  have hq : 0 < q := by
    have := rat_pos (n := (mulP c d).getD ((tL (mulP c d)).getD j 0) 0 - (mulP c d).getD ((tL (mulP c d)).getD (j + 1) 0) 0) (d := ((tL (mulP c d)).getD (j + 1) 0 : Int) - ((tL (mulP c d)).getD j 0 : Int)) (by omega)
    rw [eq]
    exact Int.lt_of_lt_of_le (by decide) this
  have hg : Int.gcd p q = 1 := by
    rw [ep, eq]; exact rat_gcd (by omega)
  rw [← ep, ← eq]
  obtain ⟨⟨a, ha⟩, a', ha'⟩ := lohi_ex hc p q
  obtain ⟨⟨b, hb⟩, b', hb'⟩ := lohi_ex hd p q
  rw [timesAt_eq hq hg ha ha', timesAt_eq hq hg hb hb']
  have hl := (level_iff (cf (mulP c d)) hlt hq hg).1 ⟨ep.symm, eq.symm⟩
  obtain ⟨e1, e2⟩ := pair_lohi (terms_hull (cf (mulP c d)) (mulP c d).length) hq (lo_mul hc hd hq ha hb) (hi_mul hc hd hq ha' hb') hj hl
  show _ = ((tL (mulP c d)).getD (j + 1) 0 : Int) - ((tL (mulP c d)).getD j 0 : Int)
  have f1 : ((tL (mulP c d)).getD j 0 : Int) = ((a + b : Nat) : Int) := by rw [e1]; rfl
  have f2 : ((tL (mulP c d)).getD (j + 1) 0 : Int) = ((a' + b' : Nat) : Int) := by rw [e2]; rfl
  rw [f1, f2]
  simp only [Int.natCast_add]
  omega
/-- All corners together. -/
def timesAll (c : List Int) : Int := sumZ ((tL c).length - 1) fun j => (cornAt c j).2.2
theorem timesAll_eq (c : List Int) : timesAll c = ((tL c).getD ((tL c).length - 1) 0 : Int) - ((tL c).getD 0 0 : Int) := sumZ_tel (fun j => ((tL c).getD j 0 : Int)) _
theorem ends_mul {c d : List Int} (hc : isPoly c = true) (hd : isPoly d = true) (hp : isPoly (mulP c d) = true) : timesAll (mulP c d) = timesAll c + timesAll d := by
  rw [timesAll_eq, timesAll_eq, timesAll_eq]
  have Hc := full_hull hc
  have Hd := full_hull hd
  have Hp := full_hull hp
  have lc := tL_pos hc
  have ld := tL_pos hd
  have lp := tL_pos hp
  have c0 := Hc.ess lc
  have d0 := Hd.ess ld
  have p0 := Hp.ess lp
  have c1 := Hc.ess (j := (tL c).length - 1) (by omega)
  have d1 := Hd.ess (j := (tL d).length - 1) (by omega)
  have p1 := Hp.ess (j := (tL (mulP c d)).length - 1) (by omega)
  have k0 := mul_fin hc hd c0.1 d0.1 c0.2.1 d0.2.1
  have k1 := mul_fin hc hd c1.1 d1.1 c1.2.1 d1.2.1
  have hpl := mulP_len c d
  have a1 : tI (mulP c d) 0 ≤ tI c 0 + tI d 0 := by
    rcases Nat.lt_or_ge (tI c 0 + tI d 0) (tI (mulP c d) 0) with e | e
    · exact absurd k0.2 (Hp.first lp _ e)
    · exact e
  have a2 : tI c 0 + tI d 0 ≤ tI (mulP c d) 0 := by
    obtain ⟨u, v, hu, hv, huv, bu, bv, _⟩ := mul_att (c := c) (d := d) (n := tI (mulP c d) 0) (by have := p0.1; omega) p0.2.1
    rcases Nat.lt_or_ge u (tI c 0) with e | e
    · exact absurd bu (Hc.first lc u e)
    · rcases Nat.lt_or_ge v (tI d 0) with e2 | e2
      · exact absurd bv (Hd.first ld v e2)
      · omega
  have b1 : tI c ((tL c).length - 1) + tI d ((tL d).length - 1) ≤ tI (mulP c d) ((tL (mulP c d)).length - 1) := by
    rcases Nat.lt_or_ge (tI (mulP c d) ((tL (mulP c d)).length - 1)) (tI c ((tL c).length - 1) + tI d ((tL d).length - 1)) with e | e
    · have q1 := c1.1
      have q2 := d1.1
      exact absurd k1.2 (Hp.last _ e (by omega))
    · exact e
  have b2 : tI (mulP c d) ((tL (mulP c d)).length - 1) ≤ tI c ((tL c).length - 1) + tI d ((tL d).length - 1) := by
    obtain ⟨u, v, hu, hv, huv, bu, bv, _⟩ := mul_att (c := c) (d := d) (n := tI (mulP c d) ((tL (mulP c d)).length - 1)) (by have := p1.1; omega) p1.2.1
    rcases Nat.lt_or_ge (tI c ((tL c).length - 1)) u with e | e
    · exact absurd bu (Hc.last u e hu)
    · rcases Nat.lt_or_ge (tI d ((tL d).length - 1)) v with e2 | e2
      · exact absurd bv (Hd.last v e2 hv)
      · omega
  unfold tI at *
  omega
end M
end Go.Proofs.Ytlljnfljcdljaaa

namespace Go.Proofs.Ytlljnfljcdljaaa.V
open Go.RowKit

set_option maxRecDepth 100000 in
set_option maxHeartbeats 1000000 in
theorem mul64 (n : Nat) (w : World) (h1 : 1 ≤ n) (h2 : n ≤ 12) : Calls Try.prog 105 #[.int .u64 1, .int .u64 n] w fun e w' => e = .returned (.tuple #[.int .u64 0, .int .u64 n]) ∧ w = w' := by
  have hn : n = 1 ∨ n = 2 ∨ n = 3 ∨ n = 4 ∨ n = 5 ∨ n = 6 ∨ n = 7 ∨ n = 8 ∨ n = 9 ∨ n = 10 ∨ n = 11 ∨ n = 12 := by omega
  clear h1 h2
  rcases hn with rfl | rfl | rfl | rfl | rfl | rfl | rfl | rfl | rfl | rfl | rfl | rfl
  all_goals
    go_enter Try.func105, Try.ntmps105
    go_wp2
    go_ret2
    exact ⟨rfl, rfl⟩

set_option maxRecDepth 100000 in
set_option maxHeartbeats 1000000 in
theorem mulU (n : Nat) (w : World) (h1 : 1 ≤ n) (h2 : n ≤ 12) : Calls Try.prog 102 #[.int .u64 1, .int .u64 n] w fun e w' => e = .returned (.tuple #[.int .u64 0, .int .u64 n]) ∧ w = w' := by
  go_enter Try.func102, Try.ntmps102
  go_wp2_with (first | (go_at_call 105; refine (mul64 _ _ h1 h2).mono ?_; rintro e w' ⟨rfl, rfl⟩))
  go_ret2
  exact ⟨rfl, rfl⟩

/-- A row of n integers of which the first k are x. -/
def repL (x : Int) (k n : Nat) : List Value := List.replicate k (.int .i64 x) ++ List.replicate (n - k) (.int .i64 0)
theorem repL_splice (x : Int) (k n m : Nat) (hk : k ≤ n) (hm : k + m ≤ n) : splice (repL x k n) k (List.replicate m (.int .i64 x)) = repL x (k + m) n := by
  unfold splice repL
  rw [List.take_left' (by simp), List.drop_append, List.length_replicate, List.length_replicate]
  have e1 : List.drop (k + m) (List.replicate k (Value.int IntKind.i64 x)) = [] := by simp
  rw [e1, List.nil_append, List.drop_replicate, ← List.append_assoc, List.replicate_append_replicate]
  congr 2
  omega
theorem repL_made (x : Int) (n : Nat) : (madeCells #[.int .i64 0] n) = (repL x 0 n).toArray := by
  apply Array.ext'
  rw [toList_madeCells_one]
  simp [repL]
theorem own_repL (w : World) (B g n : Nat) (x : Int) (hg : w.heap[g]? = some (.cells (repL x n n).toArray 2 (0, 0))) (hB : B ≤ g) (hn : n ≤ maxLen) : Own w B (.slice (some ⟨g, 0, none⟩) n n) ((List.range n).map fun _ => x) := by
  refine ⟨by simp, .inr ⟨g, n, _, by simp, hB, hg, by simp, hn, by simp [repL], ?_⟩⟩
  simp [repL]
  apply List.ext_getElem
  · simp
  · intro i h1 h2; simp

theorem one_cell {w : World} {a : Addr} {u : Value} (h : w.cell? a = some u) : ∀ j v, [u][j]? = some v → w.cell? (a.add j) = some v := by
  intro j v hj
  match j, hj with
  | 0, hj =>
    simp at hj
    subst hj
    simpa [Addr.add] using h
theorem one_one {x : Int} : ∀ v ∈ [Value.int IntKind.i64 x], v.oneCell' = true := by
  intro v hv; simp at hv; subst hv; rfl

theorem one_lit (w : World) (x : Int) : (w.alloc (.cells #[.int .i64 x] 2)).cell? ⟨w.heap.size, 0, none⟩ = some (.int .i64 x) := cell_one_new w (.int .i64 x) _ 0 _ rfl
theorem rep_one {x : Int} {m : Nat} : ∀ v ∈ List.replicate m (Value.int IntKind.i64 x), v.oneCell' = true := by
  intro v hv; rw [List.mem_replicate] at hv; rw [hv.2]; rfl
theorem rep_cells {w : World} {g k n m : Nat} {x : Int} {T : TypeId} (h : w.heap[g]? = some (.cells (repL x k n).toArray T (0, 0))) (hk : k ≤ n) (hm : m ≤ k) : ∀ j v, (List.replicate m (Value.int IntKind.i64 x))[j]? = some v → w.cell? ((⟨g, 0, none⟩ : Addr).add j) = some v := by
  intro j v hj
  rw [List.getElem?_replicate] at hj
  split at hj
  · next hlt =>
    injection hj with hj
    subst hj
    have e : (⟨g, 0, none⟩ : Addr).add j = ⟨g, j, none⟩ := by cases j <;> simp [Addr.add]
    rw [e]
    simp only [World.cell?, h]
    simp [repL, List.getElem?_append, show j < k by omega]
  · cases hj

set_option maxRecDepth 100000 in
set_option maxHeartbeats 1000000 in
theorem repeat1 (g n cap : Nat) (x : Int) (w : World) (h1 : 1 ≤ n) (h2 : n ≤ 12) (hc : w.cell? ⟨g, 0, none⟩ = some (.int .i64 x)) (hg : g < w.heap.size) :
    Calls Try.prog 86 #[.slice (some ⟨g, 0, none⟩) 1 cap, .int .i64 n] w fun e w' => e = .returned (.slice (some ⟨w.heap.size, 0, none⟩) n n) ∧ Own w' w.heap.size (.slice (some ⟨w.heap.size, 0, none⟩) n n) ((List.range n).map fun _ => x) ∧ Below w.heap.size w w' := by
  have hmk := run_make_row' (P := Try.prog) 24 2 (.int .i64 0) 8 Try.underlying24 info64 rfl .i64 .i64 n (by omega) (by omega)
  have HC := Lib.hid hc
  have hsz : (Try.prog.info? 2).map (·.size) = some 1 := by kernel_rfl
  have HS := Lib.hid hsz
  clear hc hsz
  go_enter Try.func86, Try.ntmps86
  go_wp2_with fail
  refine (mulU n _ h1 h2).mono ?_
  rintro e w' ⟨rfl, rfl⟩
  have hW1 : Hid ((w.alloc (.cells (madeCells #[.int .i64 0] n) 2)).heap[w.heap.size]? = some (.cells (repL x 0 n).toArray 2 (0, 0))) := by
    show _ = _
    rw [repL_made x n]
    show (w.heap.push _)[w.heap.size]? = _
    simp
  have hcell : Hid ((w.alloc (.cells (madeCells #[.int .i64 0] n) 2)).cell? ⟨g, 0, none⟩ = some (.int .i64 x)) := by
    show _ = _
    rw [(b_alloc w _).cell (p := ⟨g, 0, none⟩) hg]; exact HC.out
  go_wp2_with (with_reducible refine wpList_copy_splice rfl (.tmp 31) (.tmp 32) 24 24 rfl 2 Try.underlying24 HS.out (some ⟨w.heap.size, 0, none⟩) (some ⟨g, 0, none⟩) n n 1 cap rfl rfl w.heap.size 0 (repL x 0 n) 2 hW1.out [.int .i64 x] ?hn ?hpos ?hfit ?hone w.heap.size w (b_alloc w _) (Nat.le_refl _) ?_)
  case hn => exact (Nat.min_eq_left h1).symm
  case hpos =>
    intro j v hj
    match j, hj with
    | 0, hj =>
      simp at hj
      subst hj
      exact HC.out
  case hfit => simp [repL]; omega
  case hone => exact one_one
  intro w1 hg1 hb1
  have HG1 : Hid (w1.heap[w.heap.size]? = some (.cells (repL x 1 n).toArray 2 (0, 0))) := by
    have := hg1.out
    rw [show [Value.int .i64 x] = List.replicate 1 (.int .i64 x) from rfl, repL_splice x 0 n 1 (by omega) (by omega)] at this
    exact this
  have HB1 := Lib.hid hb1
  clear hg1 hb1 hW1 hcell
  go_wp2
  go_loopw [8] (fun i wr => ∃ k : Nat, 1 ≤ k ∧ k ≤ n ∧ i = .int .i64 k ∧ Hid (wr.heap[w.heap.size]? = some (.cells (repL x k n).toArray 2 (0, 0))) ∧ Below w.heap.size w wr) (fun i _ => n - (intOf i).toNat)
  case atStart => exact ⟨1, Nat.le_refl _, h1, rfl, HG1, HB1.out⟩
  case round =>
    obtain ⟨k, hk1, hk, rfl, HG, hb⟩ := hrel
    have HB := Lib.hid hb
    clear hb
    by_cases hlt : k < n
    · have hne : ¬ n = k := by omega
      have hki : (k : Int) < (n : Int) := by omega
      have hkn : k ≤ n := by omega
      go_wp2
      obtain ⟨m, hm⟩ : ∃ m, m = min k (n - k) := ⟨_, rfl⟩
      have hm1 : 1 ≤ m := by omega
      have hm2 : m ≤ k := by omega
      have hm3 : k + m ≤ n := by omega
      have HM := Lib.hid (rep_cells (x := x) HG.out hkn hm2)
      have HMm := Lib.hid hm
      have HN := Lib.hid (repL_splice x k n m hkn hm3)
      clear hm
      have hw : IntKind.i64.wrap ((k : Int) + (m : Int)) = (k : Int) + (m : Int) := IntWalk.i64_in _ (by omega)
      go_region_law (refine step_copy_splice rfl (.tmp 41) (.tmp 44) 24 24 rfl 2 Try.underlying24 HS.out (some ⟨w.heap.size, k, none⟩) (some ⟨w.heap.size, 0, none⟩) (n - k) (n - k) k n (by go_simp) (by go_simp) w.heap.size k (repL x k n) 2 HG.out (List.replicate m (.int .i64 x)) (by rw [List.length_replicate]; exact HMm.out) (fun _ => ⟨rfl, _, rfl, HM.out⟩) (by simp [repL]; omega) rep_one w.heap.size w HB.out.drew (Nat.le_refl _) ?_; intro w4 hg4 hb4)
      have HG4 : Hid (w4.heap[w.heap.size]? = some (.cells (repL x (k + m) n).toArray 2 (0, 0))) := by
        have := hg4.out
        rw [HN.out] at this
        exact this
      have HB4 := Lib.hid hb4
      clear hg4 hb4 hw
      go_simp
      go_wp2
      go_roundw
      case rel => exact ⟨k + m, by omega, by omega, vi (by omega), HG4, HB4.out⟩
      case measure => simp [intOf]; omega
    · obtain rfl : k = n := by omega
      go_wp2
      go_ret
      exact ⟨rfl, own_repL _ _ _ _ _ HG.out (Nat.le_refl _) (by unfold maxLen; omega), HB.out⟩
set_option maxRecDepth 100000 in
set_option maxHeartbeats 1000000 in
theorem mul64_0 (w : World) : Calls Try.prog 105 #[.int .u64 1, .int .u64 0] w fun e w' => e = .returned (.tuple #[.int .u64 0, .int .u64 0]) ∧ w = w' := by
  go_enter Try.func105, Try.ntmps105
  go_wp2
  go_ret2
  exact ⟨rfl, rfl⟩
set_option maxRecDepth 100000 in
set_option maxHeartbeats 1000000 in
theorem mulU_0 (w : World) : Calls Try.prog 102 #[.int .u64 1, .int .u64 0] w fun e w' => e = .returned (.tuple #[.int .u64 0, .int .u64 0]) ∧ w = w' := by
  go_enter Try.func102, Try.ntmps102
  go_wp2_with (first | (go_at_call 105; refine (mul64_0 _).mono ?_; rintro e w' ⟨rfl, rfl⟩))
  go_ret2
  exact ⟨rfl, rfl⟩
set_option maxRecDepth 100000 in
set_option maxHeartbeats 1000000 in
theorem repeat0 (g cap : Nat) (x : Int) (w : World) (hc : w.cell? ⟨g, 0, none⟩ = some (.int .i64 x)) :
    Calls Try.prog 86 #[.slice (some ⟨g, 0, none⟩) 1 cap, .int .i64 0] w fun e w' => e = .returned (.slice (some ⟨w.heap.size, 0, none⟩) 0 0) ∧ Own w' w.heap.size (.slice (some ⟨w.heap.size, 0, none⟩) 0 0) [] ∧ Below w.heap.size w w' := by
  have hmk : ∀ w : World, Sem.run Try.prog (Instr.makeSlice 24 (.int .i64 0) (.int .i64 0)) w = .ok (.slice (some ⟨w.heap.size, 0, none⟩) 0 0) (w.alloc (.cells (madeCells #[.int .i64 0] 0) 2)) := run_make_row' (P := Try.prog) 24 2 (.int .i64 0) 8 Try.underlying24 info64 rfl .i64 .i64 0 (by omega) (by omega)
  have hsz : (Try.prog.info? 2).map (·.size) = some 1 := by kernel_rfl
  have HS := Lib.hid hsz
  have HC := Lib.hid hc
  clear hc hsz
  go_enter Try.func86, Try.ntmps86
  go_wp2_with fail
  refine (mulU_0 _).mono ?_
  rintro e w' ⟨rfl, rfl⟩
  have hW1 : Hid ((w.alloc (.cells (madeCells #[.int .i64 0] 0) 2)).heap[w.heap.size]? = some (.cells (repL x 0 0).toArray 2 (0, 0))) := by
    show _ = _
    rw [repL_made x 0]
    show (w.heap.push _)[w.heap.size]? = _
    simp
  go_wp2_with (with_reducible refine wpList_copy_splice rfl (.tmp 31) (.tmp 32) 24 24 rfl 2 Try.underlying24 HS.out (some ⟨w.heap.size, 0, none⟩) (some ⟨g, 0, none⟩) 0 0 1 cap rfl rfl w.heap.size 0 (repL x 0 0) 2 hW1.out [] ?hn ?hpos ?hfit ?hone w.heap.size w (b_alloc w _) (Nat.le_refl _) ?_)
  case hn => rfl
  case hfit => simp [repL]
  case hone => intro v hv; simp at hv
  intro w1 hg1 hb1
  have HG1 : Hid (w1.heap[w.heap.size]? = some (.cells (repL x 0 0).toArray 2 (0, 0))) := by
    have := hg1.out
    exact this
  have HB1 := Lib.hid hb1
  clear hg1 hb1 hW1
  go_wp2
  go_loopw [8] (fun i wr => i = .int .i64 0 ∧ wr = w1) (fun _ _ => 0)
  case atStart => exact ⟨rfl, rfl⟩
  case round =>
    obtain ⟨rfl, rfl⟩ := hrel
    go_wp2
    go_ret
    exact ⟨rfl, own_repL _ _ _ 0 x HG1.out (Nat.le_refl _) (by unfold maxLen; omega), HB1.out⟩
end Go.Proofs.Ytlljnfljcdljaaa.V

namespace Go.Proofs.Ytlljnfljcdljaaa
namespace M
/-- The list shifted such that its greatest element is 0 if it is finite. -/
def nrm (x : List Int) : List Int := shvL x (-(maxL x))
/-- The difference at the first index at which both have a finite element. -/
def gapI : List Int → List Int → Int
  | a :: x, b :: y => if a ≠ -1000000000000000 ∧ b ≠ -1000000000000000 then b - a else gapI x y
  | _, _ => 0
def gapB (x y : List Int) : Bool := decide (shvL x (gapI x y) = y)
theorem gapI_spec : ∀ (x y : List Int), x.length = y.length → (∃ i, i < x.length ∧ x.getD i 0 ≠ -1000000000000000 ∧ y.getD i 0 ≠ -1000000000000000 ∧ gapI x y = y.getD i 0 - x.getD i 0) ∨ ((∀ i, i < x.length → x.getD i 0 = -1000000000000000 ∨ y.getD i 0 = -1000000000000000) ∧ gapI x y = 0)
  | [], [], _ => .inr ⟨fun i hi => absurd hi (Nat.not_lt_zero i), rfl⟩
  | [], b :: y, h => absurd h (by simp)
  | a :: x, [], h => absurd h (by simp)
  | a :: x, b :: y, h => by
    by_cases e : a ≠ -1000000000000000 ∧ b ≠ -1000000000000000
    · exact .inl ⟨0, by simp, e.1, e.2, by simp [gapI, e]⟩
    · have hg : gapI (a :: x) (b :: y) = gapI x y := by rw [gapI, if_neg e]
      rcases gapI_spec x y (by simpa using h) with ⟨i, hi, h1, h2, h3⟩ | ⟨h1, h2⟩
      · exact .inl ⟨i + 1, by simpa using hi, by simpa using h1, by simpa using h2, by rw [hg, h3]; simp⟩
      · refine .inr ⟨fun i hi => ?_, by rw [hg, h2]⟩
        cases i with
        | zero => simp only [List.getD_cons_zero]; omega
        | succ i => simpa using h1 i (by simpa using hi)
theorem maxL_foldl : ∀ (l : List Int) (m : Int), m ≤ l.foldl max m ∧ (∀ i, i < l.length → l.getD i 0 ≤ l.foldl max m) ∧ (l.foldl max m = m ∨ ∃ i, i < l.length ∧ l.getD i 0 = l.foldl max m)
  | [], m => ⟨Int.le_refl _, fun i hi => absurd hi (Nat.not_lt_zero i), .inl rfl⟩
  | a :: l, m => by
    obtain ⟨h1, h2, h3⟩ := maxL_foldl l (max m a)
    refine ⟨by rw [List.foldl_cons]; omega, fun i hi => ?_, ?_⟩
    · rw [List.foldl_cons]
      cases i with
      | zero => simp only [List.getD_cons_zero]; omega
      | succ i => simpa using h2 i (by simpa using hi)
    · rw [List.foldl_cons]
      rcases h3 with h3 | ⟨i, hi, h3⟩
      · rw [h3]
        rcases Int.le_total m a with e | e
        · exact .inr ⟨0, by simp, by rw [List.getD_cons_zero]; omega⟩
        · exact .inl (by omega)
      · exact .inr ⟨i + 1, by simpa using hi, by simpa using h3⟩
theorem maxL_ge {x : List Int} {i : Nat} (hi : i < x.length) : x.getD i 0 ≤ maxL x := (maxL_foldl x _).2.1 i hi
theorem maxL_low (x : List Int) : -1000000000000000 ≤ maxL x := (maxL_foldl x _).1
theorem maxL_mem (x : List Int) : maxL x = -1000000000000000 ∨ ∃ i, i < x.length ∧ x.getD i 0 = maxL x := (maxL_foldl x _).2.2
theorem list_ext0 {x y : List Int} (h : x.length = y.length) (h2 : ∀ i, i < x.length → x.getD i 0 = y.getD i 0) : x = y := by
  refine List.ext_getElem h fun i h1 h3 => ?_
  have := h2 i h1
  simpa [h1, h3] using this
theorem shv_eq {x y : List Int} {g d : Int} (h : x.length = y.length) : shvL x g = shvL y d ↔ ∀ i, i < x.length → times (x.getD i 0) g = times (y.getD i 0) d := by
  constructor
  · intro e i hi
    rw [← shv_get hi, e, shv_get (by omega)]
  · intro e
    exact list_ext0 (by rw [shv_len, shv_len, h]) fun i hi => by
      rw [shv_len] at hi
      rw [shv_get hi, shv_get (by omega)]; exact e i hi
theorem shv_is {x y : List Int} {g : Int} (h : x.length = y.length) : shvL x g = y ↔ ∀ i, i < x.length → times (x.getD i 0) g = y.getD i 0 := by
  constructor
  · intro e i hi
    rw [← shv_get hi, e]
  · intro e
    exact list_ext0 (by rw [shv_len, h]) fun i hi => by
      rw [shv_len] at hi
      rw [shv_get hi]; exact e i hi
def Vals (x : List Int) : Prop := ∀ i, i < x.length → isVal (x.getD i 0) = true
theorem maxL_vals {x : List Int} (h : Vals x) : isVal (maxL x) = true := by
  rcases maxL_mem x with e | ⟨i, hi, e⟩
  · rw [e]; rfl
  · rw [← e]; exact h i hi
/-- A list that is y shifted by g has the same pattern, and a greatest element shifted by g. -/
theorem nrm_of {x y : List Int} {g : Int} (hl : x.length = y.length) (hx : Vals x) (hy : Vals y) (hg : -10000000 ≤ g) (hg2 : g ≤ 10000000) (h : shvL x g = y) : nrm x = nrm y ∧ times (maxL x) g = maxL y := by
  rw [shv_is hl] at h
  have hm : times (maxL x) g = maxL y := by
    have v := isVal_t (maxL_vals hx)
    have v2 := isVal_t (maxL_vals hy)
    rcases maxL_mem x with e | ⟨i, hi, e⟩
    · rcases maxL_mem y with e2 | ⟨j, hj, e2⟩
      · rw [e, e2]; rfl
      · have h3 := h j (by omega)
        have h4 := maxL_ge (x := x) (i := j) (by omega)
        have h5 := isVal_t (hx j (by omega))
        have h6 : x.getD j 0 = -1000000000000000 := by omega
        rw [h6] at h3
        rw [e, ← e2, ← h3]
    · have h3 := h i hi
      rw [e] at h3
      have h4 := maxL_ge (x := y) (i := i) (by omega)
      rw [← h3] at h4
      rcases maxL_mem y with e2 | ⟨j, hj, e2⟩
      · have h5 := maxL_low y
        unfold times at h4 ⊢
        split
        · exact e2.symm
        · rename_i hn
          rw [if_neg hn, e2] at h4
          omega
      · have h5 := h j (by omega)
        have h6 := maxL_ge (x := x) (i := j) (by omega)
        have h7 := isVal_t (hx j (by omega))
        rw [e2] at h5
        unfold times at h5 h4 ⊢
        split at h5 <;> split at h4 <;> split <;> omega
  refine ⟨?_, hm⟩
  unfold nrm
  rw [shv_eq hl]
  intro i hi
  have h3 := h i hi
  have v := isVal_t (maxL_vals hx)
  have v2 := isVal_t (maxL_vals hy)
  have v3 := isVal_t (hx i hi)
  have v4 := isVal_t (hy i (by omega))
  have v5 := maxL_ge hi
  rw [← hm] at v2 ⊢
  rw [← h3] at v4 ⊢
  unfold times at *
  split <;> split <;> split at * <;> omega
theorem gapI_bd {x y : List Int} (hl : x.length = y.length) (hx : Vals x) (hy : Vals y) : -2000000 ≤ gapI x y ∧ gapI x y ≤ 2000000 := by
  rcases gapI_spec x y hl with ⟨i, hi, h1, h2, h3⟩ | ⟨h1, h2⟩
  · have v3 := isVal_t (hx i hi)
    have v4 := isVal_t (hy i (by omega))
    omega
  · omega
theorem nrm_gap {x y : List Int} (hl : x.length = y.length) (hx : Vals x) (hy : Vals y) (h : nrm x = nrm y) : gapI x y = maxL y - maxL x ∧ shvL x (gapI x y) = y := by
  unfold nrm at h
  rw [shv_eq hl] at h
  have v := isVal_t (maxL_vals hx)
  have v2 := isVal_t (maxL_vals hy)
  have hb : ∀ i, i < x.length → (x.getD i 0 = -1000000000000000 ↔ y.getD i 0 = -1000000000000000) := fun i hi => by
    have h3 := h i hi
    have v3 := isVal_t (hx i hi)
    have v4 := isVal_t (hy i (by omega))
    unfold times at h3
    split at h3 <;> split at h3 <;> omega
  have hd : ∀ i, i < x.length → x.getD i 0 ≠ -1000000000000000 → y.getD i 0 - x.getD i 0 = maxL y - maxL x := fun i hi hne => by
    have h3 := h i hi
    have v3 := isVal_t (hx i hi)
    have v4 := isVal_t (hy i (by omega))
    have v5 := maxL_ge hi
    have v6 := maxL_ge (x := y) (i := i) (by omega)
    have := hb i hi
    unfold times at h3
    split at h3 <;> split at h3 <;> omega
  have hG : gapI x y = maxL y - maxL x := by
    rcases gapI_spec x y hl with ⟨i, hi, h1, h2, h3⟩ | ⟨h1, h2⟩
    · rw [h3]; exact hd i hi h1
    · rw [h2]
      rcases maxL_mem x with e | ⟨i, hi, e⟩
      · rcases maxL_mem y with e2 | ⟨j, hj, e2⟩
        · omega
        · have h4 := h1 j (by omega)
          have h5 := hb j (by omega)
          omega
      · have h4 := h1 i hi
        have h5 := hb i hi
        have h6 : x.getD i 0 = -1000000000000000 := by omega
        rcases maxL_mem y with e2 | ⟨j, hj, e2⟩
        · omega
        · have h7 := h1 j (by omega)
          have h8 := hb j (by omega)
          omega
  refine ⟨hG, ?_⟩
  rw [shv_is hl]
  intro i hi
  have h1 := hb i hi
  have h2 := hd i hi
  rw [← hG] at h2
  obtain ⟨b1, b2⟩ := gapI_bd hl hx hy
  unfold times
  split <;> omega
theorem gapB_iff {x y : List Int} (hl : x.length = y.length) (hx : Vals x) (hy : Vals y) : gapB x y = true ↔ nrm x = nrm y := by
  unfold gapB
  rw [decide_eq_true_iff]
  constructor
  · intro h
    obtain ⟨b1, b2⟩ := gapI_bd hl hx hy
    exact (nrm_of hl hx hy (by omega) (by omega) h).1
  · intro h
    exact (nrm_gap hl hx hy h).2
/-- IsRepeat's test, both ways. -/
theorem shv_iff {x y : List Int} {g : Int} (hl : x.length = y.length) (hx : Vals x) (hy : Vals y) (hg : -10000000 ≤ g) (hg2 : g ≤ 10000000) : shvL x g = y ↔ (nrm x = nrm y ∧ times (maxL x) g = maxL y) := by
  constructor
  · exact nrm_of hl hx hy hg hg2
  · rintro ⟨h1, h2⟩
    obtain ⟨h3, h4⟩ := nrm_gap hl hx hy h1
    rw [shv_is hl] at h4 ⊢
    intro i hi
    have h5 := h4 i hi
    have v3 := isVal_t (hx i hi)
    have v5 := maxL_ge hi
    have v := isVal_t (maxL_vals hx)
    have v2 := isVal_t (maxL_vals hy)
    rw [h3] at h5
    unfold times at h5 h2 ⊢
    split at h5 <;> split at h2 <;> split <;> omega
end M
end Go.Proofs.Ytlljnfljcdljaaa

namespace Go.Proofs.Ytlljnfljcdljaaa.V
open Go.RowKit

theorem retB {a b : Bool} (h : a = b) : Ending.returned (.bool a) = .returned (.bool b) := by rw [h]
theorem retI {a b : Int} {k : IntKind} (h : a = b) : Ending.returned (.int k a) = .returned (.int k b) := by rw [h]
theorem retI2 {a b c d : Int} {k l : IntKind} (h : a = c) (h' : b = d) : Ending.returned (.tuple #[.int k a, .int l b]) = .returned (.tuple #[.int k c, .int l d]) := by rw [h, h']
theorem retP {a b : Int} {p : Int × Int} {k l : IntKind} (h : p = (a, b)) : Ending.returned (.tuple #[.int k a, .int l b]) = .returned (.tuple #[.int k p.1, .int l p.2]) := by rw [h]

set_option maxRecDepth 100000 in
set_option maxHeartbeats 400000 in
theorem isFinite (a : Int) (w : World) : Calls Try.prog 94 #[.int .i64 a] w fun e w' => e = .returned (.bool (M.isFin a)) ∧ w = w' := by
  go_enter Try.func94, Try.ntmps94
  go_wp2
  all_goals
    go_ret
    refine ⟨retB ?_, rfl⟩
    unfold M.isFin
    grind

set_option maxRecDepth 100000 in
set_option maxHeartbeats 400000 in
theorem isValid (a : Int) (w : World) : Calls Try.prog 88 #[.int .i64 a] w fun e w' => e = .returned (.bool (M.isVal a)) ∧ w = w' := by
  go_enter Try.func88, Try.ntmps88
  go_wp2_with (first | (go_at_call 94; refine (isFinite _ _).mono ?_; rintro e w' ⟨rfl, rfl⟩))
  all_goals
    go_ret
    refine ⟨retB ?_, rfl⟩
    unfold M.isVal
    grind

set_option maxRecDepth 100000 in
set_option maxHeartbeats 400000 in
theorem isValue (a : Int) (w : World) : Calls Try.prog 60 #[.int .i64 a] w fun e w' => e = .returned (.bool (M.isVal a)) ∧ w = w' := by
  go_enter Try.func60, Try.ntmps60
  go_wp2_with (first | (go_at_call 88; refine (isValid _ _).mono ?_; rintro e w' ⟨rfl, rfl⟩))
  all_goals
    go_ret
    exact ⟨rfl, rfl⟩

set_option maxRecDepth 100000 in
set_option maxHeartbeats 400000 in
theorem sIn (a b c : Int) (w : World) : Calls Try.prog 97 #[.int .i64 a, .int .i64 b, .int .i64 c] w fun e w' => e = .returned (.bool (decide (b ≤ a) && decide (a ≤ c))) ∧ w = w' := by
  go_enter Try.func97, Try.ntmps97
  go_wp2
  all_goals
    go_ret
    refine ⟨retB ?_, rfl⟩
    grind

set_option maxRecDepth 100000 in
set_option maxHeartbeats 400000 in
theorem sFinite (a : Int) (w : World) : Calls Try.prog 90 #[.int .i64 a] w fun e w' => e = .returned (.bool (M.isFin a)) ∧ w = w' := by
  go_enter Try.func90, Try.ntmps90
  go_wp2_with (first | (go_at_call 97; refine (sIn _ _ _ _).mono ?_; rintro e w' ⟨rfl, rfl⟩))
  all_goals
    go_ret
    exact ⟨retB (by unfold M.isFin; grind), rfl⟩

set_option maxRecDepth 100000 in
set_option maxHeartbeats 400000 in
theorem sIsValue (a : Int) (w : World) : Calls Try.prog 65 #[.int .i64 a] w fun e w' => e = .returned (.bool (M.isVal a)) ∧ w = w' := by
  go_enter Try.func65, Try.ntmps65
  go_wp2_with (first | (go_at_call 90; refine (sFinite _ _).mono ?_; rintro e w' ⟨rfl, rfl⟩))
  all_goals
    go_ret
    refine ⟨retB ?_, rfl⟩
    unfold M.isVal
    grind

end Go.Proofs.Ytlljnfljcdljaaa.V

namespace Go.Proofs.Ytlljnfljcdljaaa.V
open Go.RowKit

theorem append1 (w : World) {ops : Array Oper} {rest : List Oper} {o : Oper} {a : Act} {Q : Exit → Act → World → Prop} (hgd : o.guard = none) (s x : Operand)
    (ho : o.op = .call { callee := .builtin .append, args := #[s, x], argTypes := #[24, 24] }) (B : Nat) (v : Value) (l : List Int) (y : Int) (n : Nat) (hn : l.length = n) (hs : a.eval s = v) (hown : Own w B v l)
    (hx : a.eval x = .slice (some ⟨w.heap.size, 0, none⟩) 1 1) (hlen : l.length ≤ 2000000) (hB : B ≤ w.heap.size)
    (h : ∀ b' c' w', Own w' B (.slice b' (n + 1) c') (l ++ [y]) → Below B w w' → (∀ k, k < w.heap.size → v.ownBlock ≠ some k → w'.heap[k]? = w.heap[k]?) → wpList Try.prog ops Q rest (a.put o.dst (.slice b' (n + 1) c')) w') :
    wpList Try.prog ops Q (o :: rest) a (w.alloc (.cells #[.int .i64 y] 2)) := by
  subst hn
  obtain ⟨i0, hi, hz0, hz1, hz2⟩ := info_parts info64
  have hown2 : (w.alloc (.cells #[.int .i64 y] 2)).ownsRow B 2 1 v l.length (l.map (Value.int .i64)) := World.ownsRow.alloc hown _
  refine wpList_append_own_at (w := w.alloc (.cells #[.int .i64 y] 2)) hgd s x 24 ho B 2 i0 (.int .i64 0) 1 8 Try.underlying24 hi hz0 hz1 hz2 rfl (by decide) v _ _ hs hown2 ⟨w.heap.size, 0, none⟩ 1 1 [.int .i64 y] hx rfl (cell_one_new _ _ _) ?c2 ?c3 ?c4 ?c5 ?_
  case c2 => intro u hu; simp at hu; subst hu; rfl
  case c3 => unfold maxLen; omega
  case c4 => omega
  case c5 => simp; omega
  · intro v' w' hown' hgrow hz hvb
    have ho' : Own w' B v' (l ++ [y]) := by
      show w'.ownsRow B _ 1 v' (l ++ [y]).length ((l ++ [y]).map (Value.int .i64))
      simpa using hown'
    obtain ⟨b', c', hv', _⟩ := own_form ho'
    rw [show (l ++ [y]).length = l.length + 1 by simp] at hv'
    subst hv'
    refine h b' c' w' ho' (((Below.refl B w).alloc hB _).grown hgrow (by simp; omega) (fun k hk => (own_lt hown hk).1)) (fun k hk hne => ?_)
    obtain ⟨g1, g2, g3, g4, g5⟩ := hgrow
    rw [g5 k (by simp; omega) (fun e => hne e.symm), Below.heap_alloc _ _ _ hk]

theorem appendRow (w0 w : World) {ops : Array Oper} {rest : List Oper} {o : Oper} {a : Act} {Q : Exit → Act → World → Prop} (hgd : o.guard = none) (s x : Operand)
    (ho : o.op = .call { callee := .builtin .append, args := #[s, x], argTypes := #[58, 58] }) (B : Nat) (v rv : Value) (R : List (List Int)) (l : List Int) (n : Nat) (hn : R.length = n) (hs : a.eval s = v) (hown : OwnM w0 B v R) (hb : Below w0.heap.size w0 w) (hro : Own w w0.heap.size rv l)
    (hx : a.eval x = .slice (some ⟨w.heap.size, 0, none⟩) 1 1) (hlen : R.length ≤ 2000000) (hB : B ≤ w0.heap.size)
    (h : ∀ b' c' w', OwnM w' B (.slice b' (n + 1) c') (R ++ [l]) → Below B w w' → (∀ k, k < w.heap.size → v.ownBlock ≠ some k → w'.heap[k]? = w.heap[k]?) → wpList Try.prog ops Q rest (a.put o.dst (.slice b' (n + 1) c')) w') :
    wpList Try.prog ops Q (o :: rest) a (w.alloc (.cells #[rv] 24)) := by
  subst hn
  obtain ⟨i0, hi, hz0, hz1, hz2⟩ := info_parts infoS64
  have hsz := hb.size
  obtain ⟨V, h1, h2, h3⟩ := hown
  have hwV : w.ownsRow B 24 1 v R.length V := ownsRow_keep h2 (fun k hv => hb.block k (own_lt h2 hv).2)
  have hown2 : (w.alloc (.cells #[rv] 24)).ownsRow B 24 1 v R.length V := World.ownsRow.alloc hwV _
  refine wpList_append_own_at (w := w.alloc (.cells #[rv] 24)) hgd s x 58 ho B 24 i0 (.slice none 0 0) 1 24 Try.underlying58 hi hz0 hz1 hz2 rfl (by decide) v _ _ hs hown2 ⟨w.heap.size, 0, none⟩ 1 1 [rv] hx rfl (cell_one_new _ _ _) ?c2 ?c3 ?c4 ?c5 ?_
  case c2 =>
    intro u hu; simp at hu; subst hu
    obtain ⟨b', c', hv', _⟩ := own_form hro
    rw [hv']; rfl
  case c3 => unfold maxLen; omega
  case c4 => omega
  case c5 => simp; omega
  · intro v' w' hownV' hgrow hz hvb
    obtain ⟨g1, g2, g3, g4, g5⟩ := hgrow
    have hg : ∀ k, k < w.heap.size → v.ownBlock ≠ some k → w'.heap[k]? = w.heap[k]? := fun k hk hne => by
      rw [g5 k (by simp; omega) (fun e => hne e.symm), Below.heap_alloc _ _ _ hk]
    have hM : OwnM w' B v' (R ++ [l]) := by
      exact OwnV.snoc (q := (w.alloc (.cells #[rv] 24)).heap.size) ⟨h1, h2, h3⟩ hb hB hro hownV' hg hvb (by simp)
    obtain ⟨b', c', hv', _⟩ := hM.form
    rw [show (R ++ [l]).length = R.length + 1 by simp] at hv'
    subst hv'
    exact h b' c' w' hM (((Below.refl B w).alloc (by omega) _).grown ⟨g1, g2, g3, g4, g5⟩ (by simp; omega) (fun k hk => (own_lt h2 hk).1)) hg
end Go.Proofs.Ytlljnfljcdljaaa.V

namespace Go.Proofs.Ytlljnfljcdljaaa.V
open Go.RowKit

/-- A new matrix r with n rows. -/
def MPost (n : Nat) (r : List (List Int)) (w : World) (e : Ending) (w' : World) : Prop :=
  ∃ a cap, e = .returned (.slice a n cap) ∧ OwnM w' w.heap.size (.slice a n cap) r ∧ Below w.heap.size w w'
/-- A new matrix and a code. -/
def MRes (r : List (List Int) × Int) (w : World) (e : Ending) (w' : World) : Prop :=
  ∃ a n cap, e = .returned (.tuple #[.slice a n cap, .int .i64 r.2]) ∧ OwnM w' w.heap.size (.slice a n cap) r.1 ∧ Below w.heap.size w w'

theorem MRes.nil {r : List (List Int) × Int} {c : Int} {w w' : World} (hr : r = ([], c)) (hb : Below w.heap.size w w') : MRes r w (.returned (.tuple #[.slice none 0 0, .int .i64 c])) w' := by
  subst hr
  exact ⟨none, 0, 0, rfl, ownM_nil _ _, hb⟩

set_option maxRecDepth 100000 in
set_option maxHeartbeats 1000000 in
theorem sBottom (m n : Nat) (w : World) (hm : m ≤ 100) (hn : n ≤ 100) :
    Calls Try.prog 56 #[.int .i64 m, .int .i64 n] w (MPost m (M.botM m n) w) := by
  have hO0 : Hid (OwnM (w.alloc (.cells #[] 24)) w.heap.size (.slice (some ⟨w.heap.size, 0, none⟩) 0 0) []) := ownM_lit0 w _ (Nat.le_refl _)
  go_enter Try.func56, Try.ntmps56
  go_wp2
  go_loopw [5, 6] (fun out i wr => ∃ k : Nat, k ≤ m ∧ i = .int .i64 k ∧ ∃ b c, out = .slice b k c ∧ OwnM wr w.heap.size (.slice b k c) (M.botM k n) ∧ Below w.heap.size w wr) (fun _ i _ => m - (intOf i).toNat)
  case atStart => exact ⟨0, Nat.zero_le _, rfl, _, _, rfl, hO0.out, b_alloc _ _⟩
  case round =>
    obtain ⟨k, hk, rfl, b, c, rfl, hO, hb⟩ := hrel
    obtain ⟨wo, rfl⟩ : ∃ x, x = wr := ⟨_, rfl⟩
    have HO := Lib.hid hO
    have HB := Lib.hid hb
    clear hO hb hO0
    by_cases hlt : k < m
    · have hki : (k : Int) < (m : Int) := by omega
      have hr0 : Hid (Own (wo.alloc (.cells #[] 2)) wo.heap.size (.slice (some ⟨wo.heap.size, 0, none⟩) 0 0) []) := own_lit0 wo _ (Nat.le_refl _)
      go_wp2
      go_loopw [7, 8] (fun row j wi => ∃ t : Nat, t ≤ n ∧ j = .int .i64 t ∧ ∃ b c, row = .slice b t c ∧ Own wi wo.heap.size (.slice b t c) ((List.range t).map fun _ => -1000000000000000) ∧ Below wo.heap.size wo wi) (fun _ j _ => n - (intOf j).toNat)
      case atStart => exact ⟨0, Nat.zero_le _, rfl, _, _, rfl, hr0.out, b_alloc _ _⟩
      case round =>
        obtain ⟨t, ht, rfl, b1, c1, rfl, hO1, hb1⟩ := hrel
        have HO1 := Lib.hid hO1
        have HB1 := Lib.hid hb1
        clear hO1 hb1 hr0
        by_cases htn : t < n
        · have hti : (t : Int) < (n : Int) := by omega
          have hsz := HB1.out.size
          go_wp2_with (at_builtin; refine append1 _ rfl (.tmp 21) (.tmp 22) rfl wo.heap.size _ _ _ t HO1.out.len.symm rfl HO1.out rfl (by simp; omega) (by omega) ?_)
          intro b2 c2 w2 hO2 hb2 _
          have HO2 := Lib.hid hO2
          have HB2 := Lib.hid (HB1.out.trans hb2)
          clear hO2 hb2
          go_wp2
          go_roundw
          case rel => exact ⟨t + 1, by omega, by go_num, _, _, rfl, by rw [M.range_snoc]; exact HO2.out, HB2.out⟩
          case measure => simp [intOf]; omega
        · obtain rfl : t = n := by omega
          have hs1 := HB.out.size
          go_wp2_with (at_builtin; refine appendRow wo _ rfl (.tmp 24) (.tmp 26) rfl w.heap.size _ _ _ _ k HO.out.len.symm rfl HO.out HB1.out HO1.out rfl (by simp [M.botM]; omega) hs1 ?_)
          intro b2 c2 w2 hO2 hb2 _
          have HO2 : Hid (OwnM w2 w.heap.size (.slice b2 (k + 1) c2) (M.botM (k + 1) t)) := by
            have := hO2
            simp only [M.botM, M.mk_length] at this
            rw [← M.mk_snoc] at this
            exact this
          clear hO2
          have hO2 := True.intro
          have HB2 := Lib.hid (HB.out.trans ((HB1.out.mono hs1).trans hb2))
          clear hO2 hb2
          go_wp2
          go_roundw
          case rel => exact ⟨k + 1, by omega, by go_num, _, _, rfl, HO2.out, HB2.out⟩
          case measure => simp [intOf]; omega
    · obtain rfl : k = m := by omega
      go_wp2
      go_ret
      exact ⟨_, _, rfl, HO.out, HB.out⟩



end Go.Proofs.Ytlljnfljcdljaaa.V

namespace Go.Proofs.Ytlljnfljcdljaaa.V
open Go.RowKit

set_option maxRecDepth 100000 in
set_option maxHeartbeats 400000 in
theorem plus (a b : Int) (w : World) : Calls Try.prog 63 #[.int .i64 a, .int .i64 b] w fun e w' => e = .returned (.int .i64 (max a b)) ∧ w = w' := by
  go_enter Try.func63, Try.ntmps63
  go_wp2
  all_goals
    go_ret
    exact ⟨retI (by omega), rfl⟩

set_option maxRecDepth 100000 in
set_option maxHeartbeats 400000 in
theorem sAll (a : Option Addr) (n cap : Nat) (l : List Int) (w : World) (h : Ints .i64 w a n l) :
    Calls Try.prog 69 #[.slice a n cap, .bool false] w fun e w' => e = .returned (.bool (l.all M.isVal)) ∧ w = w' := by
  obtain ⟨hl, hm, hr⟩ := h
  unfold maxLen at hm
  have HL := Lib.hid hl
  clear hl
  go_enter Try.func69, Try.ntmps69
  go_wp2
  go_loop [5] (fun i => ∃ k : Nat, k ≤ n ∧ i = .int .i64 k ∧ Hid ((l.take k).all M.isVal = true)) (fun i => n - (intOf i).toNat)
  case atStart => exact ⟨0, Nat.zero_le _, rfl, rfl⟩
  case round =>
    obtain ⟨k, hk, rfl, HA⟩ := hrel
    by_cases hlt : k < n
    · rcases hr with h0 | ⟨b, off, rfl, hbl, hc⟩
      · omega
      · have hck := hc k hlt
        have hsn := M.take_snoc l k (by have := HL.out; omega)
        obtain ⟨x, hx⟩ : ∃ x, x = l.getD k 0 := ⟨_, rfl⟩
        rw [← hx] at hck hsn
        have HX := Lib.hid hx
        have HS := Lib.hid hsn
        clear hc hx hsn
        by_cases hv : M.isVal x = true
        · have HA2 : Hid ((l.take (k + 1)).all M.isVal = true) := by show _ = _; rw [HS.out, M.all_snoc, HA.out, hv]; rfl
          go_wp2_with (first | (go_at_call 65; refine (sIsValue _ _).mono ?_; rintro e w' ⟨rfl, rfl⟩))
          go_round
          case rel => exact ⟨k + 1, by omega, by go_num, HA2⟩
          case measure => simp [intOf]; omega
        · simp only [Bool.not_eq_true] at hv
          have HF : Hid (l.all M.isVal = false) := M.all_false _ l k (by have := HL.out; omega) (by rw [← HX.out]; exact hv)
          go_wp2_with (first | (go_at_call 65; refine (sIsValue _ _).mono ?_; rintro e w' ⟨rfl, rfl⟩))
          go_ret
          exact ⟨retB (by rw [HF.out]), rfl⟩
    · have hkn : k = n := by omega
      subst hkn
      have HT : Hid (l.take k = l) := M.take_all l k (by have := HL.out; omega)
      clear hr
      go_wp2
      go_ret
      exact ⟨retB (by rw [← HT.out, HA.out]), rfl⟩

set_option maxRecDepth 100000 in
set_option maxHeartbeats 400000 in
theorem areValues (a : Option Addr) (n cap : Nat) (l : List Int) (w : World) (h : Ints .i64 w a n l) :
    Calls Try.prog 67 #[.slice a n cap] w fun e w' => e = .returned (.bool (l.all M.isVal)) ∧ w = w' := by
  obtain ⟨hl, hm, hr⟩ := h
  unfold maxLen at hm
  have HL := Lib.hid hl
  clear hl
  go_enter Try.func67, Try.ntmps67
  go_wp2
  go_loop [4, 7] (fun _ i => ∃ k : Nat, k ≤ n ∧ i = .int .i64 k ∧ Hid ((l.take k).all M.isVal = true)) (fun _ i => n - (intOf i).toNat)
  case atStart => exact ⟨0, Nat.zero_le _, rfl, rfl⟩
  case round =>
    obtain ⟨k, hk, rfl, HA⟩ := hrel
    by_cases hlt : k < n
    · rcases hr with h0 | ⟨b, off, rfl, hbl, hc⟩
      · omega
      · have hck := hc k hlt
        have hsn := M.take_snoc l k (by have := HL.out; omega)
        obtain ⟨x, hx⟩ : ∃ x, x = l.getD k 0 := ⟨_, rfl⟩
        rw [← hx] at hck hsn
        have HX := Lib.hid hx
        have HS := Lib.hid hsn
        clear hc hx hsn
        by_cases hv : M.isVal x = true
        · have HA2 : Hid ((l.take (k + 1)).all M.isVal = true) := by show _ = _; rw [HS.out, M.all_snoc, HA.out, hv]; rfl
          go_wp2_with (first | (go_at_call 60; refine (isValue _ _).mono ?_; rintro e w' ⟨rfl, rfl⟩))
          go_round
          case rel => exact ⟨k + 1, by omega, by go_num, HA2⟩
          case measure => simp [intOf]; omega
        · simp only [Bool.not_eq_true] at hv
          have HF : Hid (l.all M.isVal = false) := M.all_false _ l k (by have := HL.out; omega) (by rw [← HX.out]; exact hv)
          go_wp2_with (first | (go_at_call 60; refine (isValue _ _).mono ?_; rintro e w' ⟨rfl, rfl⟩))
          go_ret
          exact ⟨retB (by rw [HF.out]), rfl⟩
    · have hkn : k = n := by omega
      subst hkn
      have HT : Hid (l.take k = l) := M.take_all l k (by have := HL.out; omega)
      clear hr
      go_wp2
      go_ret
      exact ⟨retB (by rw [← HT.out, HA.out]), rfl⟩

end Go.Proofs.Ytlljnfljcdljaaa.V

namespace Go.Proofs.Ytlljnfljcdljaaa.V
open Go.RowKit

end Go.Proofs.Ytlljnfljcdljaaa.V

namespace Go.Proofs.Ytlljnfljcdljaaa.V
open Go.RowKit

theorem tm_val {R : List (List Int)} {n L : Nat} (hR : M.isMat R = true) (hr : Rect R n L) (hn : 0 < n) {i j : Nat} (hi : i < n) (hj : j < L) : M.isVal (M.ent R i j) = true :=
  M.isMat_val hR (by rw [hr.1]; exact hi) (by rw [hr.wid hn]; exact hj)

set_option maxRecDepth 100000 in
set_option maxHeartbeats 400000 in
theorem sTimesB (a b : Int) (w : World) (ha : M.Big a) (hb : M.Big b) : Calls Try.prog 57 #[.int .i64 a, .int .i64 b] w fun e w' => e = .returned (.int .i64 (M.times a b)) ∧ w = w' := by
  have ba := M.big_bound ha
  have bb := M.big_bound hb
  clear ha hb
  obtain ⟨ba1, ba2⟩ := ba
  obtain ⟨bb1, bb2⟩ := bb
  by_cases h : a = -1000000000000000
  · subst h
    go_enter Try.func57, Try.ntmps57
    go_wp2
    all_goals go_ret; exact ⟨retI (by simp [M.times]), rfl⟩
  · have h' : (a == -1000000000000000) = false := by simpa using h
    by_cases h2 : b = -1000000000000000
    · subst h2
      go_enter Try.func57, Try.ntmps57
      go_wp2
      all_goals go_ret; exact ⟨retI (by simp [M.times]), rfl⟩
    · have h2' : (b == -1000000000000000) = false := by simpa using h2
      go_enter Try.func57, Try.ntmps57
      go_wp2
      all_goals go_ret; exact ⟨retI (by simp [M.times, h, h2]), rfl⟩

end Go.Proofs.Ytlljnfljcdljaaa.V

namespace Go.Proofs.Ytlljnfljcdljaaa.V
open Go.RowKit

set_option maxRecDepth 100000 in
set_option maxHeartbeats 400000 in
theorem clPlus (a b : Int) (w : World) : Calls Try.prog 100 #[.int .i64 a, .int .i64 b] w fun e w' => e = .returned (.int .i64 (max a b)) ∧ w = w' := by
  go_enter Try.func100, Try.ntmps100
  go_wp2_with (first | (go_at_call 63; refine (plus _ _ _).mono ?_; rintro e w' ⟨rfl, rfl⟩))
  go_ret
  exact ⟨rfl, rfl⟩

/-- The pair of operations. -/
theorem maxPlus (w : World) : Calls Try.prog 84 #[] w fun e w' => e = .returned (.agg #[.func (.func 100) #[] #[], .func (.func 101) #[] #[]]) ∧ Below w.heap.size w w' := by
  have hst : ∀ (w : World) (a : Addr) (f : Fn), (store a (.func f #[] #[])).run Try.prog w = stored Try.prog w a (.func f #[] #[]) .plain := fun w a f => run_store _ w a _ _ rfl
  go_enter Try.func84, Try.ntmps84
  go_wp2
  exact bodyPost_ret (v := .agg #[.func (.func 100) #[] #[], .func (.func 101) #[] #[]]) (by simp [results, Try.results84, go_sem]) rfl ⟨rfl, b_alloc _ _⟩

theorem fld0 (w : World) (f g : Fn) : (Instr.field 86 (.agg #[.func f #[] #[], .func g #[] #[]]) 0).run Try.prog w = .ok (.func f #[] #[]) w := by
  simp [Instr.field, part, asAgg, go_sem]
end Go.Proofs.Ytlljnfljcdljaaa.V
