/- Plain facts: products of matrices are associative, the unit is neutral, and powers add their exponents. -/
import Derived.Test.YtfdckijililomaaMatM
namespace Go.Proofs.Ytfdckijililomaa
namespace M
/-- Bottom, or not far from 0. -/
def Sm (L v : Int) : Prop := v = -1000000000000000 ∨ (-L ≤ v ∧ v ≤ L)
theorem sm_val {v : Int} (h : isVal v = true) : Sm 1000000 v := isVal_t h
theorem sm_wide {v : Int} (h : Sm 1000000 v) : Sm 1000001000000 v := by unfold Sm at *; omega
theorem sm_times {A B a b : Int} (ha : Sm A a) (hb : Sm B b) (hA : A ≤ 100000000) (hB : B ≤ 100000000) (hA0 : 0 ≤ A) (hB0 : 0 ≤ B) : Sm (A + B) (times a b) := by
  unfold times
  split
  · exact .inl rfl
  · next h =>
    rcases ha with ha | ha
    · exact absurd (.inl ha) h
    · rcases hb with hb | hb
      · exact absurd (.inr hb) h
      · right; omega
theorem sm_sum {L : Int} {k : Nat} {f : Nat → Int} (h : ∀ t, t < k → Sm L (f t)) (hL : 0 ≤ L) (hL2 : L ≤ 100000000) : Sm L (sumN k f) := by
  induction k with
  | zero => exact .inl rfl
  | succ k ih =>
    have h1 := ih fun t ht => h t (by omega)
    have h2 := h k (by omega)
    unfold sumN
    unfold Sm at *
    omega
theorem times_assoc {a b c : Int} (ha : Sm 100000000 a) (hb : Sm 100000000 b) (hc : Sm 100000000 c) : times (times a b) c = times a (times b c) := by
  unfold times Sm at *
  by_cases h1 : a = -1000000000000000
  · simp [h1]
  · by_cases h2 : b = -1000000000000000
    · simp [h2]
    · by_cases h3 : c = -1000000000000000
      · simp [h3]
      · have e1 : ¬(a + b = -1000000000000000) := by omega
        have e2 : ¬(b + c = -1000000000000000) := by omega
        simp only [h1, h2, h3, e1, e2, or_self, if_false]
        omega
theorem times_bot (a : Int) : times a (-1000000000000000) = -1000000000000000 := by unfold times; rw [if_pos (.inr rfl)]
theorem bot_times (a : Int) : times (-1000000000000000) a = -1000000000000000 := by unfold times; rw [if_pos (.inl rfl)]
theorem times_max {a b c : Int} (ha : Sm 100000000 a) (hb : Sm 100000000 b) (hc : Sm 100000000 c) : times a (max b c) = max (times a b) (times a c) := by
  unfold times Sm at *
  by_cases h1 : a = -1000000000000000
  · simp [h1]
  · rcases Int.le_total b c with h | h
    · rw [Int.max_eq_right h]
      by_cases h2 : b = -1000000000000000
      · by_cases h3 : c = -1000000000000000
        · simp [h1, h2, h3]
        · simp only [h1, h2, h3, false_or, or_true, if_true, if_false]; omega
      · have h3 : ¬ c = -1000000000000000 := by omega
        simp only [h1, h2, h3, or_self, if_false]; omega
    · rw [Int.max_eq_left h]
      by_cases h3 : c = -1000000000000000
      · by_cases h2 : b = -1000000000000000
        · simp [h1, h2, h3]
        · simp only [h1, h2, h3, false_or, or_true, if_true, if_false]; omega
      · have h2 : ¬ b = -1000000000000000 := by omega
        simp only [h1, h2, h3, or_self, if_false]; omega
theorem max_times {a b c : Int} (ha : Sm 100000000 a) (hb : Sm 100000000 b) (hc : Sm 100000000 c) : times (max b c) a = max (times b a) (times c a) := by
  have e : ∀ x y : Int, times x y = times y x := fun x y => by
    unfold times
    by_cases h : x = -1000000000000000 ∨ y = -1000000000000000
    · rw [if_pos h, if_pos (Or.symm h)]
    · rw [if_neg h, if_neg (fun h2 => h (Or.symm h2)), Int.add_comm]
  rw [e, times_max ha hb hc, e a b, e a c]
theorem times_sum {a : Int} {k : Nat} {f : Nat → Int} (ha : Sm 100000000 a) (h : ∀ t, t < k → Sm 100000000 (f t)) : times a (sumN k f) = sumN k fun t => times a (f t) := by
  induction k with
  | zero => exact times_bot a
  | succ k ih =>
    have h1 := ih fun t ht => h t (by omega)
    show times a (max (sumN k f) (f k)) = max (sumN k _) (times a (f k))
    rw [times_max ha (sm_sum (fun t ht => h t (by omega)) (by omega) (by omega)) (h k (by omega)), h1]
theorem sum_times {a : Int} {k : Nat} {f : Nat → Int} (ha : Sm 100000000 a) (h : ∀ t, t < k → Sm 100000000 (f t)) : times (sumN k f) a = sumN k fun t => times (f t) a := by
  induction k with
  | zero => exact bot_times a
  | succ k ih =>
    have h1 := ih fun t ht => h t (by omega)
    show times (max (sumN k f) (f k)) a = max (sumN k _) (times (f k) a)
    rw [max_times ha (sm_sum (fun t ht => h t (by omega)) (by omega) (by omega)) (h k (by omega)), h1]
theorem sumN_max (k : Nat) (f g : Nat → Int) : sumN k (fun t => max (f t) (g t)) = max (sumN k f) (sumN k g) := by
  induction k with
  | zero => rfl
  | succ k ih =>
    show max (sumN k _) (max (f k) (g k)) = max (max (sumN k f) (f k)) (max (sumN k g) (g k))
    rw [ih]; omega
theorem sumN_bot (k : Nat) : sumN k (fun _ => -1000000000000000) = -1000000000000000 := by
  induction k with
  | zero => rfl
  | succ k ih =>
    show max (sumN k _) (-1000000000000000) = _
    rw [ih]; rfl
theorem sumN_swap (k m : Nat) (f : Nat → Nat → Int) : sumN k (fun i => sumN m (fun j => f i j)) = sumN m (fun j => sumN k (fun i => f i j)) := by
  induction k with
  | zero => exact (sumN_bot m).symm
  | succ k ih =>
    show max (sumN k fun i => sumN m fun j => f i j) (sumN m fun j => f k j) = sumN m fun j => max (sumN k fun i => f i j) (f k j)
    rw [ih, sumN_max]
theorem sumN_one_at {k j : Nat} {f : Nat → Int} (hj : j < k) (h : ∀ t, t < k → t ≠ j → f t = -1000000000000000) (hb : -1000000000000000 ≤ f j) : sumN k f = f j := by
  induction k with
  | zero => omega
  | succ k ih =>
    show max (sumN k f) (f k) = f j
    by_cases e : j = k
    · subst e
      have : sumN j f = -1000000000000000 := by
        rw [sumN_congr (g := fun _ => -1000000000000000) (fun t ht => h t (by omega) (by omega))]
        exact sumN_bot j
      rw [this]; omega
    · rw [ih (by omega) (fun t ht hne => h t (by omega) hne), h k (by omega) (by omega)]
      omega

theorem ent_mul {a b : List (List Int)} {i j : Nat} (hi : i < a.length) (hj : j < wid b) : ent (mulM a b) i j = sumN b.length fun t => times (ent a i t) (ent b t j) := by
  unfold mulM
  rw [ent_mk _ _ _ _ _ hi hj]
  rfl
theorem mul_len (a b : List (List Int)) : (mulM a b).length = a.length := mk_length _ _ _
theorem mul_wid {a b : List (List Int)} (h : 1 ≤ a.length) : wid (mulM a b) = wid b := mk_wid _ _ _ (by omega)
theorem mul_assoc {a b c : List (List Int)} (ha : isMat a = true) (hb : isMat b = true) (hc : isMat c = true) (h1 : wid a = b.length) (h2 : wid b = c.length) : mulM (mulM a b) c = mulM a (mulM b c) := by
  obtain ⟨a1, a2, a3, a4, a5, a6⟩ := isMat_t ha
  obtain ⟨b1, b2, b3, b4, b5, b6⟩ := isMat_t hb
  obtain ⟨c1, c2, c3, c4, c5, c6⟩ := isMat_t hc
  show mk (mulM a b).length (wid c) (fun i j => dot (mulM a b) c i j c.length) = mk a.length (wid (mulM b c)) (fun i j => dot a (mulM b c) i j (mulM b c).length)
  rw [mul_len, mul_len, mul_wid b1]
  refine mk_congr fun i hi j hj => ?_
  have sa : ∀ u, u < b.length → Sm 1000000 (ent a i u) := fun u hu => sm_val (a6 i hi u (by omega))
  have sb : ∀ u t, u < b.length → t < c.length → Sm 1000000 (ent b u t) := fun u t hu ht => sm_val (b6 u hu t (by omega))
  have sc : ∀ t, t < c.length → Sm 1000000 (ent c t j) := fun t ht => sm_val (c6 t ht j hj)
  have up : ∀ {L v : Int}, Sm L v → L ≤ 100000000 → Sm 100000000 v := fun h hL => by unfold Sm at *; omega
  unfold dot
  rw [sumN_congr (g := fun t => sumN b.length fun u => times (ent a i u) (times (ent b u t) (ent c t j))) (fun t ht => ?_), sumN_swap]
  · refine sumN_congr fun u hu => ?_
    rw [ent_mul hu hj, times_sum (up (sa u hu) (by omega)) (fun t ht => up (sm_times (sb u t hu ht) (sc t ht) (by omega) (by omega) (by omega) (by omega)) (by omega))]
  · rw [ent_mul hi (by omega), sum_times (up (sc t ht) (by omega)) (fun u hu => up (sm_times (sa u hu) (sb u t hu ht) (by omega) (by omega) (by omega) (by omega)) (by omega))]
    exact sumN_congr fun u hu => times_assoc (up (sa u hu) (by omega)) (up (sb u t hu ht) (by omega)) (up (sc t ht) (by omega))
theorem times_zero (x : Int) : times x 0 = x := by
  unfold times
  by_cases h : x = -1000000000000000
  · rw [if_pos (.inl h), h]
  · rw [if_neg (by omega)]; omega
theorem zero_times (x : Int) : times 0 x = x := by
  unfold times
  by_cases h : x = -1000000000000000
  · rw [if_pos (.inr h), h]
  · rw [if_neg (by omega)]; omega
theorem val_ge {x : Int} (h : isVal x = true) : -1000000000000000 ≤ x := (isVal_bound h).1
theorem mul_unit {a : List (List Int)} (ha : isMat a = true) : mulM a (unitM (wid a)) = a := by
  obtain ⟨a1, a2, a3, a4, a5, a6⟩ := isMat_t ha
  have e1 : (unitM (wid a)).length = wid a := mk_length _ _ _
  have e2 : wid (unitM (wid a)) = wid a := mk_wid _ _ _ (by omega)
  show mk a.length (wid (unitM (wid a))) (fun i j => dot a (unitM (wid a)) i j (unitM (wid a)).length) = a
  rw [e1, e2]
  refine Eq.trans (mk_congr fun i hi j hj => ?_) (mk_self a (wid a) a5)
  unfold dot
  have ej : times (ent a i j) (ent (unitM (wid a)) j j) = ent a i j := by
    unfold unitM; rw [ent_mk _ _ _ _ _ hj hj, if_pos rfl, times_zero]
  rw [sumN_one_at hj (fun t ht hne => ?_) (by rw [ej]; exact val_ge (a6 i hi j hj)), ej]
  unfold unitM
  rw [ent_mk _ _ _ _ _ ht hj, if_neg hne, times_bot]
theorem unit_mul {a : List (List Int)} (ha : isMat a = true) : mulM (unitM a.length) a = a := by
  obtain ⟨a1, a2, a3, a4, a5, a6⟩ := isMat_t ha
  have e1 : (unitM a.length).length = a.length := mk_length _ _ _
  show mk (unitM a.length).length (wid a) (fun i j => dot (unitM a.length) a i j a.length) = a
  rw [e1]
  refine Eq.trans (mk_congr fun i hi j hj => ?_) (mk_self a (wid a) a5)
  unfold dot
  have ej : times (ent (unitM a.length) i i) (ent a i j) = ent a i j := by
    unfold unitM; rw [ent_mk _ _ _ _ _ hi hi, if_pos rfl, zero_times]
  rw [sumN_one_at hi (fun t ht hne => ?_) (by rw [ej]; exact val_ge (a6 i hi j hj)), ej]
  unfold unitM
  rw [ent_mk _ _ _ _ _ hi ht, if_neg (fun e => hne e.symm), bot_times]

theorem powN_down {a : List (List Int)} {k m : Nat} (h : (powN a m).2 = true) (hk : k ≤ m) : (powN a k).2 = true := by
  cases e : (powN a k).2 with
  | true => rfl
  | false => have := powN_false e hk; rw [this] at h; cases h
theorem pow_add {a : List (List Int)} (ha : isMat a = true) (hs : a.length = wid a) (p q : Nat) (h : (powN a (p + q)).2 = true) : mulM (powN a p).1 (powN a q).1 = (powN a (p + q)).1 := by
  obtain ⟨a1, a2, -⟩ := isMat_t ha
  have hp := powN_down (k := p) h (by omega)
  have mp := powN_ok a1 a2 p hp
  have wp := powN_wid a1 hs hp
  induction q with
  | zero =>
    show mulM (powN a p).1 (unitM a.length) = (powN a p).1
    rw [← wp]; exact mul_unit mp
  | succ q ih =>
    have hpq : (powN a (p + q)).2 = true := powN_down h (by omega)
    have hq : (powN a q).2 = true := powN_down h (by omega)
    have e1 := powN_step hq
    have e2 := powN_step hpq
    rw [e1, show p + (q + 1) = (p + q) + 1 from rfl, e2]
    show mulM _ (mulM _ _) = mulM _ _
    rw [← mul_assoc mp (powN_ok a1 a2 q hq) ha (by rw [wp, powN_len hq]) (powN_wid a1 hs hq), ih hpq]
/-- What a power that is told says of its parts. -/
theorem powRes_t {a : List (List Int)} {n : Int} (h : (powRes a n).2 = 0) : isMat a = true ∧ 0 ≤ n ∧ n ≤ 100 ∧ a.length = wid a ∧ (powN a n.toNat).2 = true ∧ powRes a n = ((powN a n.toNat).1, 0) := by
  unfold powRes at h ⊢
  by_cases h1 : isMat a = true
  · rw [if_pos h1] at h ⊢
    by_cases h2 : 0 ≤ n ∧ n ≤ 100
    · rw [if_pos h2] at h ⊢
      by_cases h3 : a.length = wid a
      · rw [if_pos h3] at h ⊢
        by_cases h4 : (powN a n.toNat).2 = true
        · rw [if_pos h4]; exact ⟨h1, h2.1, h2.2, h3, h4, rfl⟩
        · rw [if_neg h4] at h; simp at h
      · rw [if_neg h3] at h; simp at h
    · rw [if_neg h2] at h; simp at h
  · rw [if_neg h1] at h; simp at h
theorem powRes_y {a : List (List Int)} {k : Nat} (h1 : isMat a = true) (h2 : k ≤ 100) (h3 : a.length = wid a) (h4 : (powN a k).2 = true) : powRes a (k : Int) = ((powN a k).1, 0) := by
  unfold powRes
  rw [if_pos h1, if_pos (by omega), if_pos h3]
  show (if (powN a k).2 then _ else _) = _
  rw [if_pos h4]
  rfl
theorem mulRes_y {a b : List (List Int)} (ha : isMat a = true) (hb : isMat b = true) (h : wid a = b.length) (hm : isMat (mulM a b) = true) : mulRes a b = (mulM a b, 0) := by
  unfold mulRes
  rw [ha, hb, if_pos (by rfl), if_pos h, if_pos hm]
/-- All that the law on powers asks. -/
theorem pow_law {a : List (List Int)} {m p : Nat} (ha : isMat a = true) (hs : a.length = wid a) (hm : m ≤ 100) (hp : p ≤ m) (h : (powN a m).2 = true) :
    powRes a (p : Int) = ((powN a p).1, 0) ∧ powRes a ((m : Int) - (p : Int)) = ((powN a (m - p)).1, 0) ∧ mulRes (powN a p).1 (powN a (m - p)).1 = ((powN a m).1, 0) ∧
      unitRes (a.length : Int) = (unitM a.length, 0) ∧ mulRes (unitM a.length) (powN a m).1 = ((powN a m).1, 0) := by
  obtain ⟨a1, a2, -⟩ := isMat_t ha
  have h1 := powN_down (k := p) h hp
  have h2 := powN_down (k := m - p) h (by omega)
  have e : p + (m - p) = m := by omega
  have hadd : mulM (powN a p).1 (powN a (m - p)).1 = (powN a m).1 := by
    have := pow_add ha hs p (m - p) (by rw [e]; exact h)
    rw [e] at this; exact this
  have mm := powN_ok a1 a2 m h
  have hl := powN_len h
  have hu : mulM (unitM a.length) (powN a m).1 = (powN a m).1 := by
    have := unit_mul mm
    rw [hl] at this; exact this
  refine ⟨powRes_y ha (by omega) hs h1, ?_, ?_, ?_, ?_⟩
  · rw [show (m : Int) - (p : Int) = ((m - p : Nat) : Int) by omega]
    exact powRes_y ha (by omega) hs h2
  · rw [mulRes_y (powN_ok a1 a2 p h1) (powN_ok a1 a2 _ h2) (by rw [powN_wid a1 hs h1, powN_len h2]) (by rw [hadd]; exact mm), hadd]
  · unfold unitRes; rw [if_pos (by omega)]; rfl
  · rw [mulRes_y (unitM_ok a1 a2) mm (by rw [hl]; exact mk_wid _ _ _ (by omega)) (by rw [hu]; exact mm), hu]
theorem apply_len' (a : List (List Int)) (x : List Int) : (applyM a x).length = a.length := by simp [applyM]
theorem apply_get {a : List (List Int)} {x : List Int} {i : Nat} (hi : i < a.length) : (applyM a x).getD i 0 = sumN x.length fun t => times (ent a i t) (x.getD t 0) := by
  simp only [applyM, dotV]
  simp [hi]
theorem apply_assoc {a b : List (List Int)} {v : List Int} (ha : isMat a = true) (hb : isMat b = true) (hv : isVec v = true) (h1 : wid a = b.length) (h2 : wid b = v.length) : applyM a (applyM b v) = applyM (mulM a b) v := by
  obtain ⟨a1, a2, a3, a4, a5, a6⟩ := isMat_t ha
  obtain ⟨b1, b2, b3, b4, b5, b6⟩ := isMat_t hb
  obtain ⟨v1, v2, v3⟩ := isVec_t hv
  have up : ∀ {L x : Int}, Sm L x → L ≤ 100000000 → Sm 100000000 x := fun h hL => by unfold Sm at *; omega
  have sa : ∀ i u, i < a.length → u < b.length → Sm 1000000 (ent a i u) := fun i u hi hu => sm_val (a6 i hi u (by omega))
  have sb : ∀ u t, u < b.length → t < v.length → Sm 1000000 (ent b u t) := fun u t hu ht => sm_val (b6 u hu t (by omega))
  have sv : ∀ t, t < v.length → Sm 1000000 (v.getD t 0) := fun t ht => sm_val (v3 t ht)
  show (List.range a.length).map _ = (List.range (mulM a b).length).map _
  rw [mul_len]
  refine List.map_congr_left fun i hi => ?_
  have hi := List.mem_range.1 hi
  unfold dotV
  rw [apply_len']
  rw [sumN_congr (k := v.length) (g := fun t => sumN b.length fun u => times (ent a i u) (times (ent b u t) (v.getD t 0))) (fun t ht => ?_), sumN_swap]
  · refine sumN_congr fun u hu => ?_
    rw [apply_get hu, times_sum (up (sa i u hi hu) (by omega)) (fun t ht => up (sm_times (sb u t hu ht) (sv t ht) (by omega) (by omega) (by omega) (by omega)) (by omega))]
  · rw [ent_mul hi (by omega), sum_times (up (sv t ht) (by omega)) (fun u hu => up (sm_times (sa i u hi hu) (sb u t hu ht) (by omega) (by omega) (by omega) (by omega)) (by omega))]
    exact sumN_congr fun u hu => times_assoc (up (sa i u hi hu) (by omega)) (up (sb u t hu ht) (by omega)) (up (sv t ht) (by omega))
theorem mulRes_t {a b : List (List Int)} (h : (mulRes a b).2 = 0) : isMat a = true ∧ isMat b = true ∧ wid a = b.length ∧ isMat (mulM a b) = true ∧ mulRes a b = (mulM a b, 0) := by
  unfold mulRes at h ⊢
  by_cases h1 : (isMat a && isMat b) = true
  · rw [if_pos h1] at h ⊢
    rw [Bool.and_eq_true] at h1
    by_cases h2 : wid a = b.length
    · rw [if_pos h2] at h ⊢
      by_cases h3 : isMat (mulM a b) = true
      · rw [if_pos h3]; exact ⟨h1.1, h1.2, h2, h3, rfl⟩
      · rw [if_neg h3] at h; simp at h
    · rw [if_neg h2] at h; simp at h
  · rw [if_neg h1] at h; simp at h
theorem vecRes_y {a : List (List Int)} {x : List Int} (ha : isMat a = true) (hx : isVec x = true) (h : wid a = x.length) : vecRes a x = ([], 3) ∨ (isVec (applyM a x) = true ∧ vecRes a x = (applyM a x, 0)) := by
  unfold vecRes
  rw [ha, hx, if_pos (by rfl), if_pos h]
  by_cases hv : isVec (applyM a x) = true
  · right; exact ⟨hv, if_pos hv⟩
  · left; exact if_neg hv
/-- All that the law on products asks: either one of the three is a limit (the first; or the first is told, and one of the others), or all are told and agree. -/
theorem prod_law {a b : List (List Int)} {v : List Int} (ha : isMat a = true) (hb : isMat b = true) (h1 : wid a = b.length) (hm : isMat (mulM a b) = true) (hv : isVec v = true) (h2 : wid b = v.length) :
    (vecRes b v = ([], 3)) ∨ (∃ p, vecRes b v = (p, 0) ∧ vecRes a p = ([], 3)) ∨ (∃ p q, vecRes b v = (p, 0) ∧ vecRes a p = (q, 0) ∧ (vecRes (mulM a b) v = ([], 3) ∨ vecRes (mulM a b) v = (q, 0))) := by
  obtain ⟨a1, -⟩ := isMat_t ha
  rcases vecRes_y hb hv h2 with h | ⟨hp, h⟩
  · exact .inl h
  · right
    rcases vecRes_y ha hp (by rw [apply_len']; exact h1) with k | ⟨hq, k⟩
    · exact .inl ⟨_, h, k⟩
    · right
      refine ⟨_, _, h, k, ?_⟩
      rcases vecRes_y hm hv (by rw [mul_wid a1]; exact h2) with l | ⟨hr, l⟩
      · exact .inl l
      · right; rw [l, apply_assoc ha hb hv h1 h2]
/-- Bottom, or so near to 0 that sums stay far from the ends of 64 bits. -/
def Big (v : Int) : Prop := v = -1000000000000000 ∨ (-100000000000000 ≤ v ∧ v ≤ 100000000000000)
theorem big_val {v : Int} (h : isVal v = true) : Big v := by
  have := isVal_t h
  unfold Big; omega
theorem big_sm {L v : Int} (h : Sm L v) (hL : L ≤ 100000000000000) : Big v := by unfold Sm at h; unfold Big; omega
theorem big_bound {v : Int} (h : Big v) : -1000000000000000 ≤ v ∧ v ≤ 100000000000000 := by unfold Big at h; omega
theorem big_times_ge {a b : Int} (ha : Big a) (hb : Big b) : -1000000000000000 ≤ times a b := by
  unfold times; unfold Big at *
  split <;> omega
end M
end Go.Proofs.Ytfdckijililomaa
