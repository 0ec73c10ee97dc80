/- Plain facts on weights that may be missing: the closure of a matrix by rounds over its nodes is the one by lengths of paths, unless a node comes back to itself with a gain. -/
import Derived.Test.YtfdckijililomaaMatA
namespace Go.Proofs.Ytfdckijililomaa
namespace M

/-- At most; what is missing is at most everything. -/
def ole : Option Int → Option Int → Prop
  | none, _ => True
  | some _, none => False
  | some a, some b => a ≤ b
def omul : Option Int → Option Int → Option Int
  | some a, some b => some (a + b)
  | _, _ => none
def osup : Option Int → Option Int → Option Int
  | some a, some b => some (max a b)
  | some a, none => some a
  | none, b => b

theorem ole_rfl (a : Option Int) : ole a a := by cases a <;> simp [ole]
theorem ole_none (a : Option Int) : ole none a := by simp [ole]
theorem ole_trans {a b c : Option Int} (h : ole a b) (k : ole b c) : ole a c := by
  cases a <;> cases b <;> cases c <;> simp_all [ole]
  omega
theorem ole_anti {a b : Option Int} (h : ole a b) (k : ole b a) : a = b := by
  cases a <;> cases b <;> simp_all [ole]
  omega
theorem omul_mono {a a' b b' : Option Int} (h : ole a a') (k : ole b b') : ole (omul a b) (omul a' b') := by
  cases a <;> cases a' <;> cases b <;> cases b' <;> simp_all [ole, omul]
  omega
theorem omul_assoc (a b c : Option Int) : omul (omul a b) c = omul a (omul b c) := by
  cases a <;> cases b <;> cases c <;> simp [omul]
  omega
theorem omul_comm (a b : Option Int) : omul a b = omul b a := by
  cases a <;> cases b <;> simp [omul]
  omega
theorem omul_zero (a : Option Int) : omul a (some 0) = a := by cases a <;> simp [omul]
theorem zero_omul (a : Option Int) : omul (some 0) a = a := by cases a <;> simp [omul]
theorem omul_none (a : Option Int) : omul a none = none := by cases a <;> simp [omul]
theorem none_omul (a : Option Int) : omul none a = none := by cases a <;> simp [omul]
theorem osup_l (a b : Option Int) : ole a (osup a b) := by
  cases a <;> cases b <;> simp [ole, osup]
  omega
theorem osup_r (a b : Option Int) : ole b (osup a b) := by
  cases a <;> cases b <;> simp [ole, osup]
  omega
theorem osup_le {a b c : Option Int} (h : ole a c) (k : ole b c) : ole (osup a b) c := by
  cases a <;> cases b <;> cases c <;> simp_all [ole, osup]
  omega
theorem osup_cases (a b : Option Int) : osup a b = a ∨ osup a b = b := by
  cases a <;> cases b <;> simp [osup]
  omega
theorem osup_of_le {a b : Option Int} (h : ole b a) : osup a b = a := ole_anti (osup_le (ole_rfl _) h) (osup_l _ _)
theorem omul_le_l {a b : Option Int} (h : ole b (some 0)) : ole (omul a b) a := by
  have := omul_mono (ole_rfl a) h
  rw [omul_zero] at this; exact this
theorem omul_le_r {a b : Option Int} (h : ole a (some 0)) : ole (omul a b) b := by
  have := omul_mono h (ole_rfl b)
  rw [zero_omul] at this; exact this
theorem omul_ge_l {a b : Option Int} (h : ole (some 0) b) : ole a (omul a b) := by
  have := omul_mono (ole_rfl a) h
  rw [omul_zero] at this; exact this

def osum : Nat → (Nat → Option Int) → Option Int
  | 0, _ => none
  | k + 1, f => osup (osum k f) (f k)
theorem osum_le {n : Nat} {f : Nat → Option Int} {c : Option Int} (h : ∀ t, t < n → ole (f t) c) : ole (osum n f) c := by
  induction n with
  | zero => exact ole_none _
  | succ n ih => exact osup_le (ih fun t ht => h t (by omega)) (h n (by omega))
theorem le_osum {n : Nat} {f : Nat → Option Int} {t : Nat} (h : t < n) : ole (f t) (osum n f) := by
  induction n with
  | zero => omega
  | succ n ih =>
    by_cases e : t = n
    · subst e; exact osup_r _ _
    · exact ole_trans (ih (by omega)) (osup_l _ _)
theorem osum_att (n : Nat) (f : Nat → Option Int) : osum n f = none ∨ ∃ t, t < n ∧ osum n f = f t := by
  induction n with
  | zero => exact .inl rfl
  | succ n ih =>
    rcases osup_cases (osum n f) (f n) with h | h
    · rcases ih with k | ⟨t, ht, k⟩
      · left; show osup _ _ = _; rw [h, k]
      · right; exact ⟨t, by omega, by show osup _ _ = _; rw [h, k]⟩
    · right; exact ⟨n, by omega, h⟩
theorem osum_congr {n : Nat} {f g : Nat → Option Int} (h : ∀ t, t < n → f t = g t) : osum n f = osum n g := by
  induction n with
  | zero => rfl
  | succ n ih => show osup _ _ = osup _ _; rw [ih fun t ht => h t (by omega), h n (by omega)]

/-- The rounds over the nodes. -/
def ofw (f : Nat → Nat → Option Int) : Nat → Nat → Nat → Option Int
  | 0 => f
  | k + 1 => fun i j => osup (ofw f k i j) (omul (ofw f k i k) (ofw f k k j))
def ounit (i j : Nat) : Option Int := if i = j then some 0 else none
/-- The greatest weights of paths with at most so many arcs. -/
def obm (f : Nat → Nat → Option Int) (n : Nat) : Nat → Nat → Nat → Option Int
  | 0 => ounit
  | t + 1 => fun i j => osup (ounit i j) (osum n fun u => omul (f i u) (obm f n t u j))

theorem ounit_self (i : Nat) : ounit i i = some 0 := by unfold ounit; rw [if_pos rfl]
theorem ounit_ne {i j : Nat} (h : i ≠ j) : ounit i j = none := by unfold ounit; rw [if_neg h]

theorem ofw_up (f : Nat → Nat → Option Int) (k i j : Nat) : ole (ofw f k i j) (ofw f (k + 1) i j) := osup_l _ _
theorem ofw_mono (f : Nat → Nat → Option Int) {k m : Nat} (h : k ≤ m) (i j : Nat) : ole (ofw f k i j) (ofw f m i j) := by
  induction m with
  | zero => obtain rfl : k = 0 := by omega
            exact ole_rfl _
  | succ m ih =>
    by_cases e : k = m + 1
    · subst e; exact ole_rfl _
    · exact ole_trans (ih (by omega)) (ofw_up f m i j)
theorem ofw_ge (f : Nat → Nat → Option Int) (k i j : Nat) : ole (f i j) (ofw f k i j) := ofw_mono f (Nat.zero_le k) i j

theorem ofw_trans (f : Nat → Nat → Option Int) (k : Nat) (h : ∀ m, m < k → ole (ofw f m m m) (some 0)) :
    ∀ m, m < k → ∀ i l, ole (omul (ofw f k i m) (ofw f k m l)) (ofw f k i l) := by
  induction k with
  | zero => intro m hm; omega
  | succ k ih =>
    intro m hm i l
    have hk := h k (by omega)
    have ih := ih fun m hm => h m (by omega)
    generalize hp : ofw f k = p at *
    have e : ∀ i j, ofw f (k + 1) i j = osup (p i j) (omul (p i k) (p k j)) := fun i j => by rw [← hp]; rfl
    have up : ∀ i j, ole (omul (p i k) (p k j)) (ofw f (k + 1) i j) := fun i j => by rw [e]; exact osup_r _ _
    have up0 : ∀ i j, ole (p i j) (ofw f (k + 1) i j) := fun i j => by rw [e]; exact osup_l _ _
    by_cases em : m = k
    · subst em
      have h1 : ole (ofw f (m + 1) i m) (p i m) := by rw [e]; exact osup_le (ole_rfl _) (omul_le_l hk)
      have h2 : ole (ofw f (m + 1) m l) (p m l) := by rw [e]; exact osup_le (ole_rfl _) (omul_le_r hk)
      exact ole_trans (omul_mono h1 h2) (up i l)
    · have ihm := ih m (by omega)
      rw [e i m, e m l]
      rcases osup_cases (p i m) (omul (p i k) (p k m)) with h1 | h1 <;> rcases osup_cases (p m l) (omul (p m k) (p k l)) with h2 | h2 <;> rw [h1, h2]
      · exact ole_trans (ihm i l) (up0 i l)
      · rw [← omul_assoc]
        exact ole_trans (omul_mono (ihm i k) (ole_rfl _)) (up i l)
      · rw [omul_assoc]
        exact ole_trans (omul_mono (ole_rfl _) (ihm k l)) (up i l)
      · rw [omul_assoc, ← omul_assoc (p k m)]
        exact ole_trans (omul_mono (ole_rfl _) (omul_le_r (ole_trans (ihm k k) hk))) (up i l)

theorem ofw_diag (f : Nat → Nat → Option Int) (k : Nat) (h : ∀ m, m < k → ole (ofw f m m m) (some 0)) : ∀ m, m < k → ole (ofw f k m m) (some 0) := by
  induction k with
  | zero => intro m hm; omega
  | succ k ih =>
    intro m hm
    have hk := h k (by omega)
    show ole (osup _ _) _
    by_cases em : m = k
    · subst em; exact osup_le hk (ole_trans (omul_le_l hk) hk)
    · refine osup_le (ih (fun m hm => h m (by omega)) m (by omega)) ?_
      rw [omul_comm]
      exact ole_trans (ofw_trans f k (fun m hm => h m (by omega)) m (by omega) k k) hk

/-- What is closed under the arcs is closed under the rounds. -/
theorem ofw_under {f S T : Nat → Nat → Option Int} {n : Nat} (h1 : ∀ i u j, i < n → u < n → j < n → ole (omul (f i u) (S u j)) (T i j)) (h2 : ∀ i j, i < n → j < n → ole (T i j) (S i j)) (k : Nat) (hk : k ≤ n) :
    ∀ i u j, i < n → u < n → j < n → ole (omul (ofw f k i u) (S u j)) (T i j) := by
  induction k with
  | zero => exact h1
  | succ k ih =>
    have ih := ih (by omega)
    intro i u j hi hu hj
    show ole (omul (osup _ _) _) _
    rcases osup_cases (ofw f k i u) (omul (ofw f k i k) (ofw f k k u)) with e | e <;> rw [e]
    · exact ih i u j hi hu hj
    · rw [omul_assoc]
      exact ole_trans (omul_mono (ole_rfl _) (ole_trans (ih k u j (by omega) hu hj) (h2 k j (by omega) hj))) (ih i k j hi (by omega) hj)

/-- The weight of the first arcs of a walk. -/
def owk (f : Nat → Nat → Option Int) (v : Nat → Nat) : Nat → Option Int
  | 0 => some 0
  | t + 1 => omul (f (v (t + 1)) (v t)) (owk f v t)
theorem owk_congr {f : Nat → Nat → Option Int} {v v' : Nat → Nat} {s : Nat} (h : ∀ u, u ≤ s → v u = v' u) : owk f v s = owk f v' s := by
  induction s with
  | zero => rfl
  | succ s ih => show omul _ _ = omul _ _; rw [ih fun u hu => h u (by omega), h (s + 1) (by omega), h s (by omega)]
theorem owk_add (f : Nat → Nat → Option Int) (v : Nat → Nat) (x d : Nat) : owk f v (x + d) = omul (owk f (fun u => v (x + u)) d) (owk f v x) := by
  induction d with
  | zero => exact (zero_omul _).symm
  | succ d ih =>
    show omul _ (owk f v (x + d)) = omul (omul _ _) _
    rw [ih, omul_assoc]
    rfl
theorem pigeon (n : Nat) : ∀ v : Nat → Nat, (∀ t, t ≤ n → v t < n) → ∃ a b, a < b ∧ b ≤ n ∧ v a = v b := by
  induction n with
  | zero => intro v h; have := h 0 (Nat.le_refl _); omega
  | succ n ih =>
    intro v h
    by_cases e : ∃ t, t ≤ n ∧ v t = v (n + 1)
    · obtain ⟨t, ht, e⟩ := e; exact ⟨t, n + 1, by omega, by omega, e⟩
    · have e : ∀ t, t ≤ n → v t ≠ v (n + 1) := fun t ht k => e ⟨t, ht, k⟩
      obtain ⟨a, b, hab, hb, hv⟩ := ih (fun t => if v t = n then v (n + 1) else v t) (fun t ht => by
        have h1 := h t (by omega)
        have h2 := e t ht
        have h3 := h (n + 1) (by omega)
        show (if v t = n then v (n + 1) else v t) < n
        split <;> omega)
      refine ⟨a, b, hab, by omega, ?_⟩
      have ha := e a (by omega)
      have hb' := e b (by omega)
      have hv : (if v a = n then v (n + 1) else v a) = (if v b = n then v (n + 1) else v b) := hv
      split at hv <;> split at hv <;> omega

theorem obm_up {f : Nat → Nat → Option Int} {n : Nat} (t : Nat) : ∀ (v : Nat → Nat) (s : Nat), s ≤ t → (∀ u, u ≤ s → v u < n) → ole (owk f v s) (obm f n t (v s) (v 0)) := by
  induction t with
  | zero =>
    intro v s hs _
    obtain rfl : s = 0 := by omega
    show ole (some 0) (ounit _ _)
    rw [ounit_self]; exact ole_rfl _
  | succ t ih =>
    intro v s hs hv
    show ole _ (osup _ _)
    cases s with
    | zero => refine ole_trans ?_ (osup_l _ _); rw [ounit_self]; exact ole_rfl _
    | succ s =>
      refine ole_trans ?_ (osup_r _ _)
      refine ole_trans ?_ (le_osum (hv s (by omega)))
      exact omul_mono (ole_rfl _) (ih v s (by omega) fun u hu => hv u (by omega))
theorem obm_att {f : Nat → Nat → Option Int} {n : Nat} (t : Nat) : ∀ i j, i < n → j < n → obm f n t i j = none ∨ ∃ (v : Nat → Nat) (s : Nat), s ≤ t ∧ v 0 = j ∧ v s = i ∧ (∀ u, u ≤ s → v u < n) ∧ obm f n t i j = owk f v s := by
  induction t with
  | zero =>
    intro i j hi hj
    by_cases e : i = j
    · subst e
      exact .inr ⟨fun _ => i, 0, Nat.le_refl _, rfl, rfl, fun _ _ => hi, ounit_self i⟩
    · exact .inl (ounit_ne e)
  | succ t ih =>
    intro i j hi hj
    rcases osup_cases (ounit i j) (osum n fun u => omul (f i u) (obm f n t u j)) with h | h
    · by_cases e : i = j
      · subst e
        exact .inr ⟨fun _ => i, 0, Nat.zero_le _, rfl, rfl, fun _ _ => hi, h.trans (ounit_self i)⟩
      · exact .inl (h.trans (ounit_ne e))
    · rcases osum_att n (fun u => omul (f i u) (obm f n t u j)) with k | ⟨u, hu, k⟩
      · exact .inl (h.trans k)
      · rcases ih u j hu hj with z | ⟨v, s, hs, h0, h1, hv, z⟩
        · left
          refine h.trans (k.trans ?_)
          rw [z]; exact omul_none _
        · right
          have hc : owk f (fun x => if x ≤ s then v x else i) s = owk f v s := owk_congr fun x hx => by simp [hx]
          refine ⟨fun x => if x ≤ s then v x else i, s + 1, by omega, by simpa using h0, if_neg (by omega), fun x _ => ?_, ?_⟩
          · show (if x ≤ s then v x else i) < n
            split
            · next hx => exact hv x hx
            · exact hi
          · refine h.trans (k.trans ?_)
            show omul (f i u) (obm f n t u j) = omul (f (if s + 1 ≤ s then v (s + 1) else i) (if s ≤ s then v s else i)) (owk f (fun x => if x ≤ s then v x else i) s)
            rw [hc, z, if_neg (by omega), if_pos (Nat.le_refl _), h1]
theorem obm_mono {f : Nat → Nat → Option Int} {n : Nat} {s t : Nat} (h : s ≤ t) {i j : Nat} (hi : i < n) (hj : j < n) : ole (obm f n s i j) (obm f n t i j) := by
  rcases obm_att (f := f) s i j hi hj with z | ⟨v, x, hx, rfl, rfl, hv, z⟩
  · rw [z]; exact ole_none _
  · rw [z]; exact obm_up t v x (by omega) hv

section ok
variable {f : Nat → Nat → Option Int} {n : Nat} (hd : ∀ m, m < n → ole (ofw f m m m) (some 0))
include hd
theorem obm_le (t : Nat) : ∀ i j, i < n → j < n → ole (obm f n t i j) (osup (ounit i j) (ofw f n i j)) := by
  induction t with
  | zero => intro i j _ _; exact osup_l _ _
  | succ t ih =>
    intro i j hi hj
    refine osup_le (osup_l _ _) (osum_le fun u hu => ?_)
    refine ole_trans (omul_mono (ole_rfl _) (ih u j hu hj)) ?_
    rcases osup_cases (ounit u j) (ofw f n u j) with e | e <;> rw [e]
    · by_cases e2 : u = j
      · subst e2
        rw [ounit_self, omul_zero]
        exact ole_trans (ofw_ge f n i u) (osup_r _ _)
      · rw [ounit_ne e2, omul_none]; exact ole_none _
    · exact ole_trans (omul_mono (ofw_ge f n i u) (ole_rfl _)) (ole_trans (ofw_trans f n hd u hu i j) (osup_r _ _))
theorem owk_diag (v : Nat → Nat) (s : Nat) (hv : ∀ u, u ≤ s → v u < n) (h : v s = v 0) : ole (owk f v s) (some 0) := by
  refine ole_trans (obm_up s v s (Nat.le_refl _) hv) (ole_trans (obm_le hd s _ _ (hv s (Nat.le_refl _)) (hv 0 (Nat.zero_le _))) ?_)
  rw [h, ounit_self]
  exact osup_le (ole_rfl _) (ofw_diag f n hd _ (hv 0 (Nat.zero_le _)))
/-- A walk with more arcs than there are nodes is no better than one with fewer. -/
theorem owk_cut (v : Nat → Nat) (s : Nat) (hs : n ≤ s) (hv : ∀ u, u ≤ s → v u < n) : ∃ (v' : Nat → Nat) (s' : Nat), s' < s ∧ v' 0 = v 0 ∧ v' s' = v s ∧ (∀ u, u ≤ s' → v' u < n) ∧ ole (owk f v s) (owk f v' s') := by
  obtain ⟨a, b, hab, hb, e⟩ := pigeon n v (fun t ht => hv t (by omega))
  refine ⟨fun u => if u < a then v u else v (u + (b - a)), s - (b - a), by omega, ?_, ?_, ?_, ?_⟩
  · show (if 0 < a then v 0 else v (0 + (b - a))) = v 0
    split
    · rfl
    · next h => have h0 : a = 0 := by omega
                subst h0
                rw [show 0 + (b - 0) = b by omega]; exact e.symm
  · show (if s - (b - a) < a then v (s - (b - a)) else v (s - (b - a) + (b - a))) = v s
    rw [if_neg (by omega), show s - (b - a) + (b - a) = s by omega]
  · intro u hu
    show (if u < a then v u else v (u + (b - a))) < n
    split
    · exact hv u (by omega)
    · exact hv _ (by omega)
  · have e1 : owk f v s = omul (owk f (fun u => v (b + u)) (s - b)) (omul (owk f (fun u => v (a + u)) (b - a)) (owk f v a)) := by
      rw [← owk_add, show a + (b - a) = b by omega, ← owk_add, show b + (s - b) = s by omega]
    have e2 : owk f (fun u => if u < a then v u else v (u + (b - a))) (s - (b - a)) = omul (owk f (fun u => v (b + u)) (s - b)) (owk f v a) := by
      rw [show s - (b - a) = a + (s - b) by omega, owk_add]
      congr 1
      · refine owk_congr fun u _ => ?_
        show (if a + u < a then v (a + u) else v (a + u + (b - a))) = v (b + u)
        rw [if_neg (by omega), show a + u + (b - a) = b + u by omega]
      · refine owk_congr fun u hu => ?_
        show (if u < a then v u else v (u + (b - a))) = v u
        split
        · rfl
        · obtain rfl : u = a := by omega
          rw [show u + (b - u) = b by omega]; exact e.symm
    rw [e1, e2]
    refine omul_mono (ole_rfl _) (omul_le_r (owk_diag hd _ _ (fun u hu => hv _ (by omega)) ?_))
    show v (a + (b - a)) = v (a + 0)
    rw [show a + (b - a) = b by omega]; exact e.symm
theorem obm_stable {i j : Nat} (hi : i < n) (hj : j < n) : obm f n (n + 1) i j = obm f n n i j := by
  refine ole_anti ?_ (obm_mono (Nat.le_succ n) hi hj)
  rcases obm_att (f := f) (n + 1) i j hi hj with z | ⟨v, s, hs, rfl, rfl, hv, z⟩
  · rw [z]; exact ole_none _
  · rw [z]
    by_cases h : s ≤ n
    · exact obm_up n v s h hv
    · obtain ⟨v', s', h1, h2, h3, h4, h5⟩ := owk_cut hd v s (by omega) hv
      refine ole_trans h5 ?_
      rw [← h2, ← h3]
      exact obm_up n v' s' (by omega) h4
/-- What is left after one arc. -/
theorem osum_plus {i j : Nat} (hi : i < n) (hj : j < n) : osum n (fun u => omul (f i u) (obm f n n u j)) = ofw f n i j := by
  refine ole_anti (osum_le fun u hu => ?_) ?_
  · refine ole_trans (omul_mono (ole_rfl _) (obm_le hd n u j hu hj)) ?_
    rcases osup_cases (ounit u j) (ofw f n u j) with e | e <;> rw [e]
    · by_cases e2 : u = j
      · subst e2
        rw [ounit_self, omul_zero]
        exact ofw_ge f n i u
      · rw [ounit_ne e2, omul_none]; exact ole_none _
    · exact ole_trans (omul_mono (ofw_ge f n i u) (ole_rfl _)) (ofw_trans f n hd u hu i j)
  · have key := ofw_under (f := f) (S := obm f n n) (T := fun i j => osum n (fun u => omul (f i u) (obm f n n u j))) (n := n)
      (fun i u j _ hu _ => le_osum (f := fun u => omul (f i u) (obm f n n u j)) hu)
      (fun i j hi hj => by
        rw [← obm_stable hd hi hj]
        exact osup_r _ _) n (Nat.le_refl _) i j j hi hj hj
    refine ole_trans (omul_ge_l ?_) key
    have := obm_up (f := f) (n := n) n (fun _ => j) 0 (Nat.zero_le _) (fun _ _ => hj)
    exact this
theorem obm_star {i j : Nat} (hi : i < n) (hj : j < n) : obm f n n i j = osup (ounit i j) (ofw f n i j) := by
  rw [← obm_stable hd hi hj]
  show osup _ _ = _
  rw [osum_plus hd hi hj]
theorem obm_self {i : Nat} (hi : i < n) : obm f n n i i = some 0 := by
  rw [obm_star hd hi hi, ounit_self]
  exact osup_of_le (ofw_diag f n hd i hi)
theorem obm_other {i j : Nat} (hi : i < n) (hj : j < n) (h : i ≠ j) : obm f n n i j = ofw f n i j := by
  rw [obm_star hd hi hj, ounit_ne h]; rfl
theorem owk_star (v : Nat → Nat) (s : Nat) (hv : ∀ u, u ≤ s → v u < n) : ole (owk f v s) (obm f n n (v s) (v 0)) := by
  rw [obm_star hd (hv s (Nat.le_refl _)) (hv 0 (Nat.zero_le _))]
  exact ole_trans (obm_up s v s (Nat.le_refl _) hv) (obm_le hd s _ _ (hv s (Nat.le_refl _)) (hv 0 (Nat.zero_le _)))
end ok
/-- Where a node comes back to itself with a gain, the paths go on growing. -/
theorem obm_grows {f : Nat → Nat → Option Int} {n : Nat} (h : ∀ i j, i < n → j < n → obm f n (n + 1) i j = obm f n n i j) : ∀ m, m < n → ole (ofw f m m m) (some 0) := by
  intro m hm
  have key := ofw_under (f := f) (S := obm f n n) (T := obm f n n) (n := n)
    (fun i u j hi hu hj => by
      rw [← h i j hi hj]
      exact ole_trans (le_osum (f := fun u => omul (f i u) (obm f n n u j)) hu) (osup_r _ _))
    (fun i j _ _ => ole_rfl _) m (by omega) m m m hm hm hm
  have h0 : ole (some 0) (obm f n n m m) := obm_up (f := f) (n := n) n (fun _ => m) 0 (Nat.zero_le _) (fun _ _ => hm)
  generalize obm f n n m m = x at key h0
  generalize ofw f m m m = y at key
  cases x <;> cases y <;> simp_all [ole, omul]
  omega

/-- The powers: paths with just so many arcs. -/
def opw (f : Nat → Nat → Option Int) (n : Nat) : Nat → Nat → Nat → Option Int
  | 0 => ounit
  | t + 1 => fun i j => osum n fun u => omul (opw f n t i u) (f u j)
theorem opw_up {f : Nat → Nat → Option Int} {n : Nat} (s : Nat) : ∀ (v : Nat → Nat), (∀ u, u ≤ s → v u < n) → ole (owk f v s) (opw f n s (v s) (v 0)) := by
  induction s with
  | zero => intro v _; show ole (some 0) (ounit _ _); rw [ounit_self]; exact ole_rfl _
  | succ s ih =>
    intro v hv
    have e : owk f v (s + 1) = omul (owk f (fun u => v (1 + u)) s) (owk f v 1) := by rw [← owk_add, Nat.add_comm 1 s]
    rw [e]
    refine ole_trans ?_ (le_osum (hv 1 (by omega)))
    have h1 := ih (fun u => v (1 + u)) (fun u hu => hv _ (by omega))
    simp only [Nat.add_comm 1] at h1
    have h2 : owk f v 1 = f (v 1) (v 0) := omul_zero _
    rw [h2]
    refine omul_mono ?_ (ole_rfl _)
    simp only [Nat.add_comm 1]
    exact h1
theorem opw_att {f : Nat → Nat → Option Int} {n : Nat} (t : Nat) : ∀ i j, i < n → j < n → opw f n t i j = none ∨ ∃ v : Nat → Nat, v 0 = j ∧ v t = i ∧ (∀ u, u ≤ t → v u < n) ∧ opw f n t i j = owk f v t := by
  induction t with
  | zero =>
    intro i j hi hj
    by_cases e : i = j
    · subst e
      exact .inr ⟨fun _ => i, rfl, rfl, fun _ _ => hi, ounit_self i⟩
    · exact .inl (ounit_ne e)
  | succ t ih =>
    intro i j hi hj
    rcases osum_att n (fun u => omul (opw f n t i u) (f u j)) with k | ⟨u, hu, k⟩
    · exact .inl k
    · rcases ih i u hi hu with z | ⟨v, h0, h1, hv, z⟩
      · left
        refine k.trans ?_
        rw [z]; exact none_omul _
      · right
        refine ⟨fun x => if x = 0 then j else v (x - 1), by simp, by simpa using h1, fun x hx => ?_, ?_⟩
        · show (if x = 0 then j else v (x - 1)) < n
          split
          · exact hj
          · exact hv _ (by omega)
        · refine k.trans ?_
          rw [show t + 1 = 1 + t by omega, owk_add]
          have e1 : owk f (fun x => if x = 0 then j else v (x - 1)) 1 = f u j := by
            show omul (f (if 0 + 1 = 0 then j else v (0 + 1 - 1)) (if 0 = 0 then j else v (0 - 1))) (some 0) = _
            rw [omul_zero, if_neg (by omega), if_pos rfl, ← h0]
          have e2 : owk f (fun u => if 1 + u = 0 then j else v (1 + u - 1)) t = owk f v t := owk_congr fun x _ => by
            rw [if_neg (by omega), show 1 + x - 1 = x by omega]
          rw [e1, e2, z]
/-- Some power has the weight in the star; none has more. -/
theorem opw_star {f : Nat → Nat → Option Int} {n : Nat} {i j : Nat} (hi : i < n) (hj : j < n) (h : obm f n n i j ≠ none) : ∃ s, s ≤ n ∧ ole (obm f n n i j) (opw f n s i j) := by
  rcases obm_att (f := f) n i j hi hj with z | ⟨v, s, hs, rfl, rfl, hv, z⟩
  · exact absurd z h
  · exact ⟨s, hs, by rw [z]; exact opw_up s v hv⟩
theorem opw_le {f : Nat → Nat → Option Int} {n : Nat} (hd : ∀ m, m < n → ole (ofw f m m m) (some 0)) {i j : Nat} (hi : i < n) (hj : j < n) (s : Nat) : ole (opw f n s i j) (obm f n n i j) := by
  rcases opw_att (f := f) s i j hi hj with z | ⟨v, rfl, rfl, hv, z⟩
  · rw [z]; exact ole_none _
  · rw [z]; exact owk_star hd v s hv
section skip
variable {n : Nat}
theorem skip_wt (f : Nat → Nat → Option Int) (v : Nat → Nat) (s a b : Nat) (hab : a < b) (hb : b ≤ s) (e : v a = v b) (hin : ole (owk f (fun u => v (a + u)) (b - a)) (some 0)) :
    ole (owk f v s) (owk f (fun u => if u < a then v u else v (u + (b - a))) (s - (b - a))) := by
  have e1 : owk f v s = omul (owk f (fun u => v (b + u)) (s - b)) (omul (owk f (fun u => v (a + u)) (b - a)) (owk f v a)) := by
    rw [← owk_add, show a + (b - a) = b by omega, ← owk_add, show b + (s - b) = s by omega]
  have e2 : owk f (fun u => if u < a then v u else v (u + (b - a))) (s - (b - a)) = omul (owk f (fun u => v (b + u)) (s - b)) (owk f v a) := by
    rw [show s - (b - a) = a + (s - b) by omega, owk_add]
    congr 1
    · refine owk_congr fun u _ => ?_
      show (if a + u < a then v (a + u) else v (a + u + (b - a))) = v (b + u)
      rw [if_neg (by omega), show a + u + (b - a) = b + u by omega]
    · refine owk_congr fun u hu => ?_
      show (if u < a then v u else v (u + (b - a))) = v u
      split
      · rfl
      · obtain rfl : u = a := by omega
        rw [show u + (b - u) = b by omega]; exact e.symm
  rw [e1, e2]
  exact omul_mono (ole_rfl _) (omul_le_r hin)
/-- A walk without a part that leads back. -/
theorem skip (f : Nat → Nat → Option Int) (v : Nat → Nat) (s a b : Nat) (hab : a < b) (hb : b ≤ s) (e : v a = v b) (hv : ∀ u, u ≤ s → v u < n) (hin : ole (owk f (fun u => v (a + u)) (b - a)) (some 0)) :
    ∃ v' : Nat → Nat, v' 0 = v 0 ∧ v' (s - (b - a)) = v s ∧ (∀ u, u ≤ s - (b - a) → v' u < n) ∧ ole (owk f v s) (owk f v' (s - (b - a))) := by
  refine ⟨fun u => if u < a then v u else v (u + (b - a)), ?_, ?_, ?_, ?_⟩
  · show (if 0 < a then v 0 else v (0 + (b - a))) = v 0
    split
    · rfl
    · next h => have h0 : a = 0 := by omega
                subst h0
                rw [show 0 + (b - 0) = b by omega]; exact e.symm
  · show (if s - (b - a) < a then v (s - (b - a)) else v (s - (b - a) + (b - a))) = v s
    rw [if_neg (by omega), show s - (b - a) + (b - a) = s by omega]
  · intro u hu
    show (if u < a then v u else v (u + (b - a))) < n
    split
    · exact hv u (by omega)
    · exact hv _ (by omega)
  · exact skip_wt f v s a b hab hb e hin
end skip

/-- Walks whose inner nodes all come before k. -/
theorem ofw_walk {f : Nat → Nat → Option Int} {k : Nat} (h : ∀ m, m < k → ole (ofw f m m m) (some 0)) (s : Nat) : ∀ v : Nat → Nat, 1 ≤ s → (∀ u, 0 < u → u < s → v u < k) → ole (owk f v s) (ofw f k (v s) (v 0)) := by
  induction s with
  | zero => intro v h1; omega
  | succ s ih =>
    intro v _ hv
    by_cases h0 : s = 0
    · subst h0
      show ole (omul (f (v 1) (v 0)) (some 0)) _
      rw [omul_zero]; exact ofw_ge f k _ _
    · exact ole_trans (omul_mono (ofw_ge f k _ _) (ih v (by omega) fun u h1 h2 => hv u h1 (by omega))) (ofw_trans f k h (v s) (hv s (by omega) (by omega)) _ _)
theorem ofw_att {f : Nat → Nat → Option Int} (k : Nat) : ∀ i j, ofw f k i j = none ∨ ∃ (v : Nat → Nat) (s : Nat), 1 ≤ s ∧ v 0 = j ∧ v s = i ∧ (∀ u, 0 < u → u < s → v u < k) ∧ ofw f k i j = owk f v s := by
  induction k with
  | zero =>
    intro i j
    exact .inr ⟨fun u => if u = 0 then j else i, 1, by omega, rfl, rfl, fun u _ _ => by omega, (omul_zero _).symm⟩
  | succ k ih =>
    intro i j
    rcases osup_cases (ofw f k i j) (omul (ofw f k i k) (ofw f k k j)) with e | e
    · rcases ih i j with z | ⟨v, s, h1, h2, h3, h4, z⟩
      · exact .inl (e.trans z)
      · exact .inr ⟨v, s, h1, h2, h3, fun u a b => by have := h4 u a b; omega, e.trans z⟩
    · rcases ih i k with z | ⟨v1, s1, a1, a2, a3, a4, z⟩
      · left; refine e.trans ?_; rw [z]; exact none_omul _
      · rcases ih k j with y | ⟨v2, s2, b1, b2, b3, b4, y⟩
        · left; refine e.trans ?_; rw [y]; exact omul_none _
        · right
          have q : ∀ u, (if s2 + u ≤ s2 then v2 (s2 + u) else v1 (s2 + u - s2)) = v1 u := fun u => by
            split
            · obtain rfl : u = 0 := by omega
              rw [Nat.add_zero, b3, a2]
            · rw [Nat.add_sub_cancel_left]
          refine ⟨fun u => if u ≤ s2 then v2 u else v1 (u - s2), s2 + s1, by omega, ?_, ?_, fun u hu1 hu2 => ?_, ?_⟩
          · show (if 0 ≤ s2 then v2 0 else v1 (0 - s2)) = j
            rw [if_pos (Nat.zero_le _)]; exact b2
          · exact (q s1).trans a3
          · show (if u ≤ s2 then v2 u else v1 (u - s2)) < k + 1
            split
            · by_cases e2 : u = s2
              · subst e2; rw [b3]; omega
              · have := b4 u hu1 (by omega); omega
            · have := a4 (u - s2) (by omega) (by omega); omega
          · rw [owk_add]
            refine e.trans ?_
            rw [z, y]
            congr 1
            · exact owk_congr fun u _ => (q u).symm
            · exact owk_congr fun u hu => (if_pos hu).symm
theorem ofw_short {f : Nat → Nat → Option Int} {k : Nat} (h : ∀ m, m < k → ole (ofw f m m m) (some 0)) (s : Nat) : ∀ v : Nat → Nat, 1 ≤ s → (∀ u, 0 < u → u < s → v u < k) → ∃ (v' : Nat → Nat) (s' : Nat), 1 ≤ s' ∧ s' ≤ k + 1 ∧ v' 0 = v 0 ∧ v' s' = v s ∧ (∀ u, 0 < u → u < s' → v' u < k) ∧ ole (owk f v s) (owk f v' s') := by
  induction s using Nat.strongRecOn with
  | _ s ih =>
    intro v h1 hv
    by_cases hs : s ≤ k + 1
    · exact ⟨v, s, h1, hs, rfl, rfl, hv, ole_rfl _⟩
    · obtain ⟨a, b, hab, hb, e⟩ := pigeon k (fun t => v (t + 1)) (fun t ht => hv (t + 1) (by omega) (by omega))
      have e : v (a + 1) = v (b + 1) := e
      have hin : ole (owk f (fun u => v (a + 1 + u)) (b + 1 - (a + 1))) (some 0) := by
        refine owk_diag h _ _ (fun u hu => hv _ (by omega) (by omega)) ?_
        show v (a + 1 + (b + 1 - (a + 1))) = v (a + 1 + 0)
        rw [show a + 1 + (b + 1 - (a + 1)) = b + 1 by omega]; exact e.symm
      have hw := skip_wt f v s (a + 1) (b + 1) (by omega) (by omega) e hin
      obtain ⟨v', s', q1, q2, q3, q4, q5, q6⟩ := ih (s - (b + 1 - (a + 1))) (by omega) (fun u => if u < a + 1 then v u else v (u + (b + 1 - (a + 1)))) (by omega) (fun u hu1 hu2 => by
        show (if u < a + 1 then v u else v (u + (b + 1 - (a + 1)))) < k
        split
        · exact hv u hu1 (by omega)
        · exact hv _ (by omega) (by omega))
      refine ⟨v', s', q1, q2, q3.trans ?_, q4.trans ?_, q5, ole_trans hw q6⟩
      · show (if 0 < a + 1 then v 0 else v (0 + (b + 1 - (a + 1)))) = v 0
        rw [if_pos (by omega)]
      · show (if s - (b + 1 - (a + 1)) < a + 1 then v (s - (b + 1 - (a + 1))) else v (s - (b + 1 - (a + 1)) + (b + 1 - (a + 1)))) = v s
        rw [if_neg (by omega), show s - (b + 1 - (a + 1)) + (b + 1 - (a + 1)) = s by omega]
theorem owk_lin {f : Nat → Nat → Option Int} {n : Nat} (hf : ∀ i j, i < n → j < n → ∀ x, f i j = some x → -1000001000000 ≤ x ∧ x ≤ 1000001000000) (s : Nat) : ∀ v : Nat → Nat, (∀ u, u ≤ s → v u < n) → ∀ x, owk f v s = some x → -(1000001000000 * (s : Int)) ≤ x ∧ x ≤ 1000001000000 * (s : Int) := by
  induction s with
  | zero => intro v _ x h; have : (0 : Int) = x := Option.some.inj h
            omega
  | succ s ih =>
    intro v hv x h
    have h : omul (f (v (s + 1)) (v s)) (owk f v s) = some x := h
    cases e1 : f (v (s + 1)) (v s) with
    | none => rw [e1, none_omul] at h; cases h
    | some y =>
      cases e2 : owk f v s with
      | none => rw [e2, omul_none] at h; cases h
      | some z =>
        rw [e1, e2] at h
        have h : y + z = x := Option.some.inj h
        have := hf _ _ (hv (s + 1) (by omega)) (hv s (by omega)) y e1
        have := ih v (fun u hu => hv u (by omega)) z e2
        omega
/-- Before a node comes back to itself with a gain, the rounds lead no farther than paths. -/
theorem ofw_lin {f : Nat → Nat → Option Int} {n k : Nat} (h : ∀ m, m < k → ole (ofw f m m m) (some 0)) (hk : k ≤ n) (hf : ∀ i j, i < n → j < n → ∀ x, f i j = some x → -1000001000000 ≤ x ∧ x ≤ 1000001000000) {i j : Nat} (hi : i < n) (hj : j < n) {x : Int} (hx : ofw f k i j = some x) :
    -(1000001000000 * ((k : Int) + 1)) ≤ x ∧ x ≤ 1000001000000 * ((k : Int) + 1) := by
  rcases ofw_att (f := f) k i j with z | ⟨v, s, h1, h2, h3, h4, z⟩
  · rw [z] at hx; cases hx
  · obtain ⟨v', s', q1, q2, q3, q4, q5, q6⟩ := ofw_short h s v h1 h4
    have q7 := ofw_walk h s' v' q1 q5
    rw [q3, q4, h2, h3] at q7
    rw [← z] at q6
    have e := ole_anti q7 q6
    rw [hx] at e
    have := owk_lin hf s' v' (fun u hu => by
      by_cases e1 : u = 0
      · subst e1; rw [q3, h2]; exact hj
      · by_cases e2 : u = s'
        · subst e2; rw [q4, h3]; exact hi
        · have := q5 u (by omega) (by omega); omega) x e
    omega
end M
end Go.Proofs.Ytfdckijililomaa
