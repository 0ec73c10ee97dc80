/- Plain facts: the closure of a square matrix of values, by rounds and by lengths. -/
import Derived.Test.YtfdckijililomaaMatK
namespace Go.Proofs.Ytfdckijililomaa
namespace M

def o (x : Int) : Option Int := if x = -1000000000000000 then none else some x
theorem o_inj {x y : Int} (h : o x = o y) : x = y := by
  unfold o at h
  split at h <;> split at h <;> simp_all
theorem o_bot : o (-1000000000000000) = none := by simp [o]
theorem o_fin {x : Int} (h : x ≠ -1000000000000000) : o x = some x := by simp [o, h]
theorem o_none {x : Int} : o x = none ↔ x = -1000000000000000 := by
  unfold o; split <;> simp_all
theorem sm_up {L L' v : Int} (h : Sm L v) (hL : L ≤ L') : Sm L' v := by unfold Sm at *; omega
theorem sm_ge {L v : Int} (h : Sm L v) (hL : L ≤ 100000000000000) : -1000000000000000 ≤ v := by unfold Sm at h; omega
theorem smt {L L' x y : Int} (hx : Sm L x) (hy : Sm L' y) : Sm (L + L') (times x y) := by
  unfold times Sm at *; split <;> omega
theorem smm {L x y : Int} (hx : Sm L x) (hy : Sm L y) : Sm L (max x y) := by
  rcases Int.le_total x y with h | h
  · rw [Int.max_eq_right h]; exact hy
  · rw [Int.max_eq_left h]; exact hx
theorem sms {L : Int} {k : Nat} {f : Nat → Int} (h : ∀ t, t < k → Sm L (f t)) : Sm L (sumN k f) := by
  induction k with
  | zero => exact .inl rfl
  | succ k ih => exact smm (ih fun t ht => h t (by omega)) (h k (by omega))
theorem o_times {L L' x y : Int} (hx : Sm L x) (hy : Sm L' y) (hL : L ≤ 100000000000000) (hL' : L' ≤ 100000000000000) : o (times x y) = omul (o x) (o y) := by
  unfold times Sm at *
  by_cases h1 : x = -1000000000000000
  · simp [h1, o, none_omul]
  · by_cases h2 : y = -1000000000000000
    · simp [h2, o, omul_none]
    · have h3 : ¬ x + y = -1000000000000000 := by omega
      simp [h1, h2, h3, o, omul]
theorem o_max {L x y : Int} (hx : Sm L x) (hy : Sm L y) (hL : L ≤ 100000000000000) : o (max x y) = osup (o x) (o y) := by
  unfold Sm at *
  by_cases h1 : x = -1000000000000000
  · by_cases h2 : y = -1000000000000000
    · simp [h1, h2, o, osup]
    · have e : max x y = y := by omega
      rw [e]; simp [h1, o, osup, h2]
  · by_cases h2 : y = -1000000000000000
    · have e : max x y = x := by omega
      rw [e]; simp [h1, o, osup, h2]
    · have h3 : ¬ max x y = -1000000000000000 := by omega
      simp [h1, h2, o, osup, h3]
theorem o_le {L x y : Int} (hx : Sm L x) (hy : Sm L y) (hL : L ≤ 100000000000000) : ole (o x) (o y) ↔ x ≤ y := by
  unfold Sm at *
  by_cases h1 : x = -1000000000000000
  · simp [h1, o, ole]; omega
  · by_cases h2 : y = -1000000000000000
    · simp [h1, h2, o, ole]; omega
    · simp [h1, h2, o, ole]
theorem o_sum {L : Int} {n : Nat} {f : Nat → Int} (h : ∀ t, t < n → Sm L (f t)) (hL : L ≤ 100000000000000) : o (sumN n f) = osum n fun t => o (f t) := by
  induction n with
  | zero => exact o_bot
  | succ n ih =>
    show o (max _ _) = osup _ _
    rw [o_max (sms fun t ht => h t (by omega)) (h n (by omega)) hL, ih fun t ht => h t (by omega)]

def unit (i j : Nat) : Int := if i = j then 0 else -1000000000000000
theorem o_unit (i j : Nat) : o (unit i j) = ounit i j := by
  unfold unit ounit
  split
  · rfl
  · exact o_bot
theorem sm_unit {L : Int} (hL : 0 ≤ L) (i j : Nat) : Sm L (unit i j) := by
  unfold unit Sm; split <;> omega
/-- The rounds over the nodes. -/
def cfw (A : Nat → Nat → Int) : Nat → Nat → Nat → Int
  | 0 => A
  | k + 1 => fun i j => max (cfw A k i j) (times (cfw A k i k) (cfw A k k j))
/-- Paths with at most so many arcs. -/
def cbm (A : Nat → Nat → Int) (n : Nat) : Nat → Nat → Nat → Int
  | 0 => unit
  | t + 1 => fun i j => max (unit i j) (sumN n fun u => times (A i u) (cbm A n t u j))
/-- Paths with just so many arcs. -/
def cpw (A : Nat → Nat → Int) (n : Nat) : Nat → Nat → Nat → Int
  | 0 => unit
  | t + 1 => fun i j => sumN n fun u => times (cpw A n t i u) (A u j)
theorem cbm_sm {A : Nat → Nat → Int} {n : Nat} (hA : ∀ i j, i < n → j < n → Sm 1000001000000 (A i j)) (t : Nat) : ∀ i j, i < n → j < n → Sm (1000001000000 * t) (cbm A n t i j) := by
  induction t with
  | zero => intro i j _ _; exact sm_unit (by omega) i j
  | succ t ih =>
    intro i j hi hj
    refine smm (sm_unit (by omega) i j) (sms fun u hu => sm_up (smt (hA i u hi hu) (ih u j hu hj)) (by omega))
theorem cpw_sm {A : Nat → Nat → Int} {n : Nat} (hA : ∀ i j, i < n → j < n → Sm 1000001000000 (A i j)) (t : Nat) : ∀ i j, i < n → j < n → Sm (1000001000000 * t) (cpw A n t i j) := by
  induction t with
  | zero => intro i j _ _; exact sm_unit (by omega) i j
  | succ t ih =>
    intro i j hi hj
    exact sms fun u hu => sm_up (smt (ih i u hi hu) (hA u j hu hj)) (by omega)
theorem o_cbm {A : Nat → Nat → Int} {n : Nat} (hA : ∀ i j, i < n → j < n → Sm 1000001000000 (A i j)) (t : Nat) (ht : t ≤ 11) : ∀ i j, i < n → j < n → o (cbm A n t i j) = obm (fun i j => o (A i j)) n t i j := by
  induction t with
  | zero => intro i j _ _; exact o_unit i j
  | succ t ih =>
    intro i j hi hj
    have h := ih (by omega)
    have b := cbm_sm hA t
    have s : ∀ u, u < n → Sm 100000000000000 (times (A i u) (cbm A n t u j)) := fun u hu => sm_up (smt (hA i u hi hu) (b u j hu hj)) (by omega)
    show o (max _ _) = osup _ _
    rw [o_max (L := 100000000000000) (sm_unit (by omega) i j) (sms s) (by omega), o_unit, o_sum s (by omega)]
    congr 1
    refine osum_congr fun u hu => ?_
    rw [o_times (hA i u hi hu) (b u j hu hj) (by omega) (by omega), h u j hu hj]
theorem o_cpw {A : Nat → Nat → Int} {n : Nat} (hA : ∀ i j, i < n → j < n → Sm 1000001000000 (A i j)) (t : Nat) (ht : t ≤ 11) : ∀ i j, i < n → j < n → o (cpw A n t i j) = opw (fun i j => o (A i j)) n t i j := by
  induction t with
  | zero => intro i j _ _; exact o_unit i j
  | succ t ih =>
    intro i j hi hj
    have h := ih (by omega)
    have b := cpw_sm hA t
    have s : ∀ u, u < n → Sm 100000000000000 (times (cpw A n t i u) (A u j)) := fun u hu => sm_up (smt (b i u hi hu) (hA u j hu hj)) (by omega)
    show o (sumN n _) = osum n _
    rw [o_sum s (by omega)]
    refine osum_congr fun u hu => ?_
    rw [o_times (b i u hi hu) (hA u j hu hj) (by omega) (by omega), h i u hi hu]
section sq
variable {A : Nat → Nat → Int} {n : Nat} (hn : n ≤ 10) (hA : ∀ i j, i < n → j < n → Sm 1000001000000 (A i j))
include hn hA
omit hn in
theorem o_lin : ∀ i j, i < n → j < n → ∀ x, o (A i j) = some x → -1000001000000 ≤ x ∧ x ≤ 1000001000000 := fun i j hi hj x h => by
  have hs := hA i j hi hj
  unfold o at h
  split at h
  · cases h
  · have := Option.some.inj h
    unfold Sm at hs; omega
/-- As long as no node came back to itself with a gain. -/
theorem cfw_all (k : Nat) : k ≤ n → (∀ m, m < k → cfw A m m m ≤ 0) → ∀ i j, i < n → j < n → Sm (1000001000000 * ((k : Int) + 1)) (cfw A k i j) ∧ o (cfw A k i j) = ofw (fun i j => o (A i j)) k i j := by
  induction k using Nat.strongRecOn with
  | _ k ih =>
    intro hk hd
    cases k with
    | zero => exact fun i j hi hj => ⟨sm_up (hA i j hi hj) (by omega), rfl⟩
    | succ k =>
      have h := ih k (by omega) (by omega) fun m hm => hd m (by omega)
      have hdo : ∀ m, m < k + 1 → ole (ofw (fun i j => o (A i j)) m m m) (some 0) := fun m hm => by
        obtain ⟨b1, b2⟩ := ih m hm (by omega) (fun u hu => hd u (by omega)) m m (by omega) (by omega)
        rw [← b2, show some (0 : Int) = o 0 from rfl]
        exact (o_le b1 (.inr (by omega)) (by omega)).2 (hd m hm)
      intro i j hi hj
      obtain ⟨b1, e1⟩ := h i j hi hj
      obtain ⟨b2, e2⟩ := h i k hi (by omega)
      obtain ⟨b3, e3⟩ := h k j (by omega) hj
      have e : o (cfw A (k + 1) i j) = ofw (fun i j => o (A i j)) (k + 1) i j := by
        show o (max _ _) = osup _ _
        rw [o_max (L := 100000000000000) (sm_up b1 (by omega)) (sm_up (smt b2 b3) (by omega)) (by omega), o_times b2 b3 (by omega) (by omega), e1, e2, e3]
      refine ⟨?_, e⟩
      by_cases hb : cfw A (k + 1) i j = -1000000000000000
      · exact .inl hb
      · rw [o_fin hb] at e
        exact .inr (by have := ofw_lin hdo hk (o_lin hA) hi hj e.symm; omega)
theorem cfw_big {k : Nat} (hk : k ≤ n) (hd : ∀ m, m < k → cfw A m m m ≤ 0) (i j : Nat) (hi : i < n) (hj : j < n) : Sm 11000011000000 (cfw A k i j) :=
  sm_up (cfw_all hn hA k hk hd i j hi hj).1 (by omega)
theorem o_cfw {k : Nat} (hk : k ≤ n) (hd : ∀ m, m < k → cfw A m m m ≤ 0) (i j : Nat) (hi : i < n) (hj : j < n) : o (cfw A k i j) = ofw (fun i j => o (A i j)) k i j :=
  (cfw_all hn hA k hk hd i j hi hj).2
end sq

/-- No node comes back to itself with a gain. -/
def noPos (A : Nat → Nat → Int) (n : Nat) : Bool := (List.range n).all fun k => decide (cfw A k k k ≤ 0)
theorem noPos_t {A : Nat → Nat → Int} {n : Nat} (h : noPos A n = true) {k : Nat} (hk : k < n) : cfw A k k k ≤ 0 := by
  have := List.all_eq_true.1 h k (List.mem_range.2 hk)
  simpa using this
theorem noPos_of {A : Nat → Nat → Int} {n : Nat} (h : ∀ k, k < n → cfw A k k k ≤ 0) : noPos A n = true :=
  List.all_eq_true.2 fun k hk => by simpa using h k (List.mem_range.1 hk)
theorem noPos_f {A : Nat → Nat → Int} {n k : Nat} (hk : k < n) (h : ¬ cfw A k k k ≤ 0) : noPos A n = false := by
  cases e : noPos A n with
  | false => rfl
  | true => exact absurd (noPos_t e hk) h

section clo
variable {A : Nat → Nat → Int} {n : Nat} (hn : n ≤ 10) (hA : ∀ i j, i < n → j < n → Sm 1000001000000 (A i j))
include hn hA
theorem pos_iff {m : Nat} (hm : m < n) (hd : ∀ u, u < m → cfw A u u u ≤ 0) : ole (ofw (fun i j => o (A i j)) m m m) (some 0) ↔ cfw A m m m ≤ 0 := by
  rw [← o_cfw hn hA (by omega) hd m m hm hm, show some (0 : Int) = o 0 from rfl]
  exact o_le (cfw_big hn hA (by omega) hd m m hm hm) (.inr (by omega)) (by omega)
theorem o_diag (h : noPos A n = true) : ∀ m, m < n → ole (ofw (fun i j => o (A i j)) m m m) (some 0) :=
  fun _ hm => (pos_iff hn hA hm fun _ hu => noPos_t h (by omega)).2 (noPos_t h hm)
theorem noPos_o (h : ∀ m, m < n → ole (ofw (fun i j => o (A i j)) m m m) (some 0)) : noPos A n = true := by
  refine noPos_of fun m => ?_
  induction m using Nat.strongRecOn with
  | _ m ih => exact fun hm => (pos_iff hn hA hm fun u hu => ih u hu (by omega)).1 (h m hm)
/-- In its own round a node's row and column stay. -/
theorem cfw_col {k : Nat} (hk : k < n) (hd : ∀ m, m < k → cfw A m m m ≤ 0) (h : cfw A k k k ≤ 0) {i : Nat} (hi : i < n) : cfw A (k + 1) i k = cfw A k i k := by
  have b1 := cfw_big hn hA (by omega) hd i k hi hk
  show max _ (times _ _) = _
  generalize cfw A k i k = x at *
  generalize cfw A k k k = d at *
  unfold times Sm at *
  split <;> omega
theorem cfw_row {k : Nat} (hk : k < n) (hd : ∀ m, m < k → cfw A m m m ≤ 0) (h : cfw A k k k ≤ 0) {j : Nat} (hj : j < n) : cfw A (k + 1) k j = cfw A k k j := by
  have b1 := cfw_big hn hA (by omega) hd k j hk hj
  show max _ (times _ _) = _
  generalize cfw A k k j = x at *
  generalize cfw A k k k = d at *
  unfold times Sm at *
  split <;> omega
theorem clo_same (h : noPos A n = true) {i j : Nat} (hi : i < n) (hj : j < n) : cbm A n (n + 1) i j = cbm A n n i j := by
  refine o_inj ?_
  rw [o_cbm hA (n + 1) (by omega) i j hi hj, o_cbm hA n (by omega) i j hi hj]
  exact obm_stable (o_diag hn hA h) hi hj
theorem clo_plus (h : noPos A n = true) {i j : Nat} (hi : i < n) (hj : j < n) : (sumN n fun u => times (A i u) (cbm A n n u j)) = cfw A n i j := by
  refine o_inj ?_
  have b := cbm_sm hA n
  rw [o_sum (L := 100000000000000) (fun u hu => sm_up (smt (hA i u hi hu) (b u j hu hj)) (by omega)) (by omega), o_cfw hn hA (Nat.le_refl _) (fun _ hu => noPos_t h hu) i j hi hj, ← osum_plus (o_diag hn hA h) hi hj]
  refine osum_congr fun u hu => ?_
  rw [o_times (hA i u hi hu) (b u j hu hj) (by omega) (by omega), o_cbm hA n (by omega) u j hu hj]
theorem clo_star (h : noPos A n = true) {i j : Nat} (hi : i < n) (hj : j < n) : cbm A n n i j = if i = j then 0 else cfw A n i j := by
  refine o_inj ?_
  rw [o_cbm hA n (by omega) i j hi hj]
  split
  · next e =>
    subst e
    exact obm_self (o_diag hn hA h) hi
  · next e => rw [obm_other (o_diag hn hA h) hi hj e, o_cfw hn hA (Nat.le_refl _) (fun _ hu => noPos_t h hu) i j hi hj]
theorem clo_pos (h : noPos A n = false) : ∃ i j, i < n ∧ j < n ∧ cbm A n (n + 1) i j ≠ cbm A n n i j := by
  refine Classical.byContradiction fun k => ?_
  have : noPos A n = true := noPos_o hn hA (obm_grows fun i j hi hj => by
    rw [← o_cbm hA (n + 1) (by omega) i j hi hj, ← o_cbm hA n (by omega) i j hi hj]
    congr 1
    exact Classical.byContradiction fun e => k ⟨i, j, hi, hj, e⟩)
  rw [this] at h; cases h
end clo
end M
end Go.Proofs.Ytfdckijililomaa
