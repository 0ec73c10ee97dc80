/- Plain facts: the closure of a square matrix of values, by rounds and by lengths. -/
import Derived.Test.YtackennmjmobdaaMatK
namespace Go.Proofs.Ytackennmjmobdaa
namespace M

def o (x : Int) : Option Int := if x = -1000000000000000 then none else some x
theorem o_inj {x y : Int} (h : o x = o y) : x = y := by
  unfold o at h
  split at h <;> split at h <;> simp_all
theorem o_bot : o (-1000000000000000) = none := by simp [o]
theorem o_fin {x : Int} (h : x ≠ -1000000000000000) : o x = some x := by simp [o, h]
theorem o_none {x : Int} : o x = none ↔ x = -1000000000000000 := by
  unfold o; split <;> simp_all
theorem sm_up {L L' v : Int} (h : Sm L v) (hL : L ≤ L') : Sm L' v := by unfold Sm at *; omega
theorem sm_ge {L v : Int} (h : Sm L v) (hL : L ≤ 100000000000000) : -1000000000000000 ≤ v := by unfold Sm at h; omega
theorem smt {L L' x y : Int} (hx : Sm L x) (hy : Sm L' y) : Sm (L + L') (times x y) := by
  unfold times Sm at *; split <;> omega
theorem smm {L x y : Int} (hx : Sm L x) (hy : Sm L y) : Sm L (max x y) := by
  rcases Int.le_total x y with h | h
  · rw [Int.max_eq_right h]; exact hy
  · rw [Int.max_eq_left h]; exact hx
theorem sms {L : Int} {k : Nat} {f : Nat → Int} (h : ∀ t, t < k → Sm L (f t)) : Sm L (sumN k f) := by
  induction k with
  | zero => exact .inl rfl
  | succ k ih => exact smm (ih fun t ht => h t (by omega)) (h k (by omega))
theorem o_times {L L' x y : Int} (hx : Sm L x) (hy : Sm L' y) (hL : L ≤ 100000000000000) (hL' : L' ≤ 100000000000000) : o (times x y) = omul (o x) (o y) := by
  unfold times Sm at *
  by_cases h1 : x = -1000000000000000
  · simp [h1, o, none_omul]
  · by_cases h2 : y = -1000000000000000
    · simp [h2, o, omul_none]
    · have h3 : ¬ x + y = -1000000000000000 := by omega
      simp [h1, h2, h3, o, omul]
theorem o_max {L x y : Int} (hx : Sm L x) (hy : Sm L y) (hL : L ≤ 100000000000000) : o (max x y) = osup (o x) (o y) := by
  unfold Sm at *
  by_cases h1 : x = -1000000000000000
  · by_cases h2 : y = -1000000000000000
    · simp [h1, h2, o, osup]
    · have e : max x y = y := by omega
      rw [e]; simp [h1, o, osup, h2]
  · by_cases h2 : y = -1000000000000000
    · have e : max x y = x := by omega
      rw [e]; simp [h1, o, osup, h2]
    · have h3 : ¬ max x y = -1000000000000000 := by omega
      simp [h1, h2, o, osup, h3]
theorem o_le {L x y : Int} (hx : Sm L x) (hy : Sm L y) (hL : L ≤ 100000000000000) : ole (o x) (o y) ↔ x ≤ y := by
  unfold Sm at *
  by_cases h1 : x = -1000000000000000
  · simp [h1, o, ole]; omega
  · by_cases h2 : y = -1000000000000000
    · simp [h1, h2, o, ole]; omega
    · simp [h1, h2, o, ole]
theorem o_sum {L : Int} {n : Nat} {f : Nat → Int} (h : ∀ t, t < n → Sm L (f t)) (hL : L ≤ 100000000000000) : o (sumN n f) = osum n fun t => o (f t) := by
  induction n with
  | zero => exact o_bot
  | succ n ih =>
    show o (max _ _) = osup _ _
    rw [o_max (sms fun t ht => h t (by omega)) (h n (by omega)) hL, ih fun t ht => h t (by omega)]

def unit (i j : Nat) : Int := if i = j then 0 else -1000000000000000
theorem o_unit (i j : Nat) : o (unit i j) = ounit i j := by
  unfold unit ounit
  split
  · rfl
  · exact o_bot
theorem sm_unit {L : Int} (hL : 0 ≤ L) (i j : Nat) : Sm L (unit i j) := by
  unfold unit Sm; split <;> omega
/-- The rounds over the nodes. -/
def cfw (A : Nat → Nat → Int) : Nat → Nat → Nat → Int
  | 0 => A
  | k + 1 => fun i j => max (cfw A k i j) (times (cfw A k i k) (cfw A k k j))
/-- Paths with at most so many arcs. -/
def cbm (A : Nat → Nat → Int) (n : Nat) : Nat → Nat → Nat → Int
  | 0 => unit
  | t + 1 => fun i j => max (unit i j) (sumN n fun u => times (A i u) (cbm A n t u j))
/-- Paths with just so many arcs. -/
def cpw (A : Nat → Nat → Int) (n : Nat) : Nat → Nat → Nat → Int
  | 0 => unit
  | t + 1 => fun i j => sumN n fun u => times (cpw A n t i u) (A u j)
/-- How far a round may lead. -/
def W : Nat → Int
  | 0 => 1000000
  | k + 1 => W k + W k
theorem W_pos (k : Nat) : 1000000 ≤ W k := by
  induction k with
  | zero => exact Int.le_refl _
  | succ k ih => show _ ≤ W k + W k; omega
theorem W_mono {k m : Nat} (h : k ≤ m) : W k ≤ W m := by
  induction m with
  | zero => obtain rfl : k = 0 := by omega
            exact Int.le_refl _
  | succ m ih =>
    by_cases e : k = m + 1
    · subst e; exact Int.le_refl _
    · have h1 := ih (by omega)
      have h2 := W_pos m
      show _ ≤ W m + W m; omega
theorem W_10 : W 10 = 1024000000 := rfl
theorem W_le {k : Nat} (h : k ≤ 10) : W k ≤ 1024000000 := by rw [← W_10]; exact W_mono h

theorem cfw_sm {A : Nat → Nat → Int} {n : Nat} (hA : ∀ i j, i < n → j < n → Sm 1000000 (A i j)) (k : Nat) (hk : k ≤ n) : ∀ i j, i < n → j < n → Sm (W k) (cfw A k i j) := by
  induction k with
  | zero => exact hA
  | succ k ih =>
    intro i j hi hj
    have h := ih (by omega)
    have := W_pos k
    exact smm (sm_up (h i j hi hj) (by show _ ≤ W k + W k; omega)) (smt (h i k hi (by omega)) (h k j (by omega) hj))
theorem cbm_sm {A : Nat → Nat → Int} {n : Nat} (hA : ∀ i j, i < n → j < n → Sm 1000000 (A i j)) (t : Nat) : ∀ i j, i < n → j < n → Sm (1000000 * t) (cbm A n t i j) := by
  induction t with
  | zero => intro i j _ _; exact sm_unit (by omega) i j
  | succ t ih =>
    intro i j hi hj
    refine smm (sm_unit (by omega) i j) (sms fun u hu => sm_up (smt (hA i u hi hu) (ih u j hu hj)) (by omega))
theorem cpw_sm {A : Nat → Nat → Int} {n : Nat} (hA : ∀ i j, i < n → j < n → Sm 1000000 (A i j)) (t : Nat) : ∀ i j, i < n → j < n → Sm (1000000 * t) (cpw A n t i j) := by
  induction t with
  | zero => intro i j _ _; exact sm_unit (by omega) i j
  | succ t ih =>
    intro i j hi hj
    exact sms fun u hu => sm_up (smt (ih i u hi hu) (hA u j hu hj)) (by omega)
theorem o_cbm {A : Nat → Nat → Int} {n : Nat} (hA : ∀ i j, i < n → j < n → Sm 1000000 (A i j)) (t : Nat) (ht : t ≤ 11) : ∀ i j, i < n → j < n → o (cbm A n t i j) = obm (fun i j => o (A i j)) n t i j := by
  induction t with
  | zero => intro i j _ _; exact o_unit i j
  | succ t ih =>
    intro i j hi hj
    have h := ih (by omega)
    have b := cbm_sm hA t
    have s : ∀ u, u < n → Sm 100000000 (times (A i u) (cbm A n t u j)) := fun u hu => sm_up (smt (hA i u hi hu) (b u j hu hj)) (by omega)
    show o (max _ _) = osup _ _
    rw [o_max (L := 100000000) (sm_unit (by omega) i j) (sms s) (by omega), o_unit, o_sum s (by omega)]
    congr 1
    refine osum_congr fun u hu => ?_
    rw [o_times (hA i u hi hu) (b u j hu hj) (by omega) (by omega), h u j hu hj]
theorem o_cpw {A : Nat → Nat → Int} {n : Nat} (hA : ∀ i j, i < n → j < n → Sm 1000000 (A i j)) (t : Nat) (ht : t ≤ 11) : ∀ i j, i < n → j < n → o (cpw A n t i j) = opw (fun i j => o (A i j)) n t i j := by
  induction t with
  | zero => intro i j _ _; exact o_unit i j
  | succ t ih =>
    intro i j hi hj
    have h := ih (by omega)
    have b := cpw_sm hA t
    have s : ∀ u, u < n → Sm 100000000 (times (cpw A n t i u) (A u j)) := fun u hu => sm_up (smt (b i u hi hu) (hA u j hu hj)) (by omega)
    show o (sumN n _) = osum n _
    rw [o_sum s (by omega)]
    refine osum_congr fun u hu => ?_
    rw [o_times (b i u hi hu) (hA u j hu hj) (by omega) (by omega), h i u hi hu]
section sq
variable {A : Nat → Nat → Int} {n : Nat} (hn : n ≤ 10) (hA : ∀ i j, i < n → j < n → Sm 1000000 (A i j))
include hn hA
theorem cfw_big (k : Nat) (hk : k ≤ n) (i j : Nat) (hi : i < n) (hj : j < n) : Sm 1024000000 (cfw A k i j) :=
  sm_up (cfw_sm hA k hk i j hi hj) (W_le (by omega))
theorem o_cfw (k : Nat) (hk : k ≤ n) : ∀ i j, i < n → j < n → o (cfw A k i j) = ofw (fun i j => o (A i j)) k i j := by
  induction k with
  | zero => intro i j _ _; rfl
  | succ k ih =>
    intro i j hi hj
    have h := ih (by omega)
    have b := cfw_big hn hA k (by omega)
    show o (max _ _) = osup _ _
    rw [o_max (L := 2048000000) (sm_up (b i j hi hj) (by omega)) (smt (b i k hi (by omega)) (b k j (by omega) hj)) (by omega),
      o_times (b i k hi (by omega)) (b k j (by omega) hj) (by omega) (by omega), h i j hi hj, h i k hi (by omega), h k j (by omega) hj]
end sq

/-- No node comes back to itself with a gain. -/
def noPos (A : Nat → Nat → Int) (n : Nat) : Bool := (List.range n).all fun k => decide (cfw A k k k ≤ 0)
theorem noPos_t {A : Nat → Nat → Int} {n : Nat} (h : noPos A n = true) {k : Nat} (hk : k < n) : cfw A k k k ≤ 0 := by
  have := List.all_eq_true.1 h k (List.mem_range.2 hk)
  simpa using this
theorem noPos_of {A : Nat → Nat → Int} {n : Nat} (h : ∀ k, k < n → cfw A k k k ≤ 0) : noPos A n = true :=
  List.all_eq_true.2 fun k hk => by simpa using h k (List.mem_range.1 hk)
theorem noPos_f {A : Nat → Nat → Int} {n k : Nat} (hk : k < n) (h : ¬ cfw A k k k ≤ 0) : noPos A n = false := by
  cases e : noPos A n with
  | false => rfl
  | true => exact absurd (noPos_t e hk) h

section clo
variable {A : Nat → Nat → Int} {n : Nat} (hn : n ≤ 10) (hA : ∀ i j, i < n → j < n → Sm 1000000 (A i j))
include hn hA
theorem pos_iff {m : Nat} (hm : m < n) : ole (ofw (fun i j => o (A i j)) m m m) (some 0) ↔ cfw A m m m ≤ 0 := by
  rw [← o_cfw hn hA m (by omega) m m hm hm, show some (0 : Int) = o 0 from rfl]
  exact o_le (cfw_big hn hA m (by omega) m m hm hm) (.inr (by omega)) (by omega)
theorem o_diag (h : noPos A n = true) : ∀ m, m < n → ole (ofw (fun i j => o (A i j)) m m m) (some 0) :=
  fun _ hm => (pos_iff hn hA hm).2 (noPos_t h hm)
/-- In its own round a node's row and column stay. -/
theorem cfw_col {k : Nat} (hk : k < n) (h : cfw A k k k ≤ 0) {i : Nat} (hi : i < n) : cfw A (k + 1) i k = cfw A k i k := by
  have b1 := cfw_big hn hA k (by omega) i k hi hk
  show max _ (times _ _) = _
  generalize cfw A k i k = x at *
  generalize cfw A k k k = d at *
  unfold times Sm at *
  split <;> omega
theorem cfw_row {k : Nat} (hk : k < n) (h : cfw A k k k ≤ 0) {j : Nat} (hj : j < n) : cfw A (k + 1) k j = cfw A k k j := by
  have b1 := cfw_big hn hA k (by omega) k j hk hj
  show max _ (times _ _) = _
  generalize cfw A k k j = x at *
  generalize cfw A k k k = d at *
  unfold times Sm at *
  split <;> omega
theorem clo_same (h : noPos A n = true) {i j : Nat} (hi : i < n) (hj : j < n) : cbm A n (n + 1) i j = cbm A n n i j := by
  refine o_inj ?_
  rw [o_cbm hA (n + 1) (by omega) i j hi hj, o_cbm hA n (by omega) i j hi hj]
  exact obm_stable (o_diag hn hA h) hi hj
theorem clo_plus (h : noPos A n = true) {i j : Nat} (hi : i < n) (hj : j < n) : (sumN n fun u => times (A i u) (cbm A n n u j)) = cfw A n i j := by
  refine o_inj ?_
  have b := cbm_sm hA n
  rw [o_sum (L := 100000000) (fun u hu => sm_up (smt (hA i u hi hu) (b u j hu hj)) (by omega)) (by omega), o_cfw hn hA n (Nat.le_refl _) i j hi hj, ← osum_plus (o_diag hn hA h) hi hj]
  refine osum_congr fun u hu => ?_
  rw [o_times (hA i u hi hu) (b u j hu hj) (by omega) (by omega), o_cbm hA n (by omega) u j hu hj]
theorem clo_star (h : noPos A n = true) {i j : Nat} (hi : i < n) (hj : j < n) : cbm A n n i j = if i = j then 0 else cfw A n i j := by
  refine o_inj ?_
  rw [o_cbm hA n (by omega) i j hi hj]
  split
  · next e =>
    subst e
    exact obm_self (o_diag hn hA h) hi
  · next e => rw [obm_other (o_diag hn hA h) hi hj e, o_cfw hn hA n (Nat.le_refl _) i j hi hj]
theorem clo_pos (h : noPos A n = false) : ∃ i j, i < n ∧ j < n ∧ cbm A n (n + 1) i j ≠ cbm A n n i j := by
  refine Classical.byContradiction fun k => ?_
  have : noPos A n = true := noPos_of fun m hm => (pos_iff hn hA hm).1 (obm_grows (fun i j hi hj => by
    rw [← o_cbm hA (n + 1) (by omega) i j hi hj, ← o_cbm hA n (by omega) i j hi hj]
    congr 1
    exact Classical.byContradiction fun e => k ⟨i, j, hi, hj, e⟩) m hm)
  rw [this] at h; cases h
end clo
end M
end Go.Proofs.Ytackennmjmobdaa
