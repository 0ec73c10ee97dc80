/- The plain functions of chapter 1: values and ratios as integers; no Go in sight. -/
namespace Go.Proofs.Ytfdckijililomaa
namespace M

def isFin (a : Int) : Bool := decide (-1000000 ≤ a) && decide (a ≤ 1000000)
def isVal (a : Int) : Bool := decide (a = -1000000000000000) || isFin a
def times (a b : Int) : Int := if a = -1000000000000000 ∨ b = -1000000000000000 then -1000000000000000 else a + b
def chk (a : Int) : Int × Int := if isVal a then (a, 0) else (0, 3)
def prodOf (a b : Int) : Int × Int := if isVal a && isVal b then chk (times a b) else (0, 1)
def power (a n : Int) : Int := if n = 0 then 0 else if a = -1000000000000000 then -1000000000000000 else a * n
def inR (n : Int) : Bool := decide (0 ≤ n) && decide (n ≤ 1000000)
def powOf (a n : Int) : Int × Int := if isVal a then (if inR n then chk (power a n) else (0, 2)) else (0, 1)
def over (a b : Int) : Int := if a = -1000000000000000 then -1000000000000000 else a - b
def quoOf (a b : Int) : Int × Int := if isVal a && isVal b then (if b = -1000000000000000 then (0, 5) else chk (over a b)) else (0, 1)

theorem isFin_t {a : Int} (h : isFin a = true) : -1000000 ≤ a ∧ a ≤ 1000000 := by simpa [isFin] using h
theorem isFin_f {a : Int} (h : isFin a = false) : ¬(-1000000 ≤ a ∧ a ≤ 1000000) := by
  intro h'; simp [isFin, h'] at h
theorem isVal_t {a : Int} (h : isVal a = true) : a = -1000000000000000 ∨ (-1000000 ≤ a ∧ a ≤ 1000000) := by simpa [isVal, isFin] using h
theorem isVal_bound {a : Int} (h : isVal a = true) : -1000000000000000 ≤ a ∧ a ≤ 1000000 := by
  rcases isVal_t h with h | h <;> omega

theorem inR_t {n : Int} (h : inR n = true) : 0 ≤ n ∧ n ≤ 1000000 := by simpa [inR] using h
theorem inR_f {n : Int} (h : inR n = false) : ¬(0 ≤ n ∧ n ≤ 1000000) := by
  intro h'; simp [inR, h'] at h
theorem isVal_of_fin {a : Int} (h : isFin a = true) : isVal a = true := by simp [isVal, h]
theorem bot_val : isVal (-1000000000000000) = true := by decide
theorem powOf_0 {a : Int} (ha : isVal a = true) : powOf a 0 = (0, 0) := by
  have h0 : inR 0 = true := by decide
  have h1 : isVal 0 = true := by decide
  simp [powOf, ha, h0, power, chk, h1]
theorem powOf_b {n : Int} (hn : inR n = true) (h0 : ¬n = 0) : powOf (-1000000000000000) n = (-1000000000000000, 0) := by
  simp [powOf, bot_val, hn, power, h0, chk]
theorem powOf_y {a n : Int} (ha : isVal a = true) (hn : inR n = true) (h : ¬a = -1000000000000000) (h0 : ¬n = 0) (hv : isFin (a * n) = true) : powOf a n = (a * n, 0) := by
  simp [powOf, ha, hn, power, h0, h, chk, isVal_of_fin hv]
theorem powOf_n {a n : Int} (ha : isVal a = true) (hn : inR n = true) (h : ¬a = -1000000000000000) (h0 : ¬n = 0) (hv : isFin (a * n) = false) (hp : -1000000000000 ≤ a * n) : powOf a n = (0, 3) := by
  have : isVal (a * n) = false := by
    simp only [isVal, hv, Bool.or_false, decide_eq_false_iff_not]; omega
  simp [powOf, ha, hn, power, h0, h, chk, this]
theorem quoOf_b {a : Int} (ha : isVal a = true) : quoOf a (-1000000000000000) = (0, 5) := by
  simp [quoOf, ha, bot_val]
theorem quoOf_a {b : Int} (hb : isVal b = true) (h : ¬b = -1000000000000000) : quoOf (-1000000000000000) b = (-1000000000000000, 0) := by
  simp [quoOf, hb, bot_val, h, over, chk]
theorem gcd_step (x y : Int) : Int.gcd (y.tmod x) x = Int.gcd x y := by
  simp only [Int.gcd, Int.natAbs_tmod]
  rw [← Nat.gcd_rec x.natAbs y.natAbs]
theorem gcd_step' (x y : Int) (h : 0 ≤ x) : Int.gcd y (x % y) = Int.gcd x y := by
  simp only [Int.gcd, Int.natAbs_emod_of_nonneg h]
  rw [Nat.gcd_comm x.natAbs, Nat.gcd_rec y.natAbs x.natAbs, Nat.gcd_comm]
theorem tmod_lt (x y : Int) (h : x ≠ 0) : (y.tmod x).natAbs < x.natAbs := by
  rw [Int.natAbs_tmod]; exact Nat.mod_lt _ (by omega)
theorem gcd_zero (y : Int) : (Int.gcd 0 y : Int) = if y < 0 then -y else y := by
  simp only [Int.gcd_zero_left]
  split <;> omega
theorem gcd_zero' (y : Int) (h : 0 ≤ y) : (Int.gcd y 0 : Int) = y := by
  simp only [Int.gcd_zero_right]
  omega
theorem gcd_abs (x y : Int) : Int.gcd (max x (-x)) (max y (-y)) = Int.gcd x y := by
  have h : ∀ z : Int, (max z (-z)).natAbs = z.natAbs := by intro z; omega
  simp only [Int.gcd, h]
theorem gcd_pos {x y : Int} (h : y ≠ 0) : (0 : Int) < Int.gcd x y := by
  have := Int.gcd_pos_of_ne_zero_right x h
  omega

def isRat (n d : Int) : Bool := isFin n && decide (1 ≤ d) && decide (d ≤ 1000000) && decide ((Int.gcd n d : Int) = 1)
theorem isRat_t {n d : Int} (h : isRat n d = true) : -1000000 ≤ n ∧ n ≤ 1000000 ∧ 1 ≤ d ∧ d ≤ 1000000 ∧ (Int.gcd n d : Int) = 1 := by
  simp [isRat, isFin] at h
  omega
def ratN (n d : Int) : Int := (if d < 0 then -n else n).tdiv (Int.gcd n d)
def ratD (n d : Int) : Int := (if d < 0 then -d else d).tdiv (Int.gcd n d)
theorem gcd_le (n d : Int) (h : d ≠ 0) (a : -1000000 ≤ d) (b : d ≤ 1000000) : (Int.gcd n d : Int) ≤ 1000000 := by
  have := Int.gcd_le_natAbs_right n h
  omega
theorem ratN_neg {n d : Int} (h : d < 0) : n.tdiv (-(Int.gcd n d : Int)) = ratN n d := by
  simp [ratN, h]
theorem ratD_neg {n d : Int} (h : d < 0) : d.tdiv (-(Int.gcd n d : Int)) = ratD n d := by
  simp [ratD, h]
theorem ratN_pos {n d : Int} (h : ¬ d < 0) : n.tdiv (Int.gcd n d : Int) = ratN n d := by
  simp [ratN, h]
theorem ratD_pos {n d : Int} (h : ¬ d < 0) : d.tdiv (Int.gcd n d : Int) = ratD n d := by
  simp [ratD, h]
def mkRat (n d : Int) : Int × Int × Int := if isFin n && isFin d then (if d = 0 then (0, 0, 5) else (ratN n d, ratD n d, 0)) else (0, 0, 1)
theorem mkRat_1 {n d : Int} (h : (isFin n && isFin d) = false) : mkRat n d = (0, 0, 1) := by simp [mkRat, h]
theorem mkRat_2 {n : Int} (h : isFin n = true) : mkRat n 0 = (0, 0, 5) := by
  have h0 : isFin 0 = true := by decide
  simp [mkRat, h, h0]
theorem mkRat_3 {n d : Int} (h : isFin n = true) (h2 : isFin d = true) (h3 : d ≠ 0) : mkRat n d = (ratN n d, ratD n d, 0) := by simp [mkRat, h, h2, h3]
theorem tdiv_bd (n g : Int) (a : -1000000 ≤ n) (b : n ≤ 1000000) : -1000000 ≤ n.tdiv g ∧ n.tdiv g ≤ 1000000 := by
  have := Int.natAbs_tdiv_le_natAbs n g
  generalize n.tdiv g = q at *
  omega
theorem tdiv_bdL (n g L : Int) (a : -L ≤ n) (b : n ≤ L) : -L ≤ n.tdiv g ∧ n.tdiv g ≤ L := by
  have := Int.natAbs_tdiv_le_natAbs n g
  generalize n.tdiv g = q at *
  omega
theorem mul_bd (a b : Int) (a1 : -1000000 ≤ a) (a2 : a ≤ 1000000) (b1 : -1000000 ≤ b) (b2 : b ≤ 1000000) : -1000000000000 ≤ a * b ∧ a * b ≤ 1000000000000 := by
  have h : (a * b).natAbs ≤ 1000000 * 1000000 := by
    rw [Int.natAbs_mul]
    exact Nat.mul_le_mul (by omega) (by omega)
  generalize a * b = q at *
  omega
def cmpZ (x y : Int) : Int := if x < y then -1 else if y < x then 1 else 0
def cmpOf (a b c d : Int) : Int × Int := if isRat a b && isRat c d then (cmpZ (a * d) (c * b), 0) else (0, 1)
theorem chk_ok {x : Int} (h : (chk x).2 = 0) : isVal x = true ∧ chk x = (x, 0) := by
  unfold chk at h ⊢
  by_cases hv : isVal x = true
  · rw [if_pos hv]; exact ⟨hv, rfl⟩
  · rw [if_neg hv] at h; simp at h
theorem powOf_ok {a n : Int} (h : (powOf a n).2 = 0) : isVal a = true ∧ inR n = true ∧ isVal (power a n) = true ∧ powOf a n = (power a n, 0) := by
  unfold powOf at h ⊢
  by_cases ha : isVal a = true
  · by_cases hn : inR n = true
    · rw [if_pos ha, if_pos hn] at h
      rw [if_pos ha, if_pos hn]
      have := chk_ok h
      exact ⟨ha, hn, this.1, this.2⟩
    · rw [if_pos ha, if_neg hn] at h; simp at h
  · rw [if_neg ha] at h; simp at h
theorem times_power {a n : Int} (ha : isVal a = true) (hn : inR n = true) (hv : isVal (power a n) = true) : times (power a n) a = power a (n + 1) := by
  obtain ⟨n1, n2⟩ := inR_t hn
  have hn1 : n + 1 ≠ 0 := by omega
  by_cases hb : a = -1000000000000000
  · subst hb
    simp [times, power, hn1]
  · have hf := isVal_t ha
    have hf2 : -1000000 ≤ a ∧ a ≤ 1000000 := by omega
    by_cases h0 : n = 0
    · subst h0
      simp [times, power, hb]
    · obtain ⟨p1, p2⟩ := mul_bd a n hf2.1 hf2.2 (by omega) n2
      have hx : a * n ≠ -1000000000000000 := by omega
      simp [times, power, hb, h0, hn1, hx, Int.mul_add]
theorem next_power {a n : Int} (h : (powOf a n).2 = 0) (hn : n ≠ 1000000) : powOf a (n + 1) = prodOf (powOf a n).1 a := by
  obtain ⟨ha, hr, hv, e⟩ := powOf_ok h
  obtain ⟨n1, n2⟩ := inR_t hr
  have hr2 : inR (n + 1) = true := by simp [inR]; omega
  rw [e]
  simp only [prodOf, powOf, ha, hr2, hv, Bool.and_self, if_true]
  rw [times_power ha hr hv]
theorem back_quo {a b : Int} (h : (quoOf a b).2 = 0) : prodOf (quoOf a b).1 b = (a, 0) := by
  unfold quoOf at h ⊢
  by_cases hv : (isVal a && isVal b) = true
  · rw [if_pos hv] at h
    rw [if_pos hv]
    rw [Bool.and_eq_true] at hv
    obtain ⟨ha, hb⟩ := hv
    by_cases h0 : b = -1000000000000000
    · rw [if_pos h0] at h; simp at h
    · rw [if_neg h0] at h
      rw [if_neg h0]
      obtain ⟨hc, e⟩ := chk_ok h
      rw [e]
      have hb2 := isVal_t hb
      have ha2 := isVal_t ha
      have ht : times (over a b) b = a := by
        by_cases hz : a = -1000000000000000
        · simp [times, over, hz]
        · have hx : a - b ≠ -1000000000000000 := by omega
          simp [times, over, hz, h0, hx]
      simp only [prodOf, hc, hb, Bool.and_self, if_true, ht]
      simp [chk, ha]
  · rw [if_neg hv] at h; simp at h
end M
end Go.Proofs.Ytfdckijililomaa
