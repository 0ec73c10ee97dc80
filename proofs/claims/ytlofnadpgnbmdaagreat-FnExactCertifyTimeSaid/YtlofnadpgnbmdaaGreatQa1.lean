/- Texts laid together: Pln. -/
set_option linter.unusedSimpArgs false
set_option linter.unusedVariables false
set_option linter.unusedSectionVars false
namespace Go.Proofs.YtlofnadpgnbmdaaGreat
namespace M

def isFin (a : Int) : Bool := decide (-1000000 ≤ a) && decide (a ≤ 1000000)
def isVal (a : Int) : Bool := decide (a = -1000000000000000) || isFin a
def times (a b : Int) : Int := if a = -1000000000000000 ∨ b = -1000000000000000 then -1000000000000000 else a + b
def chk (a : Int) : Int × Int := if isVal a then (a, 0) else (0, 3)
def prodOf (a b : Int) : Int × Int := if isVal a && isVal b then chk (times a b) else (0, 1)
def power (a n : Int) : Int := if n = 0 then 0 else if a = -1000000000000000 then -1000000000000000 else a * n
def inR (n : Int) : Bool := decide (0 ≤ n) && decide (n ≤ 1000000)
def powOf (a n : Int) : Int × Int := if isVal a then (if inR n then chk (power a n) else (0, 2)) else (0, 1)
def over (a b : Int) : Int := if a = -1000000000000000 then -1000000000000000 else a - b
def quoOf (a b : Int) : Int × Int := if isVal a && isVal b then (if b = -1000000000000000 then (0, 5) else chk (over a b)) else (0, 1)

theorem isFin_t {a : Int} (h : isFin a = true) : -1000000 ≤ a ∧ a ≤ 1000000 := by simpa [isFin] using h
theorem isFin_f {a : Int} (h : isFin a = false) : ¬(-1000000 ≤ a ∧ a ≤ 1000000) := by
  intro h'; simp [isFin, h'] at h
theorem isVal_t {a : Int} (h : isVal a = true) : a = -1000000000000000 ∨ (-1000000 ≤ a ∧ a ≤ 1000000) := by simpa [isVal, isFin] using h
theorem isVal_bound {a : Int} (h : isVal a = true) : -1000000000000000 ≤ a ∧ a ≤ 1000000 := by
  rcases isVal_t h with h | h <;> omega

theorem inR_t {n : Int} (h : inR n = true) : 0 ≤ n ∧ n ≤ 1000000 := by simpa [inR] using h
theorem inR_f {n : Int} (h : inR n = false) : ¬(0 ≤ n ∧ n ≤ 1000000) := by
  intro h'; simp [inR, h'] at h
theorem isVal_of_fin {a : Int} (h : isFin a = true) : isVal a = true := by simp [isVal, h]
theorem bot_val : isVal (-1000000000000000) = true := by decide
theorem powOf_0 {a : Int} (ha : isVal a = true) : powOf a 0 = (0, 0) := by
  have h0 : inR 0 = true := by decide
  have h1 : isVal 0 = true := by decide
  simp [powOf, ha, h0, power, chk, h1]
theorem powOf_b {n : Int} (hn : inR n = true) (h0 : ¬n = 0) : powOf (-1000000000000000) n = (-1000000000000000, 0) := by
  simp [powOf, bot_val, hn, power, h0, chk]
theorem powOf_y {a n : Int} (ha : isVal a = true) (hn : inR n = true) (h : ¬a = -1000000000000000) (h0 : ¬n = 0) (hv : isFin (a * n) = true) : powOf a n = (a * n, 0) := by
  simp [powOf, ha, hn, power, h0, h, chk, isVal_of_fin hv]
theorem powOf_n {a n : Int} (ha : isVal a = true) (hn : inR n = true) (h : ¬a = -1000000000000000) (h0 : ¬n = 0) (hv : isFin (a * n) = false) (hp : -1000000000000 ≤ a * n) : powOf a n = (0, 3) := by
  have : isVal (a * n) = false := by
    simp only [isVal, hv, Bool.or_false, decide_eq_false_iff_not]; omega
  simp [powOf, ha, hn, power, h0, h, chk, this]
theorem quoOf_b {a : Int} (ha : isVal a = true) : quoOf a (-1000000000000000) = (0, 5) := by
  simp [quoOf, ha, bot_val]
theorem quoOf_a {b : Int} (hb : isVal b = true) (h : ¬b = -1000000000000000) : quoOf (-1000000000000000) b = (-1000000000000000, 0) := by
  simp [quoOf, hb, bot_val, h, over, chk]
theorem gcd_step (x y : Int) : Int.gcd (y.tmod x) x = Int.gcd x y := by
  simp only [Int.gcd, Int.natAbs_tmod]
  rw [← Nat.gcd_rec x.natAbs y.natAbs]
theorem gcd_step' (x y : Int) (h : 0 ≤ x) : Int.gcd y (x % y) = Int.gcd x y := by
  simp only [Int.gcd, Int.natAbs_emod_of_nonneg h]
  rw [Nat.gcd_comm x.natAbs, Nat.gcd_rec y.natAbs x.natAbs, Nat.gcd_comm]
theorem tmod_lt (x y : Int) (h : x ≠ 0) : (y.tmod x).natAbs < x.natAbs := by
  rw [Int.natAbs_tmod]; exact Nat.mod_lt _ (by omega)
theorem gcd_zero (y : Int) : (Int.gcd 0 y : Int) = if y < 0 then -y else y := by
  simp only [Int.gcd_zero_left]
  split <;> omega
theorem gcd_zero' (y : Int) (h : 0 ≤ y) : (Int.gcd y 0 : Int) = y := by
  simp only [Int.gcd_zero_right]
  omega
theorem gcd_abs (x y : Int) : Int.gcd (max x (-x)) (max y (-y)) = Int.gcd x y := by
  have h : ∀ z : Int, (max z (-z)).natAbs = z.natAbs := by intro z; omega
  simp only [Int.gcd, h]
theorem gcd_pos {x y : Int} (h : y ≠ 0) : (0 : Int) < Int.gcd x y := by
  have := Int.gcd_pos_of_ne_zero_right x h
  omega

def isRat (n d : Int) : Bool := isFin n && decide (1 ≤ d) && decide (d ≤ 1000000) && decide ((Int.gcd n d : Int) = 1)
theorem isRat_t {n d : Int} (h : isRat n d = true) : -1000000 ≤ n ∧ n ≤ 1000000 ∧ 1 ≤ d ∧ d ≤ 1000000 ∧ (Int.gcd n d : Int) = 1 := by
  simp [isRat, isFin] at h
  omega
def ratN (n d : Int) : Int := (if d < 0 then -n else n).tdiv (Int.gcd n d)
def ratD (n d : Int) : Int := (if d < 0 then -d else d).tdiv (Int.gcd n d)
theorem gcd_le (n d : Int) (h : d ≠ 0) (a : -1000000 ≤ d) (b : d ≤ 1000000) : (Int.gcd n d : Int) ≤ 1000000 := by
  have := Int.gcd_le_natAbs_right n h
  omega
theorem ratN_neg {n d : Int} (h : d < 0) : n.tdiv (-(Int.gcd n d : Int)) = ratN n d := by
  simp [ratN, h]
theorem ratD_neg {n d : Int} (h : d < 0) : d.tdiv (-(Int.gcd n d : Int)) = ratD n d := by
  simp [ratD, h]
theorem ratN_pos {n d : Int} (h : ¬ d < 0) : n.tdiv (Int.gcd n d : Int) = ratN n d := by
  simp [ratN, h]
theorem ratD_pos {n d : Int} (h : ¬ d < 0) : d.tdiv (Int.gcd n d : Int) = ratD n d := by
  simp [ratD, h]
def mkRat (n d : Int) : Int × Int × Int := if isFin n && isFin d then (if d = 0 then (0, 0, 5) else (ratN n d, ratD n d, 0)) else (0, 0, 1)
theorem mkRat_1 {n d : Int} (h : (isFin n && isFin d) = false) : mkRat n d = (0, 0, 1) := by simp [mkRat, h]
theorem mkRat_2 {n : Int} (h : isFin n = true) : mkRat n 0 = (0, 0, 5) := by
  have h0 : isFin 0 = true := by decide
  simp [mkRat, h, h0]
theorem mkRat_3 {n d : Int} (h : isFin n = true) (h2 : isFin d = true) (h3 : d ≠ 0) : mkRat n d = (ratN n d, ratD n d, 0) := by simp [mkRat, h, h2, h3]
theorem tdiv_bd (n g : Int) (a : -1000000 ≤ n) (b : n ≤ 1000000) : -1000000 ≤ n.tdiv g ∧ n.tdiv g ≤ 1000000 := by
  have := Int.natAbs_tdiv_le_natAbs n g
  generalize n.tdiv g = q at *
  omega
theorem tdiv_bdL (n g L : Int) (a : -L ≤ n) (b : n ≤ L) : -L ≤ n.tdiv g ∧ n.tdiv g ≤ L := by
  have := Int.natAbs_tdiv_le_natAbs n g
  generalize n.tdiv g = q at *
  omega
theorem mul_bd (a b : Int) (a1 : -1000000 ≤ a) (a2 : a ≤ 1000000) (b1 : -1000000 ≤ b) (b2 : b ≤ 1000000) : -1000000000000 ≤ a * b ∧ a * b ≤ 1000000000000 := by
  have h : (a * b).natAbs ≤ 1000000 * 1000000 := by
    rw [Int.natAbs_mul]
    exact Nat.mul_le_mul (by omega) (by omega)
  generalize a * b = q at *
  omega
def cmpZ (x y : Int) : Int := if x < y then -1 else if y < x then 1 else 0
def cmpOf (a b c d : Int) : Int × Int := if isRat a b && isRat c d then (cmpZ (a * d) (c * b), 0) else (0, 1)
theorem chk_ok {x : Int} (h : (chk x).2 = 0) : isVal x = true ∧ chk x = (x, 0) := by
  unfold chk at h ⊢
  by_cases hv : isVal x = true
  · rw [if_pos hv]; exact ⟨hv, rfl⟩
  · rw [if_neg hv] at h; simp at h
theorem powOf_ok {a n : Int} (h : (powOf a n).2 = 0) : isVal a = true ∧ inR n = true ∧ isVal (power a n) = true ∧ powOf a n = (power a n, 0) := by
  unfold powOf at h ⊢
  by_cases ha : isVal a = true
  · by_cases hn : inR n = true
    · rw [if_pos ha, if_pos hn] at h
      rw [if_pos ha, if_pos hn]
      have := chk_ok h
      exact ⟨ha, hn, this.1, this.2⟩
    · rw [if_pos ha, if_neg hn] at h; simp at h
  · rw [if_neg ha] at h; simp at h
theorem times_power {a n : Int} (ha : isVal a = true) (hn : inR n = true) (hv : isVal (power a n) = true) : times (power a n) a = power a (n + 1) := by
  obtain ⟨n1, n2⟩ := inR_t hn
  have hn1 : n + 1 ≠ 0 := by omega
  by_cases hb : a = -1000000000000000
  · subst hb
    simp [times, power, hn1]
  · have hf := isVal_t ha
    have hf2 : -1000000 ≤ a ∧ a ≤ 1000000 := by omega
    by_cases h0 : n = 0
    · subst h0
      simp [times, power, hb]
    · obtain ⟨p1, p2⟩ := mul_bd a n hf2.1 hf2.2 (by omega) n2
      have hx : a * n ≠ -1000000000000000 := by omega
      simp [times, power, hb, h0, hn1, hx, Int.mul_add]
theorem next_power {a n : Int} (h : (powOf a n).2 = 0) (hn : n ≠ 1000000) : powOf a (n + 1) = prodOf (powOf a n).1 a := by
  obtain ⟨ha, hr, hv, e⟩ := powOf_ok h
  obtain ⟨n1, n2⟩ := inR_t hr
  have hr2 : inR (n + 1) = true := by simp [inR]; omega
  rw [e]
  simp only [prodOf, powOf, ha, hr2, hv, Bool.and_self, if_true]
  rw [times_power ha hr hv]
theorem back_quo {a b : Int} (h : (quoOf a b).2 = 0) : prodOf (quoOf a b).1 b = (a, 0) := by
  unfold quoOf at h ⊢
  by_cases hv : (isVal a && isVal b) = true
  · rw [if_pos hv] at h
    rw [if_pos hv]
    rw [Bool.and_eq_true] at hv
    obtain ⟨ha, hb⟩ := hv
    by_cases h0 : b = -1000000000000000
    · rw [if_pos h0] at h; simp at h
    · rw [if_neg h0] at h
      rw [if_neg h0]
      obtain ⟨hc, e⟩ := chk_ok h
      rw [e]
      have hb2 := isVal_t hb
      have ha2 := isVal_t ha
      have ht : times (over a b) b = a := by
        by_cases hz : a = -1000000000000000
        · simp [times, over, hz]
        · have hx : a - b ≠ -1000000000000000 := by omega
          simp [times, over, hz, h0, hx]
      simp only [prodOf, hc, hb, Bool.and_self, if_true, ht]
      simp [chk, ha]
  · rw [if_neg hv] at h; simp at h
end M
end Go.Proofs.YtlofnadpgnbmdaaGreat

namespace Go.Proofs.YtlofnadpgnbmdaaGreat
namespace M
theorem take_snoc (l : List Int) (k : Nat) (h : k < l.length) : l.take (k + 1) = l.take k ++ [l.getD k 0] := by
  rw [List.take_succ_eq_append_getElem h]
  simp [h]
theorem take_all (l : List Int) (k : Nat) (h : l.length ≤ k) : l.take k = l := List.take_of_length_le h
def maxL (l : List Int) : Int := l.foldl max (-1000000000000000)
def sumM (l : List Int) : Int × Int := if 200 < l.length then (0, 3) else if l.all isVal then (maxL l, 0) else (0, 1)
theorem maxL_snoc (l : List Int) (x : Int) : maxL (l ++ [x]) = max (maxL l) x := by simp [maxL]
theorem all_snoc (p : Int → Bool) (l : List Int) (x : Int) : (l ++ [x]).all p = (l.all p && p x) := by simp
theorem all_false (p : Int → Bool) (l : List Int) (k : Nat) (h : k < l.length) (hp : p (l.getD k 0) = false) : l.all p = false := by
  rw [List.all_eq_false]
  refine ⟨l.getD k 0, ?_, by rw [hp]; exact Bool.false_ne_true⟩
  simp [h]
theorem ifmax (a x : Int) : max a x = if a < x then x else a := by split <;> omega
theorem maxL_val (l : List Int) (h : l.all isVal = true) : isVal (maxL l) = true := by
  unfold maxL
  suffices hs : ∀ (l : List Int) (a : Int), isVal a = true → l.all isVal = true → isVal (l.foldl max a) = true from hs l _ bot_val h
  intro l
  induction l with
  | nil => intro a ha _; exact ha
  | cons x t ih =>
    intro a ha hl
    simp only [List.all_cons, Bool.and_eq_true] at hl
    refine ih _ ?_ hl.2
    rcases Int.le_total a x with h | h
    · rw [Int.max_eq_right h]; exact hl.1
    · rw [Int.max_eq_left h]; exact ha
end M
end Go.Proofs.YtlofnadpgnbmdaaGreat

namespace Go.Proofs.YtlofnadpgnbmdaaGreat
namespace M
theorem cmpZ_neg (x y : Int) : cmpZ y x = -cmpZ x y := by
  unfold cmpZ
  split <;> split <;> (try split) <;> omega
theorem cmpOf_back (a b c d : Int) : cmpOf c d a b = (-(cmpOf a b c d).1, (cmpOf a b c d).2) := by
  unfold cmpOf
  rw [Bool.and_comm (isRat c d)]
  by_cases h : (isRat a b && isRat c d) = true
  · rw [if_pos h, if_pos h, cmpZ_neg]
  · rw [if_neg h, if_neg h]; rfl
theorem cmpZ_bd (x y : Int) : -1 ≤ cmpZ x y ∧ cmpZ x y ≤ 1 := by
  unfold cmpZ
  split <;> (try split) <;> omega
theorem cmpOf_bd (a b c d : Int) : -1 ≤ (cmpOf a b c d).1 ∧ (cmpOf a b c d).1 ≤ 1 := by
  unfold cmpOf
  split
  · exact cmpZ_bd _ _
  · simp
theorem tdiv_gcd (x : Int) (g : Nat) (hg : 0 < g) (h : (g : Int) ∣ x) : (g : Int) * x.tdiv g = x := by
  obtain ⟨k, rfl⟩ := h
  rw [Int.mul_tdiv_cancel_left _ (by omega)]
theorem rat_back {n d : Int} (hd : d ≠ 0) : ratN n d * d = n * ratD n d := by
  have hp : 0 < Int.gcd n d := Int.gcd_pos_of_ne_zero_right n hd
  have h1 : ((Int.gcd n d : Nat) : Int) ∣ n := Int.gcd_dvd_left n d
  have h2 : ((Int.gcd n d : Nat) : Int) ∣ d := Int.gcd_dvd_right n d
  unfold ratN ratD
  split
  · have e1 := tdiv_gcd (-n) _ hp (Int.dvd_neg.2 h1)
    have e2 := tdiv_gcd (-d) _ hp (Int.dvd_neg.2 h2)
    generalize (-n).tdiv (Int.gcd n d) = x at *
    generalize (-d).tdiv (Int.gcd n d) = y at *
    generalize ((Int.gcd n d : Nat) : Int) = g at *
    have a1 : n = -(g * x) := by omega
    have a2 : d = -(g * y) := by omega
    rw [a1, a2]
    simp [Int.mul_neg, Int.neg_mul, Int.mul_comm, Int.mul_left_comm]
  · have e1 := tdiv_gcd n _ hp h1
    have e2 := tdiv_gcd d _ hp h2
    generalize n.tdiv (Int.gcd n d) = x at *
    generalize d.tdiv (Int.gcd n d) = y at *
    generalize ((Int.gcd n d : Nat) : Int) = g at *
    rw [← e1, ← e2]
    simp [Int.mul_comm, Int.mul_left_comm]
theorem rat_gcd {n d : Int} (hd : d ≠ 0) : Int.gcd (ratN n d) (ratD n d) = 1 := by
  have hp : 0 < Int.gcd n d := Int.gcd_pos_of_ne_zero_right n hd
  have e : ∀ x : Int, ((if d < 0 then -x else x).tdiv (Int.gcd n d)).natAbs = x.natAbs / Int.gcd n d := by
    intro x
    rw [Int.natAbs_tdiv]
    have : (if d < 0 then -x else x).natAbs = x.natAbs := by split <;> omega
    rw [this]
    rfl
  unfold ratN ratD
  simp only [Int.gcd] at *
  rw [e, e, Nat.gcd_div (Nat.gcd_dvd_left _ _) (Nat.gcd_dvd_right _ _)]
  exact Nat.div_self hp
theorem rat_pos {n d : Int} (hd : d ≠ 0) : 1 ≤ ratD n d := by
  have hp : 0 < Int.gcd n d := Int.gcd_pos_of_ne_zero_right n hd
  have h2 : ((Int.gcd n d : Nat) : Int) ∣ d := Int.gcd_dvd_right n d
  have hh : ((Int.gcd n d : Nat) : Int) ∣ (if d < 0 then -d else d) := by
    split
    · exact Int.dvd_neg.2 h2
    · exact h2
  have e2 := tdiv_gcd _ _ hp hh
  unfold ratD
  generalize (if d < 0 then -d else d).tdiv (Int.gcd n d) = y at *
  have hpos : 0 < (if d < 0 then -d else d) := by split <;> omega
  rw [← e2] at hpos
  have : 0 < y := by
    rcases Int.lt_trichotomy y 0 with h | h | h
    · have := Int.mul_neg_of_pos_of_neg (a := ((Int.gcd n d : Nat) : Int)) (b := y) (by omega) h
      omega
    · subst h; simp at hpos
    · exact h
  omega
theorem rat_bd {n d : Int} (h1 : isFin n = true) (h2 : isFin d = true) : -1000000 ≤ ratN n d ∧ ratN n d ≤ 1000000 ∧ -1000000 ≤ ratD n d ∧ ratD n d ≤ 1000000 := by
  obtain ⟨a, b⟩ := isFin_t h1
  obtain ⟨c, e⟩ := isFin_t h2
  have x := tdiv_bd (if d < 0 then -n else n) (Int.gcd n d) (by split <;> omega) (by split <;> omega)
  have y := tdiv_bd (if d < 0 then -d else d) (Int.gcd n d) (by split <;> omega) (by split <;> omega)
  exact ⟨x.1, x.2, y.1, y.2⟩
theorem rat_ok {n d : Int} (h1 : isFin n = true) (h2 : isFin d = true) (h3 : d ≠ 0) : isRat (ratN n d) (ratD n d) = true := by
  obtain ⟨a, b, _, c⟩ := rat_bd h1 h2
  have hp := rat_pos (n := n) h3
  have hg := rat_gcd (n := n) h3
  simp [isRat, isFin, hg]
  omega
theorem mkRat_ok {n d : Int} (h : (mkRat n d).2.2 = 0) : isFin n = true ∧ isFin d = true ∧ d ≠ 0 ∧ mkRat n d = (ratN n d, ratD n d, 0) := by
  by_cases h1 : (isFin n && isFin d) = true
  · have h1' := h1
    rw [Bool.and_eq_true] at h1'
    by_cases h2 : d = 0
    · subst h2
      rw [mkRat_2 h1'.1] at h
      simp at h
    · exact ⟨h1'.1, h1'.2, h2, mkRat_3 h1'.1 h1'.2 h2⟩
  · simp only [Bool.not_eq_true] at h1
    rw [mkRat_1 h1] at h; simp at h
theorem mk_back {n d : Int} (h : (mkRat n d).2.2 = 0) : isRat (mkRat n d).1 (mkRat n d).2.1 = true ∧ (mkRat n d).1 * d = n * (mkRat n d).2.1 ∧ -1000000000000 ≤ n * (mkRat n d).2.1 ∧ n * (mkRat n d).2.1 ≤ 1000000000000 := by
  obtain ⟨h1, h2, h3, e⟩ := mkRat_ok h
  obtain ⟨a, b, c, f⟩ := rat_bd h1 h2
  obtain ⟨n1, n2⟩ := isFin_t h1
  have hb := mul_bd n (ratD n d) n1 n2 c f
  rw [e]
  exact ⟨rat_ok h1 h2 h3, rat_back h3, hb.1, hb.2⟩
end M
end Go.Proofs.YtlofnadpgnbmdaaGreat

namespace Go.Proofs.YtlofnadpgnbmdaaGreat
namespace M

def isVec (l : List Int) : Bool := decide (1 ≤ l.length) && decide (l.length ≤ 10) && l.all isVal
def wid (R : List (List Int)) : Nat := (R.getD 0 []).length
def isMat (R : List (List Int)) : Bool := decide (1 ≤ R.length) && decide (R.length ≤ 10) && R.all (fun r => isVec r && decide (r.length = wid R))
def row (R : List (List Int)) (i : Nat) : List Int := R.getD i []
def ent (R : List (List Int)) (i j : Nat) : Int := (R.getD i []).getD j 0
/-- The matrix with m rows and n columns and the entries f. -/
def mk (m n : Nat) (f : Nat → Nat → Int) : List (List Int) := (List.range m).map fun i => (List.range n).map fun j => f i j
def botM (m n : Nat) : List (List Int) := mk m n fun _ _ => -1000000000000000
def unitM (n : Nat) : List (List Int) := mk n n fun i j => if i = j then 0 else -1000000000000000
def addM (a b : List (List Int)) : List (List Int) := mk a.length (wid a) fun i j => max (ent a i j) (ent b i j)
def sumN : Nat → (Nat → Int) → Int
  | 0, _ => -1000000000000000
  | k + 1, f => max (sumN k f) (f k)
def dot (a b : List (List Int)) (i j : Nat) (k : Nat) : Int := sumN k fun t => times (ent a i t) (ent b t j)
def mulM (a b : List (List Int)) : List (List Int) := mk a.length (wid b) fun i j => dot a b i j b.length
def transM (a : List (List Int)) : List (List Int) := mk (wid a) a.length fun i j => ent a j i
def dotV (a : List (List Int)) (x : List Int) (i k : Nat) : Int := sumN k fun t => times (ent a i t) (x.getD t 0)
def applyM (a : List (List Int)) (x : List Int) : List Int := (List.range a.length).map fun i => dotV a x i x.length
def powN (a : List (List Int)) : Nat → List (List Int) × Bool
  | 0 => (unitM a.length, true)
  | k + 1 => if (powN a k).2 then (mulM (powN a k).1 a, isMat (mulM (powN a k).1 a)) else ([], false)

def unitRes (n : Int) : List (List Int) × Int := if 1 ≤ n ∧ n ≤ 10 then (unitM n.toNat, 0) else ([], 2)
def botRes (m n : Int) : List (List Int) × Int := if (1 ≤ m ∧ m ≤ 10) ∧ (1 ≤ n ∧ n ≤ 10) then (botM m.toNat n.toNat, 0) else ([], 2)
def addRes (a b : List (List Int)) : List (List Int) × Int := if isMat a && isMat b then (if a.length = b.length ∧ wid a = wid b then (addM a b, 0) else ([], 5)) else ([], 1)
def mulRes (a b : List (List Int)) : List (List Int) × Int := if isMat a && isMat b then (if wid a = b.length then (if isMat (mulM a b) then (mulM a b, 0) else ([], 3)) else ([], 5)) else ([], 1)
def pwRes (a : List (List Int)) (k : Nat) : List (List Int) × Int := if (powN a k).2 then ((powN a k).1, 0) else ([], 3)
def powRes (a : List (List Int)) (n : Int) : List (List Int) × Int := if isMat a then (if 0 ≤ n ∧ n ≤ 100 then (if a.length = wid a then (if (powN a n.toNat).2 then ((powN a n.toNat).1, 0) else ([], 3)) else ([], 5)) else ([], 2)) else ([], 1)
def transRes (a : List (List Int)) : List (List Int) × Int := if isMat a then (transM a, 0) else ([], 1)
def vecRes (a : List (List Int)) (x : List Int) : List Int × Int := if isMat a && isVec x then (if wid a = x.length then (if isVec (applyM a x) then (applyM a x, 0) else ([], 3)) else ([], 5)) else ([], 1)

@[simp] theorem mk_length (m n : Nat) (f : Nat → Nat → Int) : (mk m n f).length = m := by simp [mk]
theorem mk_row (m n : Nat) (f : Nat → Nat → Int) (i : Nat) (h : i < m) : (mk m n f).getD i [] = (List.range n).map fun j => f i j := by
  simp [mk, h]
theorem mk_rowlen (m n : Nat) (f : Nat → Nat → Int) (i : Nat) (h : i < m) : ((mk m n f).getD i []).length = n := by
  rw [mk_row m n f i h]; simp
theorem mk_ent (m n : Nat) (f : Nat → Nat → Int) (i j : Nat) (h : i < m) (k : j < n) : ((mk m n f).getD i []).getD j 0 = f i j := by
  rw [mk_row m n f i h]; simp [k]
theorem ent_mk (m n : Nat) (f : Nat → Nat → Int) (i j : Nat) (h : i < m) (k : j < n) : ent (mk m n f) i j = f i j := mk_ent m n f i j h k
theorem mk_wid (m n : Nat) (f : Nat → Nat → Int) (h : 0 < m) : wid (mk m n f) = n := mk_rowlen m n f 0 h
theorem mk_congr {m n : Nat} {f g : Nat → Nat → Int} (h : ∀ i, i < m → ∀ j, j < n → f i j = g i j) : mk m n f = mk m n g := by
  unfold mk
  refine List.map_congr_left fun i hi => List.map_congr_left fun j hj => ?_
  exact h i (List.mem_range.1 hi) j (List.mem_range.1 hj)
theorem map_set (n : Nat) (f : Nat → Int) (j : Nat) (x : Int) : ((List.range n).map f).set j x = (List.range n).map fun t => if t = j then x else f t := by
  apply List.ext_getElem
  · simp
  · intro k h1 h2
    simp only [List.length_set, List.length_map, List.length_range] at h1
    rw [List.getElem_set]
    simp only [List.getElem_map, List.getElem_range]
    by_cases e : j = k
    · subst e; simp
    · rw [if_neg e, if_neg (by omega)]
theorem mk_set (m n : Nat) (f : Nat → Nat → Int) (i j : Nat) (x : Int) (h : i < m) :
    (mk m n f).set i (((mk m n f).getD i []).set j x) = mk m n fun s t => if s = i then (if t = j then x else f s t) else f s t := by
  rw [mk_row m n f i h, map_set]
  unfold mk
  apply List.ext_getElem
  · simp
  · intro k h1 h2
    simp only [List.length_set, List.length_map, List.length_range] at h1
    rw [List.getElem_set]
    simp only [List.getElem_map, List.getElem_range]
    by_cases e : i = k
    · subst e; simp
    · rw [if_neg e]
      have e' : ¬ k = i := by omega
      simp only [e', if_false]
theorem mk_snoc (m n : Nat) (f : Nat → Nat → Int) : mk (m + 1) n f = mk m n f ++ [(List.range n).map fun j => f m j] := by
  unfold mk; rw [List.range_succ]; simp
theorem range_snoc (n : Nat) (f : Nat → Int) : (List.range (n + 1)).map f = (List.range n).map f ++ [f n] := by
  rw [List.range_succ]; simp
theorem mk_self (R : List (List Int)) (n : Nat) (h : ∀ i, i < R.length → (R.getD i []).length = n) : mk R.length n (ent R) = R := by
  apply List.ext_getElem
  · simp
  · intro k h1 h2
    have hk := h k h2
    apply List.ext_getElem
    · simp [mk]
      simpa [h2] using hk.symm
    · intro j h3 h4
      simp only [mk, List.getElem_map, List.getElem_range]
      simp only [ent, List.getD_eq_getElem?_getD, List.getElem?_eq_getElem h2, Option.getD_some, List.getElem?_eq_getElem h4]

theorem isVec_t {l : List Int} (h : isVec l = true) : 1 ≤ l.length ∧ l.length ≤ 10 ∧ ∀ j, j < l.length → isVal (l.getD j 0) = true := by
  simp only [isVec, Bool.and_eq_true, decide_eq_true_eq] at h
  refine ⟨h.1.1, h.1.2, fun j hj => ?_⟩
  have := List.all_eq_true.1 h.2 (l[j]) (List.getElem_mem hj)
  simpa [hj] using this
theorem isVec_of {l : List Int} (h1 : 1 ≤ l.length) (h2 : l.length ≤ 10) (h : ∀ j, j < l.length → isVal (l.getD j 0) = true) : isVec l = true := by
  simp only [isVec, Bool.and_eq_true, decide_eq_true_eq]
  refine ⟨⟨h1, h2⟩, List.all_eq_true.2 fun x hx => ?_⟩
  obtain ⟨j, hj, rfl⟩ := List.mem_iff_getElem.1 hx
  have := h j hj
  simpa [hj] using this
theorem isVec_f {l : List Int} (h : ¬(1 ≤ l.length ∧ l.length ≤ 10)) : isVec l = false := by
  cases e : isVec l with
  | false => rfl
  | true => exact absurd ⟨(isVec_t e).1, (isVec_t e).2.1⟩ h
theorem isVec_all {l : List Int} (h1 : 1 ≤ l.length) (h2 : l.length ≤ 10) : isVec l = l.all isVal := by
  unfold isVec
  rw [decide_eq_true h1, decide_eq_true h2]
  rfl
theorem isMat_t {R : List (List Int)} (h : isMat R = true) : 1 ≤ R.length ∧ R.length ≤ 10 ∧ 1 ≤ wid R ∧ wid R ≤ 10 ∧ (∀ i, i < R.length → (R.getD i []).length = wid R) ∧ ∀ i, i < R.length → ∀ j, j < wid R → isVal (ent R i j) = true := by
  simp only [isMat, Bool.and_eq_true, decide_eq_true_eq] at h
  obtain ⟨⟨h1, h2⟩, h3⟩ := h
  have hr : ∀ i, i < R.length → isVec (R.getD i []) = true ∧ (R.getD i []).length = wid R := fun i hi => by
    have := List.all_eq_true.1 h3 (R[i]) (List.getElem_mem hi)
    simpa [hi] using this
  have h0 := hr 0 (by omega)
  have hv := isVec_t h0.1
  refine ⟨h1, h2, ?_, ?_, fun i hi => (hr i hi).2, fun i hi j hj => ?_⟩
  · rw [← h0.2]; exact hv.1
  · rw [← h0.2]; exact hv.2.1
  · exact (isVec_t (hr i hi).1).2.2 j (by rw [(hr i hi).2]; exact hj)
theorem isMat_of {R : List (List Int)} (h1 : 1 ≤ R.length) (h2 : R.length ≤ 10) (h3 : 1 ≤ wid R) (h4 : wid R ≤ 10) (h5 : ∀ i, i < R.length → (R.getD i []).length = wid R) (h6 : ∀ i, i < R.length → ∀ j, j < wid R → isVal (ent R i j) = true) : isMat R = true := by
  simp only [isMat, Bool.and_eq_true, decide_eq_true_eq]
  refine ⟨⟨h1, h2⟩, List.all_eq_true.2 fun x hx => ?_⟩
  obtain ⟨i, hi, rfl⟩ := List.mem_iff_getElem.1 hx
  have hl := h5 i hi
  have he : R.getD i [] = R[i] := by simp [hi]
  rw [he] at hl
  simp only [Bool.and_eq_true, decide_eq_true_eq]
  refine ⟨isVec_of (by omega) (by omega) fun j hj => ?_, hl⟩
  have := h6 i hi j (by omega)
  unfold ent at this
  rw [he] at this
  exact this
theorem isMat_mk {m n : Nat} {f : Nat → Nat → Int} (m1 : 1 ≤ m) (m2 : m ≤ 10) (n1 : 1 ≤ n) (n2 : n ≤ 10) (h : ∀ i, i < m → ∀ j, j < n → isVal (f i j) = true) : isMat (mk m n f) = true := by
  have hw : wid (mk m n f) = n := mk_wid m n f (by omega)
  refine isMat_of (by simpa using m1) (by simpa using m2) (by omega) (by omega) (fun i hi => ?_) (fun i hi j hj => ?_)
  · rw [hw]; exact mk_rowlen m n f i (by simpa using hi)
  · rw [ent_mk m n f i j (by simpa using hi) (by omega)]; exact h i (by simpa using hi) j (by omega)

def okR (R : List (List Int)) (r : List Int) : Bool := isVec r && decide (r.length = wid R)
theorem isMat_no {R : List (List Int)} (h : ¬(1 ≤ R.length ∧ R.length ≤ 10)) : isMat R = false := by
  cases e : isMat R with
  | false => rfl
  | true => exact absurd ⟨(isMat_t e).1, (isMat_t e).2.1⟩ h
theorem isMat_bad {R : List (List Int)} (i : Nat) (hi : i < R.length) (h : okR R (R.getD i []) = false) : isMat R = false := by
  cases e : isMat R with
  | false => rfl
  | true =>
    simp only [isMat, Bool.and_eq_true] at e
    have := List.all_eq_true.1 e.2 (R[i]) (List.getElem_mem hi)
    have he : R.getD i [] = R[i] := by simp [hi]
    rw [he] at h
    unfold okR at h
    rw [h] at this
    cases this
theorem isMat_good {R : List (List Int)} (h1 : 1 ≤ R.length) (h2 : R.length ≤ 10) (h : ∀ i, i < R.length → okR R (R.getD i []) = true) : isMat R = true := by
  simp only [isMat, Bool.and_eq_true, decide_eq_true_eq]
  refine ⟨⟨h1, h2⟩, List.all_eq_true.2 fun x hx => ?_⟩
  obtain ⟨i, hi, rfl⟩ := List.mem_iff_getElem.1 hx
  have := h i hi
  have he : R.getD i [] = R[i] := by simp [hi]
  rw [he] at this
  exact this
theorem okR_n {R : List (List Int)} {r : List Int} (h : r.length ≠ wid R) : okR R r = false := by
  unfold okR; rw [decide_eq_false h, Bool.and_false]
theorem okR_v {R : List (List Int)} {r : List Int} (h : isVec r = false) : okR R r = false := by
  unfold okR; rw [h, Bool.false_and]
theorem okR_y {R : List (List Int)} {r : List Int} (h : isVec r = true) (h2 : r.length = wid R) : okR R r = true := by
  unfold okR; rw [h, decide_eq_true h2]; rfl
/-- Every entry is a value that products may leave: at least Bottom. -/
theorem times_ge {a b : Int} (ha : isVal a = true) (hb : isVal b = true) : -1000000000000000 ≤ times a b ∧ times a b ≤ 2000000 := by
  have h1 := isVal_t ha
  have h2 := isVal_t hb
  unfold times
  split <;> omega
theorem sumN_bd {k : Nat} {f : Nat → Int} (h : ∀ t, t < k → -1000000000000000 ≤ f t ∧ f t ≤ 2000000) : -1000000000000000 ≤ sumN k f ∧ sumN k f ≤ 2000000 := by
  induction k with
  | zero => exact ⟨by unfold sumN; omega, by unfold sumN; omega⟩
  | succ k ih =>
    have h1 := ih fun t ht => h t (by omega)
    have h2 := h k (by omega)
    unfold sumN
    omega
theorem sumN_one {f : Nat → Int} (h : -1000000000000000 ≤ f 0) : sumN 1 f = f 0 := by
  unfold sumN sumN; omega
theorem sumN_congr {k : Nat} {f g : Nat → Int} (h : ∀ t, t < k → f t = g t) : sumN k f = sumN k g := by
  induction k with
  | zero => rfl
  | succ k ih => unfold sumN; rw [ih fun t ht => h t (by omega), h k (by omega)]
/-- How many entries stand in the rows before row i. -/
def pre (R : List (List Int)) (i : Nat) : Nat := ((R.take i).map List.length).sum
def iota (k : Int) (n : Nat) : List Int := (List.range n).map fun (j : Nat) => k + j
/-- The first i rows marked with the numbers from k on, the others as they were. -/
def marked (k : Int) (R : List (List Int)) (i : Nat) : List (List Int) := (List.range R.length).map fun s => if s < i then iota (k + pre R s) (R.getD s []).length else R.getD s []
def marks (k : Int) (R : List (List Int)) : List (List Int) := marked k R R.length
theorem pre_succ (R : List (List Int)) (i : Nat) (h : i < R.length) : pre R (i + 1) = pre R i + (R.getD i []).length := by
  unfold pre
  rw [List.take_succ_eq_append_getElem h, List.map_append, List.sum_append]
  simp [h]
theorem pre_zero (R : List (List Int)) : pre R 0 = 0 := by simp [pre]
theorem pre_mono (R : List (List Int)) {i j : Nat} (h : i ≤ j) : pre R i ≤ pre R j := by
  induction j with
  | zero => have : i = 0 := by omega
            subst this; exact Nat.le_refl _
  | succ j ih =>
    by_cases e : i = j + 1
    · subst e; exact Nat.le_refl _
    · have := ih (by omega)
      by_cases hj : j < R.length
      · rw [pre_succ R j hj]; omega
      · have e2 : pre R (j + 1) = pre R j := by unfold pre; rw [List.take_of_length_le (by omega), List.take_of_length_le (by omega)]
        omega
theorem len_le_pre (R : List (List Int)) (i : Nat) (h : i < R.length) : (R.getD i []).length ≤ pre R R.length := by
  have h1 := pre_succ R i h
  have h2 := pre_mono R (show i + 1 ≤ R.length by omega)
  omega
@[simp] theorem iota_length (k : Int) (n : Nat) : (iota k n).length = n := by simp [iota]
theorem iota_getD (k : Int) (n j : Nat) (h : j < n) : (iota k n).getD j 0 = k + j := by simp [iota, h]
@[simp] theorem marked_length (k : Int) (R : List (List Int)) (i : Nat) : (marked k R i).length = R.length := by simp [marked]
theorem marked_at (k : Int) (R : List (List Int)) (i s : Nat) (h : s < R.length) : (marked k R i).getD s [] = if s < i then iota (k + pre R s) (R.getD s []).length else R.getD s [] := by
  simp [marked, h]
theorem marked_rowlen (k : Int) (R : List (List Int)) (i s : Nat) (h : s < R.length) : ((marked k R i).getD s []).length = (R.getD s []).length := by
  rw [marked_at k R i s h]
  split
  · simp
  · rfl
theorem marked_zero (k : Int) (R : List (List Int)) : marked k R 0 = R := by
  apply List.ext_getElem
  · simp
  · intro j h1 h2
    simp [marked, h2]
theorem marked_set (k : Int) (R : List (List Int)) (i : Nat) (h : i < R.length) : (marked k R i).set i (iota (k + pre R i) (R.getD i []).length) = marked k R (i + 1) := by
  apply List.ext_getElem
  · simp
  · intro j h1 h2
    simp only [marked_length] at h2
    rw [List.getElem_set]
    simp only [marked, List.getElem_map, List.getElem_range]
    by_cases e : i = j
    · subst e; rw [if_pos rfl, if_pos (by omega)]
    · rw [if_neg e]
      by_cases e2 : j < i
      · rw [if_pos e2, if_pos (by omega)]
      · rw [if_neg e2, if_neg (by omega)]
theorem pre_const (R : List (List Int)) (n : Nat) (h : ∀ i, i < R.length → (R.getD i []).length ≤ n) : ∀ i, i ≤ R.length → pre R i ≤ i * n := by
  intro i
  induction i with
  | zero => intro _; simp [pre]
  | succ i ih =>
    intro hi
    rw [pre_succ R i (by omega), Nat.add_mul]
    have := ih (by omega)
    have := h i (by omega)
    omega
theorem pre_mat {R : List (List Int)} (h : isMat R = true) : pre R R.length ≤ 100 := by
  obtain ⟨h1, h2, h3, h4, h5, h6⟩ := isMat_t h
  have := pre_const R 10 (fun i hi => by rw [h5 i hi]; exact h4) R.length (Nat.le_refl _)
  omega
/-- Nothing or a matrix. -/
def okM (R : List (List Int)) : Prop := R = [] ∨ isMat R = true
theorem okM_pre {R : List (List Int)} (h : okM R) : pre R R.length ≤ 100 := by
  rcases h with rfl | h
  · simp [pre]
  · exact pre_mat h
theorem okM_len {R : List (List Int)} (h : okM R) : R.length ≤ 10 := by
  rcases h with rfl | h
  · simp
  · exact (isMat_t h).2.1
theorem botM_ok {m n : Nat} (m1 : 1 ≤ m) (m2 : m ≤ 10) (n1 : 1 ≤ n) (n2 : n ≤ 10) : isMat (botM m n) = true := isMat_mk m1 m2 n1 n2 fun _ _ _ _ => bot_val
theorem unitM_ok {n : Nat} (n1 : 1 ≤ n) (n2 : n ≤ 10) : isMat (unitM n) = true := isMat_mk n1 n2 n1 n2 fun i _ j _ => by
  split
  · decide
  · exact bot_val
theorem unitRes_ok (n : Int) : okM (unitRes n).1 := by
  unfold unitRes
  split
  · next h => exact .inr (unitM_ok (by omega) (by omega))
  · exact .inl rfl
theorem botRes_ok (m n : Int) : okM (botRes m n).1 := by
  unfold botRes
  split
  · next h => exact .inr (botM_ok (by omega) (by omega) (by omega) (by omega))
  · exact .inl rfl
theorem addM_ok {a b : List (List Int)} (ha : isMat a = true) (hb : isMat b = true) (h1 : a.length = b.length) (h2 : wid a = wid b) : isMat (addM a b) = true := by
  obtain ⟨a1, a2, a3, a4, a5, a6⟩ := isMat_t ha
  obtain ⟨b1, b2, b3, b4, b5, b6⟩ := isMat_t hb
  refine isMat_mk a1 a2 a3 a4 fun i hi j hj => ?_
  have e1 := a6 i hi j hj
  have e2 := b6 i (by omega) j (by omega)
  rcases Int.le_total (ent a i j) (ent b i j) with h | h
  · rw [Int.max_eq_right h]; exact e2
  · rw [Int.max_eq_left h]; exact e1
theorem addRes_ok (a b : List (List Int)) : okM (addRes a b).1 := by
  unfold addRes
  split
  · next h =>
    rw [Bool.and_eq_true] at h
    split
    · next h2 => exact .inr (addM_ok h.1 h.2 h2.1 h2.2)
    · exact .inl rfl
  · exact .inl rfl
theorem mulRes_ok (a b : List (List Int)) : okM (mulRes a b).1 := by
  unfold mulRes
  split
  · split
    · split
      · next h => exact .inr h
      · exact .inl rfl
    · exact .inl rfl
  · exact .inl rfl
theorem powN_ok {a : List (List Int)} (h1 : 1 ≤ a.length) (h2 : a.length ≤ 10) (n : Nat) (h : (powN a n).2 = true) : isMat (powN a n).1 = true := by
  cases n with
  | zero => exact unitM_ok h1 h2
  | succ n =>
    unfold powN at h ⊢
    by_cases e : (powN a n).2 = true
    · rw [if_pos e] at h ⊢; exact h
    · rw [if_neg e] at h; cases h
theorem powRes_ok (a : List (List Int)) (n : Int) : okM (powRes a n).1 := by
  unfold powRes
  split
  · next h =>
    split
    · split
      · split
        · next h2 => exact .inr (powN_ok (isMat_t h).1 (isMat_t h).2.1 _ h2)
        · exact .inl rfl
      · exact .inl rfl
    · exact .inl rfl
  · exact .inl rfl
theorem transM_ok {a : List (List Int)} (ha : isMat a = true) : isMat (transM a) = true := by
  obtain ⟨a1, a2, a3, a4, a5, a6⟩ := isMat_t ha
  exact isMat_mk a3 a4 a1 a2 fun i hi j hj => a6 j hj i hi
theorem transRes_ok (a : List (List Int)) : okM (transRes a).1 := by
  unfold transRes
  split
  · next h => exact .inr (transM_ok h)
  · exact .inl rfl
/-- Nothing or a vector. -/
theorem vecRes_len (a : List (List Int)) (x : List Int) : (vecRes a x).1.length ≤ 10 := by
  unfold vecRes
  split
  · split
    · split
      · next h => exact (isVec_t h).2.1
      · simp
    · simp
  · simp
/-- The first k rows of m are filled with f, the others are empty. -/
def part (m n : Nat) (f : Nat → Nat → Int) (k : Nat) : List (List Int) := (List.range m).map fun s => if s < k then (List.range n).map (f s) else []
/-- .. and of row k the first t entries are; the others are 0. -/
def part2 (m n : Nat) (f : Nat → Nat → Int) (k t : Nat) : List (List Int) := (List.range m).map fun s => if s < k then (List.range n).map (f s) else if s = k then (List.range n).map (fun j => if j < t then f k j else 0) else []
@[simp] theorem part_length (m n : Nat) (f : Nat → Nat → Int) (k : Nat) : (part m n f k).length = m := by simp [part]
@[simp] theorem part2_length (m n : Nat) (f : Nat → Nat → Int) (k t : Nat) : (part2 m n f k t).length = m := by simp [part2]
theorem part_zero (m n : Nat) (f : Nat → Nat → Int) : part m n f 0 = List.replicate m [] := by
  unfold part
  apply List.ext_getElem
  · simp
  · intro i h1 h2; simp
theorem map_set_rows (m : Nat) (f : Nat → List Int) (k : Nat) (x : List Int) : ((List.range m).map f).set k x = (List.range m).map fun s => if s = k then x else f s := by
  apply List.ext_getElem
  · simp
  · intro j h1 h2
    simp only [List.length_set, List.length_map, List.length_range] at h1
    rw [List.getElem_set]
    simp only [List.getElem_map, List.getElem_range]
    by_cases e : k = j
    · subst e; simp
    · rw [if_neg e, if_neg (by omega)]
theorem part_set (m n : Nat) (f : Nat → Nat → Int) (k : Nat) : (part m n f k).set k ((List.range n).map fun _ => 0) = part2 m n f k 0 := by
  unfold part part2
  rw [map_set_rows]
  refine List.map_congr_left fun s _ => ?_
  by_cases e : s = k
  · subst e; rw [if_pos rfl, if_neg (by omega), if_pos rfl]; simp
  · rw [if_neg e]
    by_cases e2 : s < k
    · rw [if_pos e2, if_pos e2]
    · rw [if_neg e2, if_neg e2, if_neg e]
theorem part2_row (m n : Nat) (f : Nat → Nat → Int) (k t : Nat) (h : k < m) : (part2 m n f k t).getD k [] = (List.range n).map (fun j => if j < t then f k j else 0) := by
  simp [part2, h]
theorem part2_rowlen (m n : Nat) (f : Nat → Nat → Int) (k t : Nat) (h : k < m) : ((part2 m n f k t).getD k []).length = n := by
  rw [part2_row m n f k t h]; simp
theorem part2_set (m n : Nat) (f : Nat → Nat → Int) (k t : Nat) (h : k < m) : (part2 m n f k t).set k (((part2 m n f k t).getD k []).set t (f k t)) = part2 m n f k (t + 1) := by
  rw [part2_row m n f k t h, map_set]
  unfold part2
  rw [map_set_rows]
  refine List.map_congr_left fun s _ => ?_
  by_cases e : s = k
  · subst e
    rw [if_pos rfl, if_neg (by omega), if_pos rfl]
    refine List.map_congr_left fun j _ => ?_
    by_cases e2 : j = t
    · subst e2; rw [if_pos rfl, if_pos (by omega)]
    · rw [if_neg e2]
      by_cases e3 : j < t
      · rw [if_pos e3, if_pos (by omega)]
      · rw [if_neg e3, if_neg (by omega)]
  · rw [if_neg e]
    by_cases e2 : s < k
    · rw [if_pos e2, if_pos e2]
    · rw [if_neg e2, if_neg e2, if_neg e, if_neg e]
theorem part2_end (m n : Nat) (f : Nat → Nat → Int) (k : Nat) : part2 m n f k n = part m n f (k + 1) := by
  unfold part2 part
  refine List.map_congr_left fun s _ => ?_
  by_cases e : s < k
  · rw [if_pos e, if_pos (by omega)]
  · rw [if_neg e]
    by_cases e2 : s = k
    · subst e2
      rw [if_pos rfl, if_pos (by omega)]
      exact List.map_congr_left fun j hj => by rw [if_pos (List.mem_range.1 hj)]
    · rw [if_neg e2, if_neg (by omega)]
theorem part_end (m n : Nat) (f : Nat → Nat → Int) : part m n f m = mk m n f := by
  unfold part mk
  exact List.map_congr_left fun s hs => by rw [if_pos (List.mem_range.1 hs)]
theorem isMat_len {R : List (List Int)} (h : isMat R = true) {i : Nat} (hi : i < R.length) : (R.getD i []).length = wid R := (isMat_t h).2.2.2.2.1 i hi
theorem isMat_val {R : List (List Int)} (h : isMat R = true) {i j : Nat} (hi : i < R.length) (hj : j < wid R) : isVal ((R.getD i []).getD j 0) = true := (isMat_t h).2.2.2.2.2 i hi j hj
theorem powN_step {a : List (List Int)} {k : Nat} (h : (powN a k).2 = true) : powN a (k + 1) = (mulM (powN a k).1 a, isMat (mulM (powN a k).1 a)) := by
  show (if (powN a k).2 then _ else _) = _
  rw [if_pos h]
theorem powN_false {a : List (List Int)} {k m : Nat} (h : (powN a k).2 = false) (hm : k ≤ m) : (powN a m).2 = false := by
  induction m with
  | zero => have : k = 0 := by omega
            subst this; exact h
  | succ m ih =>
    by_cases e : k = m + 1
    · subst e; exact h
    · have := ih (by omega)
      show (if (powN a m).2 then _ else _ : List (List Int) × Bool).2 = false
      rw [this]; rfl
theorem powN_len {a : List (List Int)} {k : Nat} (h : (powN a k).2 = true) : (powN a k).1.length = a.length := by
  cases k with
  | zero => exact mk_length _ _ _
  | succ k =>
    have h2 : (powN a k).2 = true := by
      cases e : (powN a k).2 with
      | true => rfl
      | false => have := powN_false e (Nat.le_succ k); rw [this] at h; cases h
    rw [powN_step h2]
    have := powN_len h2
    show (mulM _ _).length = _
    unfold mulM
    rw [mk_length, this]
theorem powN_wid {a : List (List Int)} {k : Nat} (ha : 1 ≤ a.length) (hs : a.length = wid a) (h : (powN a k).2 = true) : wid (powN a k).1 = a.length := by
  cases k with
  | zero => exact mk_wid _ _ _ (by omega)
  | succ k =>
    have h2 : (powN a k).2 = true := by
      cases e : (powN a k).2 with
      | true => rfl
      | false => have := powN_false e (Nat.le_succ k); rw [this] at h; cases h
    rw [powN_step h2]
    show wid (mulM _ _) = _
    unfold mulM
    rw [mk_wid _ _ _ (by rw [powN_len h2]; omega), hs]
end M
end Go.Proofs.YtlofnadpgnbmdaaGreat

namespace Go.Proofs.YtlofnadpgnbmdaaGreat
namespace M
/-- Bottom, or not far from 0. -/
def Sm (L v : Int) : Prop := v = -1000000000000000 ∨ (-L ≤ v ∧ v ≤ L)
theorem sm_val {v : Int} (h : isVal v = true) : Sm 1000000 v := isVal_t h
theorem sm_wide {v : Int} (h : Sm 1000000 v) : Sm 1000001000000 v := by unfold Sm at *; omega
theorem sm_times {A B a b : Int} (ha : Sm A a) (hb : Sm B b) (hA : A ≤ 100000000) (hB : B ≤ 100000000) (hA0 : 0 ≤ A) (hB0 : 0 ≤ B) : Sm (A + B) (times a b) := by
  unfold times
  split
  · exact .inl rfl
  · next h =>
    rcases ha with ha | ha
    · exact absurd (.inl ha) h
    · rcases hb with hb | hb
      · exact absurd (.inr hb) h
      · right; omega
theorem sm_sum {L : Int} {k : Nat} {f : Nat → Int} (h : ∀ t, t < k → Sm L (f t)) (hL : 0 ≤ L) (hL2 : L ≤ 100000000) : Sm L (sumN k f) := by
  induction k with
  | zero => exact .inl rfl
  | succ k ih =>
    have h1 := ih fun t ht => h t (by omega)
    have h2 := h k (by omega)
    unfold sumN
    unfold Sm at *
    omega
theorem times_assoc {a b c : Int} (ha : Sm 100000000 a) (hb : Sm 100000000 b) (hc : Sm 100000000 c) : times (times a b) c = times a (times b c) := by
  unfold times Sm at *
  by_cases h1 : a = -1000000000000000
  · simp [h1]
  · by_cases h2 : b = -1000000000000000
    · simp [h2]
    · by_cases h3 : c = -1000000000000000
      · simp [h3]
      · have e1 : ¬(a + b = -1000000000000000) := by omega
        have e2 : ¬(b + c = -1000000000000000) := by omega
        simp only [h1, h2, h3, e1, e2, or_self, if_false]
        omega
theorem times_bot (a : Int) : times a (-1000000000000000) = -1000000000000000 := by unfold times; rw [if_pos (.inr rfl)]
theorem bot_times (a : Int) : times (-1000000000000000) a = -1000000000000000 := by unfold times; rw [if_pos (.inl rfl)]
theorem times_max {a b c : Int} (ha : Sm 100000000 a) (hb : Sm 100000000 b) (hc : Sm 100000000 c) : times a (max b c) = max (times a b) (times a c) := by
  unfold times Sm at *
  by_cases h1 : a = -1000000000000000
  · simp [h1]
  · rcases Int.le_total b c with h | h
    · rw [Int.max_eq_right h]
      by_cases h2 : b = -1000000000000000
      · by_cases h3 : c = -1000000000000000
        · simp [h1, h2, h3]
        · simp only [h1, h2, h3, false_or, or_true, if_true, if_false]; omega
      · have h3 : ¬ c = -1000000000000000 := by omega
        simp only [h1, h2, h3, or_self, if_false]; omega
    · rw [Int.max_eq_left h]
      by_cases h3 : c = -1000000000000000
      · by_cases h2 : b = -1000000000000000
        · simp [h1, h2, h3]
        · simp only [h1, h2, h3, false_or, or_true, if_true, if_false]; omega
      · have h2 : ¬ b = -1000000000000000 := by omega
        simp only [h1, h2, h3, or_self, if_false]; omega
theorem max_times {a b c : Int} (ha : Sm 100000000 a) (hb : Sm 100000000 b) (hc : Sm 100000000 c) : times (max b c) a = max (times b a) (times c a) := by
  have e : ∀ x y : Int, times x y = times y x := fun x y => by
    unfold times
    by_cases h : x = -1000000000000000 ∨ y = -1000000000000000
    · rw [if_pos h, if_pos (Or.symm h)]
    · rw [if_neg h, if_neg (fun h2 => h (Or.symm h2)), Int.add_comm]
  rw [e, times_max ha hb hc, e a b, e a c]
theorem times_sum {a : Int} {k : Nat} {f : Nat → Int} (ha : Sm 100000000 a) (h : ∀ t, t < k → Sm 100000000 (f t)) : times a (sumN k f) = sumN k fun t => times a (f t) := by
  induction k with
  | zero => exact times_bot a
  | succ k ih =>
    have h1 := ih fun t ht => h t (by omega)
    show times a (max (sumN k f) (f k)) = max (sumN k _) (times a (f k))
    rw [times_max ha (sm_sum (fun t ht => h t (by omega)) (by omega) (by omega)) (h k (by omega)), h1]
theorem sum_times {a : Int} {k : Nat} {f : Nat → Int} (ha : Sm 100000000 a) (h : ∀ t, t < k → Sm 100000000 (f t)) : times (sumN k f) a = sumN k fun t => times (f t) a := by
  induction k with
  | zero => exact bot_times a
  | succ k ih =>
    have h1 := ih fun t ht => h t (by omega)
    show times (max (sumN k f) (f k)) a = max (sumN k _) (times (f k) a)
    rw [max_times ha (sm_sum (fun t ht => h t (by omega)) (by omega) (by omega)) (h k (by omega)), h1]
theorem sumN_max (k : Nat) (f g : Nat → Int) : sumN k (fun t => max (f t) (g t)) = max (sumN k f) (sumN k g) := by
  induction k with
  | zero => rfl
  | succ k ih =>
    show max (sumN k _) (max (f k) (g k)) = max (max (sumN k f) (f k)) (max (sumN k g) (g k))
    rw [ih]; omega
theorem sumN_bot (k : Nat) : sumN k (fun _ => -1000000000000000) = -1000000000000000 := by
  induction k with
  | zero => rfl
  | succ k ih =>
    show max (sumN k _) (-1000000000000000) = _
    rw [ih]; rfl
theorem sumN_swap (k m : Nat) (f : Nat → Nat → Int) : sumN k (fun i => sumN m (fun j => f i j)) = sumN m (fun j => sumN k (fun i => f i j)) := by
  induction k with
  | zero => exact (sumN_bot m).symm
  | succ k ih =>
    show max (sumN k fun i => sumN m fun j => f i j) (sumN m fun j => f k j) = sumN m fun j => max (sumN k fun i => f i j) (f k j)
    rw [ih, sumN_max]
theorem sumN_one_at {k j : Nat} {f : Nat → Int} (hj : j < k) (h : ∀ t, t < k → t ≠ j → f t = -1000000000000000) (hb : -1000000000000000 ≤ f j) : sumN k f = f j := by
  induction k with
  | zero => omega
  | succ k ih =>
    show max (sumN k f) (f k) = f j
    by_cases e : j = k
    · subst e
      have : sumN j f = -1000000000000000 := by
        rw [sumN_congr (g := fun _ => -1000000000000000) (fun t ht => h t (by omega) (by omega))]
        exact sumN_bot j
      rw [this]; omega
    · rw [ih (by omega) (fun t ht hne => h t (by omega) hne), h k (by omega) (by omega)]
      omega

theorem ent_mul {a b : List (List Int)} {i j : Nat} (hi : i < a.length) (hj : j < wid b) : ent (mulM a b) i j = sumN b.length fun t => times (ent a i t) (ent b t j) := by
  unfold mulM
  rw [ent_mk _ _ _ _ _ hi hj]
  rfl
theorem mul_len (a b : List (List Int)) : (mulM a b).length = a.length := mk_length _ _ _
theorem mul_wid {a b : List (List Int)} (h : 1 ≤ a.length) : wid (mulM a b) = wid b := mk_wid _ _ _ (by omega)
theorem mul_assoc {a b c : List (List Int)} (ha : isMat a = true) (hb : isMat b = true) (hc : isMat c = true) (h1 : wid a = b.length) (h2 : wid b = c.length) : mulM (mulM a b) c = mulM a (mulM b c) := by
  obtain ⟨a1, a2, a3, a4, a5, a6⟩ := isMat_t ha
  obtain ⟨b1, b2, b3, b4, b5, b6⟩ := isMat_t hb
  obtain ⟨c1, c2, c3, c4, c5, c6⟩ := isMat_t hc
  show mk (mulM a b).length (wid c) (fun i j => dot (mulM a b) c i j c.length) = mk a.length (wid (mulM b c)) (fun i j => dot a (mulM b c) i j (mulM b c).length)
  rw [mul_len, mul_len, mul_wid b1]
  refine mk_congr fun i hi j hj => ?_
  have sa : ∀ u, u < b.length → Sm 1000000 (ent a i u) := fun u hu => sm_val (a6 i hi u (by omega))
  have sb : ∀ u t, u < b.length → t < c.length → Sm 1000000 (ent b u t) := fun u t hu ht => sm_val (b6 u hu t (by omega))
  have sc : ∀ t, t < c.length → Sm 1000000 (ent c t j) := fun t ht => sm_val (c6 t ht j hj)
  have up : ∀ {L v : Int}, Sm L v → L ≤ 100000000 → Sm 100000000 v := fun h hL => by unfold Sm at *; omega
  unfold dot
  rw [sumN_congr (g := fun t => sumN b.length fun u => times (ent a i u) (times (ent b u t) (ent c t j))) (fun t ht => ?_), sumN_swap]
  · refine sumN_congr fun u hu => ?_
    rw [ent_mul hu hj, times_sum (up (sa u hu) (by omega)) (fun t ht => up (sm_times (sb u t hu ht) (sc t ht) (by omega) (by omega) (by omega) (by omega)) (by omega))]
  · rw [ent_mul hi (by omega), sum_times (up (sc t ht) (by omega)) (fun u hu => up (sm_times (sa u hu) (sb u t hu ht) (by omega) (by omega) (by omega) (by omega)) (by omega))]
    exact sumN_congr fun u hu => times_assoc (up (sa u hu) (by omega)) (up (sb u t hu ht) (by omega)) (up (sc t ht) (by omega))
theorem times_zero (x : Int) : times x 0 = x := by
  unfold times
  by_cases h : x = -1000000000000000
  · rw [if_pos (.inl h), h]
  · rw [if_neg (by omega)]; omega
theorem zero_times (x : Int) : times 0 x = x := by
  unfold times
  by_cases h : x = -1000000000000000
  · rw [if_pos (.inr h), h]
  · rw [if_neg (by omega)]; omega
theorem val_ge {x : Int} (h : isVal x = true) : -1000000000000000 ≤ x := (isVal_bound h).1
theorem mul_unit {a : List (List Int)} (ha : isMat a = true) : mulM a (unitM (wid a)) = a := by
  obtain ⟨a1, a2, a3, a4, a5, a6⟩ := isMat_t ha
  have e1 : (unitM (wid a)).length = wid a := mk_length _ _ _
  have e2 : wid (unitM (wid a)) = wid a := mk_wid _ _ _ (by omega)
  show mk a.length (wid (unitM (wid a))) (fun i j => dot a (unitM (wid a)) i j (unitM (wid a)).length) = a
  rw [e1, e2]
  refine Eq.trans (mk_congr fun i hi j hj => ?_) (mk_self a (wid a) a5)
  unfold dot
  have ej : times (ent a i j) (ent (unitM (wid a)) j j) = ent a i j := by
    unfold unitM; rw [ent_mk _ _ _ _ _ hj hj, if_pos rfl, times_zero]
  rw [sumN_one_at hj (fun t ht hne => ?_) (by rw [ej]; exact val_ge (a6 i hi j hj)), ej]
  unfold unitM
  rw [ent_mk _ _ _ _ _ ht hj, if_neg hne, times_bot]
theorem unit_mul {a : List (List Int)} (ha : isMat a = true) : mulM (unitM a.length) a = a := by
  obtain ⟨a1, a2, a3, a4, a5, a6⟩ := isMat_t ha
  have e1 : (unitM a.length).length = a.length := mk_length _ _ _
  show mk (unitM a.length).length (wid a) (fun i j => dot (unitM a.length) a i j a.length) = a
  rw [e1]
  refine Eq.trans (mk_congr fun i hi j hj => ?_) (mk_self a (wid a) a5)
  unfold dot
  have ej : times (ent (unitM a.length) i i) (ent a i j) = ent a i j := by
    unfold unitM; rw [ent_mk _ _ _ _ _ hi hi, if_pos rfl, zero_times]
  rw [sumN_one_at hi (fun t ht hne => ?_) (by rw [ej]; exact val_ge (a6 i hi j hj)), ej]
  unfold unitM
  rw [ent_mk _ _ _ _ _ hi ht, if_neg (fun e => hne e.symm), bot_times]

theorem powN_down {a : List (List Int)} {k m : Nat} (h : (powN a m).2 = true) (hk : k ≤ m) : (powN a k).2 = true := by
  cases e : (powN a k).2 with
  | true => rfl
  | false => have := powN_false e hk; rw [this] at h; cases h
theorem pow_add {a : List (List Int)} (ha : isMat a = true) (hs : a.length = wid a) (p q : Nat) (h : (powN a (p + q)).2 = true) : mulM (powN a p).1 (powN a q).1 = (powN a (p + q)).1 := by
  obtain ⟨a1, a2, -⟩ := isMat_t ha
  have hp := powN_down (k := p) h (by omega)
  have mp := powN_ok a1 a2 p hp
  have wp := powN_wid a1 hs hp
  induction q with
  | zero =>
    show mulM (powN a p).1 (unitM a.length) = (powN a p).1
    rw [← wp]; exact mul_unit mp
  | succ q ih =>
    have hpq : (powN a (p + q)).2 = true := powN_down h (by omega)
    have hq : (powN a q).2 = true := powN_down h (by omega)
    have e1 := powN_step hq
    have e2 := powN_step hpq
    rw [e1, show p + (q + 1) = (p + q) + 1 from rfl, e2]
    show mulM _ (mulM _ _) = mulM _ _
    rw [← mul_assoc mp (powN_ok a1 a2 q hq) ha (by rw [wp, powN_len hq]) (powN_wid a1 hs hq), ih hpq]
/-- What a power that is told says of its parts. -/
theorem powRes_t {a : List (List Int)} {n : Int} (h : (powRes a n).2 = 0) : isMat a = true ∧ 0 ≤ n ∧ n ≤ 100 ∧ a.length = wid a ∧ (powN a n.toNat).2 = true ∧ powRes a n = ((powN a n.toNat).1, 0) := by
  unfold powRes at h ⊢
  by_cases h1 : isMat a = true
  · rw [if_pos h1] at h ⊢
    by_cases h2 : 0 ≤ n ∧ n ≤ 100
    · rw [if_pos h2] at h ⊢
      by_cases h3 : a.length = wid a
      · rw [if_pos h3] at h ⊢
        by_cases h4 : (powN a n.toNat).2 = true
        · rw [if_pos h4]; exact ⟨h1, h2.1, h2.2, h3, h4, rfl⟩
        · rw [if_neg h4] at h; simp at h
      · rw [if_neg h3] at h; simp at h
    · rw [if_neg h2] at h; simp at h
  · rw [if_neg h1] at h; simp at h
theorem powRes_y {a : List (List Int)} {k : Nat} (h1 : isMat a = true) (h2 : k ≤ 100) (h3 : a.length = wid a) (h4 : (powN a k).2 = true) : powRes a (k : Int) = ((powN a k).1, 0) := by
  unfold powRes
  rw [if_pos h1, if_pos (by omega), if_pos h3]
  show (if (powN a k).2 then _ else _) = _
  rw [if_pos h4]
  rfl
theorem mulRes_y {a b : List (List Int)} (ha : isMat a = true) (hb : isMat b = true) (h : wid a = b.length) (hm : isMat (mulM a b) = true) : mulRes a b = (mulM a b, 0) := by
  unfold mulRes
  rw [ha, hb, if_pos (by rfl), if_pos h, if_pos hm]
/-- All that the law on powers asks. -/
theorem pow_law {a : List (List Int)} {m p : Nat} (ha : isMat a = true) (hs : a.length = wid a) (hm : m ≤ 100) (hp : p ≤ m) (h : (powN a m).2 = true) :
    powRes a (p : Int) = ((powN a p).1, 0) ∧ powRes a ((m : Int) - (p : Int)) = ((powN a (m - p)).1, 0) ∧ mulRes (powN a p).1 (powN a (m - p)).1 = ((powN a m).1, 0) ∧
      unitRes (a.length : Int) = (unitM a.length, 0) ∧ mulRes (unitM a.length) (powN a m).1 = ((powN a m).1, 0) := by
  obtain ⟨a1, a2, -⟩ := isMat_t ha
  have h1 := powN_down (k := p) h hp
  have h2 := powN_down (k := m - p) h (by omega)
  have e : p + (m - p) = m := by omega
  have hadd : mulM (powN a p).1 (powN a (m - p)).1 = (powN a m).1 := by
    have := pow_add ha hs p (m - p) (by rw [e]; exact h)
    rw [e] at this; exact this
  have mm := powN_ok a1 a2 m h
  have hl := powN_len h
  have hu : mulM (unitM a.length) (powN a m).1 = (powN a m).1 := by
    have := unit_mul mm
    rw [hl] at this; exact this
  refine ⟨powRes_y ha (by omega) hs h1, ?_, ?_, ?_, ?_⟩
  · rw [show (m : Int) - (p : Int) = ((m - p : Nat) : Int) by omega]
    exact powRes_y ha (by omega) hs h2
  · rw [mulRes_y (powN_ok a1 a2 p h1) (powN_ok a1 a2 _ h2) (by rw [powN_wid a1 hs h1, powN_len h2]) (by rw [hadd]; exact mm), hadd]
  · unfold unitRes; rw [if_pos (by omega)]; rfl
  · rw [mulRes_y (unitM_ok a1 a2) mm (by rw [hl]; exact mk_wid _ _ _ (by omega)) (by rw [hu]; exact mm), hu]
theorem apply_len' (a : List (List Int)) (x : List Int) : (applyM a x).length = a.length := by simp [applyM]
theorem apply_get {a : List (List Int)} {x : List Int} {i : Nat} (hi : i < a.length) : (applyM a x).getD i 0 = sumN x.length fun t => times (ent a i t) (x.getD t 0) := by
  simp only [applyM, dotV]
  simp [hi]
theorem apply_assoc {a b : List (List Int)} {v : List Int} (ha : isMat a = true) (hb : isMat b = true) (hv : isVec v = true) (h1 : wid a = b.length) (h2 : wid b = v.length) : applyM a (applyM b v) = applyM (mulM a b) v := by
  obtain ⟨a1, a2, a3, a4, a5, a6⟩ := isMat_t ha
  obtain ⟨b1, b2, b3, b4, b5, b6⟩ := isMat_t hb
  obtain ⟨v1, v2, v3⟩ := isVec_t hv
  have up : ∀ {L x : Int}, Sm L x → L ≤ 100000000 → Sm 100000000 x := fun h hL => by unfold Sm at *; omega
  have sa : ∀ i u, i < a.length → u < b.length → Sm 1000000 (ent a i u) := fun i u hi hu => sm_val (a6 i hi u (by omega))
  have sb : ∀ u t, u < b.length → t < v.length → Sm 1000000 (ent b u t) := fun u t hu ht => sm_val (b6 u hu t (by omega))
  have sv : ∀ t, t < v.length → Sm 1000000 (v.getD t 0) := fun t ht => sm_val (v3 t ht)
  show (List.range a.length).map _ = (List.range (mulM a b).length).map _
  rw [mul_len]
  refine List.map_congr_left fun i hi => ?_
  have hi := List.mem_range.1 hi
  unfold dotV
  rw [apply_len']
  rw [sumN_congr (k := v.length) (g := fun t => sumN b.length fun u => times (ent a i u) (times (ent b u t) (v.getD t 0))) (fun t ht => ?_), sumN_swap]
  · refine sumN_congr fun u hu => ?_
    rw [apply_get hu, times_sum (up (sa i u hi hu) (by omega)) (fun t ht => up (sm_times (sb u t hu ht) (sv t ht) (by omega) (by omega) (by omega) (by omega)) (by omega))]
  · rw [ent_mul hi (by omega), sum_times (up (sv t ht) (by omega)) (fun u hu => up (sm_times (sa i u hi hu) (sb u t hu ht) (by omega) (by omega) (by omega) (by omega)) (by omega))]
    exact sumN_congr fun u hu => times_assoc (up (sa i u hi hu) (by omega)) (up (sb u t hu ht) (by omega)) (up (sv t ht) (by omega))
theorem mulRes_t {a b : List (List Int)} (h : (mulRes a b).2 = 0) : isMat a = true ∧ isMat b = true ∧ wid a = b.length ∧ isMat (mulM a b) = true ∧ mulRes a b = (mulM a b, 0) := by
  unfold mulRes at h ⊢
  by_cases h1 : (isMat a && isMat b) = true
  · rw [if_pos h1] at h ⊢
    rw [Bool.and_eq_true] at h1
    by_cases h2 : wid a = b.length
    · rw [if_pos h2] at h ⊢
      by_cases h3 : isMat (mulM a b) = true
      · rw [if_pos h3]; exact ⟨h1.1, h1.2, h2, h3, rfl⟩
      · rw [if_neg h3] at h; simp at h
    · rw [if_neg h2] at h; simp at h
  · rw [if_neg h1] at h; simp at h
theorem vecRes_y {a : List (List Int)} {x : List Int} (ha : isMat a = true) (hx : isVec x = true) (h : wid a = x.length) : vecRes a x = ([], 3) ∨ (isVec (applyM a x) = true ∧ vecRes a x = (applyM a x, 0)) := by
  unfold vecRes
  rw [ha, hx, if_pos (by rfl), if_pos h]
  by_cases hv : isVec (applyM a x) = true
  · right; exact ⟨hv, if_pos hv⟩
  · left; exact if_neg hv
/-- All that the law on products asks: either one of the three is a limit (the first; or the first is told, and one of the others), or all are told and agree. -/
theorem prod_law {a b : List (List Int)} {v : List Int} (ha : isMat a = true) (hb : isMat b = true) (h1 : wid a = b.length) (hm : isMat (mulM a b) = true) (hv : isVec v = true) (h2 : wid b = v.length) :
    (vecRes b v = ([], 3)) ∨ (∃ p, vecRes b v = (p, 0) ∧ vecRes a p = ([], 3)) ∨ (∃ p q, vecRes b v = (p, 0) ∧ vecRes a p = (q, 0) ∧ (vecRes (mulM a b) v = ([], 3) ∨ vecRes (mulM a b) v = (q, 0))) := by
  obtain ⟨a1, -⟩ := isMat_t ha
  rcases vecRes_y hb hv h2 with h | ⟨hp, h⟩
  · exact .inl h
  · right
    rcases vecRes_y ha hp (by rw [apply_len']; exact h1) with k | ⟨hq, k⟩
    · exact .inl ⟨_, h, k⟩
    · right
      refine ⟨_, _, h, k, ?_⟩
      rcases vecRes_y hm hv (by rw [mul_wid a1]; exact h2) with l | ⟨hr, l⟩
      · exact .inl l
      · right; rw [l, apply_assoc ha hb hv h1 h2]
/-- Bottom, or so near to 0 that sums stay far from the ends of 64 bits. -/
def Big (v : Int) : Prop := v = -1000000000000000 ∨ (-100000000000000 ≤ v ∧ v ≤ 100000000000000)
theorem big_val {v : Int} (h : isVal v = true) : Big v := by
  have := isVal_t h
  unfold Big; omega
theorem big_sm {L v : Int} (h : Sm L v) (hL : L ≤ 100000000000000) : Big v := by unfold Sm at h; unfold Big; omega
theorem big_bound {v : Int} (h : Big v) : -1000000000000000 ≤ v ∧ v ≤ 100000000000000 := by unfold Big at h; omega
theorem big_times_ge {a b : Int} (ha : Big a) (hb : Big b) : -1000000000000000 ≤ times a b := by
  unfold times; unfold Big at *
  split <;> omega
end M
end Go.Proofs.YtlofnadpgnbmdaaGreat

namespace Go.Proofs.YtlofnadpgnbmdaaGreat
namespace M

/-- At most; what is missing is at most everything. -/
def ole : Option Int → Option Int → Prop
  | none, _ => True
  | some _, none => False
  | some a, some b => a ≤ b
def omul : Option Int → Option Int → Option Int
  | some a, some b => some (a + b)
  | _, _ => none
def osup : Option Int → Option Int → Option Int
  | some a, some b => some (max a b)
  | some a, none => some a
  | none, b => b

theorem ole_rfl (a : Option Int) : ole a a := by cases a <;> simp [ole]
theorem ole_none (a : Option Int) : ole none a := by simp [ole]
theorem ole_trans {a b c : Option Int} (h : ole a b) (k : ole b c) : ole a c := by
  cases a <;> cases b <;> cases c <;> simp_all [ole]
  omega
theorem ole_anti {a b : Option Int} (h : ole a b) (k : ole b a) : a = b := by
  cases a <;> cases b <;> simp_all [ole]
  omega
theorem omul_mono {a a' b b' : Option Int} (h : ole a a') (k : ole b b') : ole (omul a b) (omul a' b') := by
  cases a <;> cases a' <;> cases b <;> cases b' <;> simp_all [ole, omul]
  omega
theorem omul_assoc (a b c : Option Int) : omul (omul a b) c = omul a (omul b c) := by
  cases a <;> cases b <;> cases c <;> simp [omul]
  omega
theorem omul_comm (a b : Option Int) : omul a b = omul b a := by
  cases a <;> cases b <;> simp [omul]
  omega
theorem omul_zero (a : Option Int) : omul a (some 0) = a := by cases a <;> simp [omul]
theorem zero_omul (a : Option Int) : omul (some 0) a = a := by cases a <;> simp [omul]
theorem omul_none (a : Option Int) : omul a none = none := by cases a <;> simp [omul]
theorem none_omul (a : Option Int) : omul none a = none := by cases a <;> simp [omul]
theorem osup_l (a b : Option Int) : ole a (osup a b) := by
  cases a <;> cases b <;> simp [ole, osup]
  omega
theorem osup_r (a b : Option Int) : ole b (osup a b) := by
  cases a <;> cases b <;> simp [ole, osup]
  omega
theorem osup_le {a b c : Option Int} (h : ole a c) (k : ole b c) : ole (osup a b) c := by
  cases a <;> cases b <;> cases c <;> simp_all [ole, osup]
  omega
theorem osup_cases (a b : Option Int) : osup a b = a ∨ osup a b = b := by
  cases a <;> cases b <;> simp [osup]
  omega
theorem osup_of_le {a b : Option Int} (h : ole b a) : osup a b = a := ole_anti (osup_le (ole_rfl _) h) (osup_l _ _)
theorem omul_le_l {a b : Option Int} (h : ole b (some 0)) : ole (omul a b) a := by
  have := omul_mono (ole_rfl a) h
  rw [omul_zero] at this; exact this
theorem omul_le_r {a b : Option Int} (h : ole a (some 0)) : ole (omul a b) b := by
  have := omul_mono h (ole_rfl b)
  rw [zero_omul] at this; exact this
theorem omul_ge_l {a b : Option Int} (h : ole (some 0) b) : ole a (omul a b) := by
  have := omul_mono (ole_rfl a) h
  rw [omul_zero] at this; exact this

def osum : Nat → (Nat → Option Int) → Option Int
  | 0, _ => none
  | k + 1, f => osup (osum k f) (f k)
theorem osum_le {n : Nat} {f : Nat → Option Int} {c : Option Int} (h : ∀ t, t < n → ole (f t) c) : ole (osum n f) c := by
  induction n with
  | zero => exact ole_none _
  | succ n ih => exact osup_le (ih fun t ht => h t (by omega)) (h n (by omega))
theorem le_osum {n : Nat} {f : Nat → Option Int} {t : Nat} (h : t < n) : ole (f t) (osum n f) := by
  induction n with
  | zero => omega
  | succ n ih =>
    by_cases e : t = n
    · subst e; exact osup_r _ _
    · exact ole_trans (ih (by omega)) (osup_l _ _)
theorem osum_att (n : Nat) (f : Nat → Option Int) : osum n f = none ∨ ∃ t, t < n ∧ osum n f = f t := by
  induction n with
  | zero => exact .inl rfl
  | succ n ih =>
    rcases osup_cases (osum n f) (f n) with h | h
    · rcases ih with k | ⟨t, ht, k⟩
      · left; show osup _ _ = _; rw [h, k]
      · right; exact ⟨t, by omega, by show osup _ _ = _; rw [h, k]⟩
    · right; exact ⟨n, by omega, h⟩
theorem osum_congr {n : Nat} {f g : Nat → Option Int} (h : ∀ t, t < n → f t = g t) : osum n f = osum n g := by
  induction n with
  | zero => rfl
  | succ n ih => show osup _ _ = osup _ _; rw [ih fun t ht => h t (by omega), h n (by omega)]

/-- The rounds over the nodes. -/
def ofw (f : Nat → Nat → Option Int) : Nat → Nat → Nat → Option Int
  | 0 => f
  | k + 1 => fun i j => osup (ofw f k i j) (omul (ofw f k i k) (ofw f k k j))
def ounit (i j : Nat) : Option Int := if i = j then some 0 else none
/-- The greatest weights of paths with at most so many arcs. -/
def obm (f : Nat → Nat → Option Int) (n : Nat) : Nat → Nat → Nat → Option Int
  | 0 => ounit
  | t + 1 => fun i j => osup (ounit i j) (osum n fun u => omul (f i u) (obm f n t u j))

theorem ounit_self (i : Nat) : ounit i i = some 0 := by unfold ounit; rw [if_pos rfl]
theorem ounit_ne {i j : Nat} (h : i ≠ j) : ounit i j = none := by unfold ounit; rw [if_neg h]

theorem ofw_up (f : Nat → Nat → Option Int) (k i j : Nat) : ole (ofw f k i j) (ofw f (k + 1) i j) := osup_l _ _
theorem ofw_mono (f : Nat → Nat → Option Int) {k m : Nat} (h : k ≤ m) (i j : Nat) : ole (ofw f k i j) (ofw f m i j) := by
  induction m with
  | zero => obtain rfl : k = 0 := by omega
            exact ole_rfl _
  | succ m ih =>
    by_cases e : k = m + 1
    · subst e; exact ole_rfl _
    · exact ole_trans (ih (by omega)) (ofw_up f m i j)
theorem ofw_ge (f : Nat → Nat → Option Int) (k i j : Nat) : ole (f i j) (ofw f k i j) := ofw_mono f (Nat.zero_le k) i j

theorem ofw_trans (f : Nat → Nat → Option Int) (k : Nat) (h : ∀ m, m < k → ole (ofw f m m m) (some 0)) :
    ∀ m, m < k → ∀ i l, ole (omul (ofw f k i m) (ofw f k m l)) (ofw f k i l) := by
  induction k with
  | zero => intro m hm; omega
  | succ k ih =>
    intro m hm i l
    have hk := h k (by omega)
    have ih := ih fun m hm => h m (by omega)
    generalize hp : ofw f k = p at *
    have e : ∀ i j, ofw f (k + 1) i j = osup (p i j) (omul (p i k) (p k j)) := fun i j => by rw [← hp]; rfl
    have up : ∀ i j, ole (omul (p i k) (p k j)) (ofw f (k + 1) i j) := fun i j => by rw [e]; exact osup_r _ _
    have up0 : ∀ i j, ole (p i j) (ofw f (k + 1) i j) := fun i j => by rw [e]; exact osup_l _ _
    by_cases em : m = k
    · subst em
      have h1 : ole (ofw f (m + 1) i m) (p i m) := by rw [e]; exact osup_le (ole_rfl _) (omul_le_l hk)
      have h2 : ole (ofw f (m + 1) m l) (p m l) := by rw [e]; exact osup_le (ole_rfl _) (omul_le_r hk)
      exact ole_trans (omul_mono h1 h2) (up i l)
    · have ihm := ih m (by omega)
      rw [e i m, e m l]
      rcases osup_cases (p i m) (omul (p i k) (p k m)) with h1 | h1 <;> rcases osup_cases (p m l) (omul (p m k) (p k l)) with h2 | h2 <;> rw [h1, h2]
      · exact ole_trans (ihm i l) (up0 i l)
      · rw [← omul_assoc]
        exact ole_trans (omul_mono (ihm i k) (ole_rfl _)) (up i l)
      · rw [omul_assoc]
        exact ole_trans (omul_mono (ole_rfl _) (ihm k l)) (up i l)
      · rw [omul_assoc, ← omul_assoc (p k m)]
        exact ole_trans (omul_mono (ole_rfl _) (omul_le_r (ole_trans (ihm k k) hk))) (up i l)

theorem ofw_diag (f : Nat → Nat → Option Int) (k : Nat) (h : ∀ m, m < k → ole (ofw f m m m) (some 0)) : ∀ m, m < k → ole (ofw f k m m) (some 0) := by
  induction k with
  | zero => intro m hm; omega
  | succ k ih =>
    intro m hm
    have hk := h k (by omega)
    show ole (osup _ _) _
    by_cases em : m = k
    · subst em; exact osup_le hk (ole_trans (omul_le_l hk) hk)
    · refine osup_le (ih (fun m hm => h m (by omega)) m (by omega)) ?_
      rw [omul_comm]
      exact ole_trans (ofw_trans f k (fun m hm => h m (by omega)) m (by omega) k k) hk

/-- What is closed under the arcs is closed under the rounds. -/
theorem ofw_under {f S T : Nat → Nat → Option Int} {n : Nat} (h1 : ∀ i u j, i < n → u < n → j < n → ole (omul (f i u) (S u j)) (T i j)) (h2 : ∀ i j, i < n → j < n → ole (T i j) (S i j)) (k : Nat) (hk : k ≤ n) :
    ∀ i u j, i < n → u < n → j < n → ole (omul (ofw f k i u) (S u j)) (T i j) := by
  induction k with
  | zero => exact h1
  | succ k ih =>
    have ih := ih (by omega)
    intro i u j hi hu hj
    show ole (omul (osup _ _) _) _
    rcases osup_cases (ofw f k i u) (omul (ofw f k i k) (ofw f k k u)) with e | e <;> rw [e]
    · exact ih i u j hi hu hj
    · rw [omul_assoc]
      exact ole_trans (omul_mono (ole_rfl _) (ole_trans (ih k u j (by omega) hu hj) (h2 k j (by omega) hj))) (ih i k j hi (by omega) hj)

/-- The weight of the first arcs of a walk. -/
def owk (f : Nat → Nat → Option Int) (v : Nat → Nat) : Nat → Option Int
  | 0 => some 0
  | t + 1 => omul (f (v (t + 1)) (v t)) (owk f v t)
theorem owk_congr {f : Nat → Nat → Option Int} {v v' : Nat → Nat} {s : Nat} (h : ∀ u, u ≤ s → v u = v' u) : owk f v s = owk f v' s := by
  induction s with
  | zero => rfl
  | succ s ih => show omul _ _ = omul _ _; rw [ih fun u hu => h u (by omega), h (s + 1) (by omega), h s (by omega)]
theorem owk_add (f : Nat → Nat → Option Int) (v : Nat → Nat) (x d : Nat) : owk f v (x + d) = omul (owk f (fun u => v (x + u)) d) (owk f v x) := by
  induction d with
  | zero => exact (zero_omul _).symm
  | succ d ih =>
    show omul _ (owk f v (x + d)) = omul (omul _ _) _
    rw [ih, omul_assoc]
    rfl
theorem pigeon (n : Nat) : ∀ v : Nat → Nat, (∀ t, t ≤ n → v t < n) → ∃ a b, a < b ∧ b ≤ n ∧ v a = v b := by
  induction n with
  | zero => intro v h; have := h 0 (Nat.le_refl _); omega
  | succ n ih =>
    intro v h
    by_cases e : ∃ t, t ≤ n ∧ v t = v (n + 1)
    · obtain ⟨t, ht, e⟩ := e; exact ⟨t, n + 1, by omega, by omega, e⟩
    · have e : ∀ t, t ≤ n → v t ≠ v (n + 1) := fun t ht k => e ⟨t, ht, k⟩
      obtain ⟨a, b, hab, hb, hv⟩ := ih (fun t => if v t = n then v (n + 1) else v t) (fun t ht => by
        have h1 := h t (by omega)
        have h2 := e t ht
        have h3 := h (n + 1) (by omega)
        show (if v t = n then v (n + 1) else v t) < n
        split <;> omega)
      refine ⟨a, b, hab, by omega, ?_⟩
      have ha := e a (by omega)
      have hb' := e b (by omega)
      have hv : (if v a = n then v (n + 1) else v a) = (if v b = n then v (n + 1) else v b) := hv
      split at hv <;> split at hv <;> omega

theorem obm_up {f : Nat → Nat → Option Int} {n : Nat} (t : Nat) : ∀ (v : Nat → Nat) (s : Nat), s ≤ t → (∀ u, u ≤ s → v u < n) → ole (owk f v s) (obm f n t (v s) (v 0)) := by
  induction t with
  | zero =>
    intro v s hs _
    obtain rfl : s = 0 := by omega
    show ole (some 0) (ounit _ _)
    rw [ounit_self]; exact ole_rfl _
  | succ t ih =>
    intro v s hs hv
    show ole _ (osup _ _)
    cases s with
    | zero => refine ole_trans ?_ (osup_l _ _); rw [ounit_self]; exact ole_rfl _
    | succ s =>
      refine ole_trans ?_ (osup_r _ _)
      refine ole_trans ?_ (le_osum (hv s (by omega)))
      exact omul_mono (ole_rfl _) (ih v s (by omega) fun u hu => hv u (by omega))
theorem obm_att {f : Nat → Nat → Option Int} {n : Nat} (t : Nat) : ∀ i j, i < n → j < n → obm f n t i j = none ∨ ∃ (v : Nat → Nat) (s : Nat), s ≤ t ∧ v 0 = j ∧ v s = i ∧ (∀ u, u ≤ s → v u < n) ∧ obm f n t i j = owk f v s := by
  induction t with
  | zero =>
    intro i j hi hj
    by_cases e : i = j
    · subst e
      exact .inr ⟨fun _ => i, 0, Nat.le_refl _, rfl, rfl, fun _ _ => hi, ounit_self i⟩
    · exact .inl (ounit_ne e)
  | succ t ih =>
    intro i j hi hj
    rcases osup_cases (ounit i j) (osum n fun u => omul (f i u) (obm f n t u j)) with h | h
    · by_cases e : i = j
      · subst e
        exact .inr ⟨fun _ => i, 0, Nat.zero_le _, rfl, rfl, fun _ _ => hi, h.trans (ounit_self i)⟩
      · exact .inl (h.trans (ounit_ne e))
    · rcases osum_att n (fun u => omul (f i u) (obm f n t u j)) with k | ⟨u, hu, k⟩
      · exact .inl (h.trans k)
      · rcases ih u j hu hj with z | ⟨v, s, hs, h0, h1, hv, z⟩
        · left
          refine h.trans (k.trans ?_)
          rw [z]; exact omul_none _
        · right
          have hc : owk f (fun x => if x ≤ s then v x else i) s = owk f v s := owk_congr fun x hx => by simp [hx]
          refine ⟨fun x => if x ≤ s then v x else i, s + 1, by omega, by simpa using h0, if_neg (by omega), fun x _ => ?_, ?_⟩
          · show (if x ≤ s then v x else i) < n
            split
            · next hx => exact hv x hx
            · exact hi
          · refine h.trans (k.trans ?_)
            show omul (f i u) (obm f n t u j) = omul (f (if s + 1 ≤ s then v (s + 1) else i) (if s ≤ s then v s else i)) (owk f (fun x => if x ≤ s then v x else i) s)
            rw [hc, z, if_neg (by omega), if_pos (Nat.le_refl _), h1]
theorem obm_mono {f : Nat → Nat → Option Int} {n : Nat} {s t : Nat} (h : s ≤ t) {i j : Nat} (hi : i < n) (hj : j < n) : ole (obm f n s i j) (obm f n t i j) := by
  rcases obm_att (f := f) s i j hi hj with z | ⟨v, x, hx, rfl, rfl, hv, z⟩
  · rw [z]; exact ole_none _
  · rw [z]; exact obm_up t v x (by omega) hv

section ok
variable {f : Nat → Nat → Option Int} {n : Nat} (hd : ∀ m, m < n → ole (ofw f m m m) (some 0))
include hd
theorem obm_le (t : Nat) : ∀ i j, i < n → j < n → ole (obm f n t i j) (osup (ounit i j) (ofw f n i j)) := by
  induction t with
  | zero => intro i j _ _; exact osup_l _ _
  | succ t ih =>
    intro i j hi hj
    refine osup_le (osup_l _ _) (osum_le fun u hu => ?_)
    refine ole_trans (omul_mono (ole_rfl _) (ih u j hu hj)) ?_
    rcases osup_cases (ounit u j) (ofw f n u j) with e | e <;> rw [e]
    · by_cases e2 : u = j
      · subst e2
        rw [ounit_self, omul_zero]
        exact ole_trans (ofw_ge f n i u) (osup_r _ _)
      · rw [ounit_ne e2, omul_none]; exact ole_none _
    · exact ole_trans (omul_mono (ofw_ge f n i u) (ole_rfl _)) (ole_trans (ofw_trans f n hd u hu i j) (osup_r _ _))
theorem owk_diag (v : Nat → Nat) (s : Nat) (hv : ∀ u, u ≤ s → v u < n) (h : v s = v 0) : ole (owk f v s) (some 0) := by
  refine ole_trans (obm_up s v s (Nat.le_refl _) hv) (ole_trans (obm_le hd s _ _ (hv s (Nat.le_refl _)) (hv 0 (Nat.zero_le _))) ?_)
  rw [h, ounit_self]
  exact osup_le (ole_rfl _) (ofw_diag f n hd _ (hv 0 (Nat.zero_le _)))
/-- A walk with more arcs than there are nodes is no better than one with fewer. -/
theorem owk_cut (v : Nat → Nat) (s : Nat) (hs : n ≤ s) (hv : ∀ u, u ≤ s → v u < n) : ∃ (v' : Nat → Nat) (s' : Nat), s' < s ∧ v' 0 = v 0 ∧ v' s' = v s ∧ (∀ u, u ≤ s' → v' u < n) ∧ ole (owk f v s) (owk f v' s') := by
  obtain ⟨a, b, hab, hb, e⟩ := pigeon n v (fun t ht => hv t (by omega))
  refine ⟨fun u => if u < a then v u else v (u + (b - a)), s - (b - a), by omega, ?_, ?_, ?_, ?_⟩
  · show (if 0 < a then v 0 else v (0 + (b - a))) = v 0
    split
    · rfl
    · next h => have h0 : a = 0 := by omega
                subst h0
                rw [show 0 + (b - 0) = b by omega]; exact e.symm
  · show (if s - (b - a) < a then v (s - (b - a)) else v (s - (b - a) + (b - a))) = v s
    rw [if_neg (by omega), show s - (b - a) + (b - a) = s by omega]
  · intro u hu
    show (if u < a then v u else v (u + (b - a))) < n
    split
    · exact hv u (by omega)
    · exact hv _ (by omega)
  · have e1 : owk f v s = omul (owk f (fun u => v (b + u)) (s - b)) (omul (owk f (fun u => v (a + u)) (b - a)) (owk f v a)) := by
      rw [← owk_add, show a + (b - a) = b by omega, ← owk_add, show b + (s - b) = s by omega]
    have e2 : owk f (fun u => if u < a then v u else v (u + (b - a))) (s - (b - a)) = omul (owk f (fun u => v (b + u)) (s - b)) (owk f v a) := by
      rw [show s - (b - a) = a + (s - b) by omega, owk_add]
      congr 1
      · refine owk_congr fun u _ => ?_
        show (if a + u < a then v (a + u) else v (a + u + (b - a))) = v (b + u)
        rw [if_neg (by omega), show a + u + (b - a) = b + u by omega]
      · refine owk_congr fun u hu => ?_
        show (if u < a then v u else v (u + (b - a))) = v u
        split
        · rfl
        · obtain rfl : u = a := by omega
          rw [show u + (b - u) = b by omega]; exact e.symm
    rw [e1, e2]
    refine omul_mono (ole_rfl _) (omul_le_r (owk_diag hd _ _ (fun u hu => hv _ (by omega)) ?_))
    show v (a + (b - a)) = v (a + 0)
    rw [show a + (b - a) = b by omega]; exact e.symm
theorem obm_stable {i j : Nat} (hi : i < n) (hj : j < n) : obm f n (n + 1) i j = obm f n n i j := by
  refine ole_anti ?_ (obm_mono (Nat.le_succ n) hi hj)
  rcases obm_att (f := f) (n + 1) i j hi hj with z | ⟨v, s, hs, rfl, rfl, hv, z⟩
  · rw [z]; exact ole_none _
  · rw [z]
    by_cases h : s ≤ n
    · exact obm_up n v s h hv
    · obtain ⟨v', s', h1, h2, h3, h4, h5⟩ := owk_cut hd v s (by omega) hv
      refine ole_trans h5 ?_
      rw [← h2, ← h3]
      exact obm_up n v' s' (by omega) h4
/-- What is left after one arc. -/
theorem osum_plus {i j : Nat} (hi : i < n) (hj : j < n) : osum n (fun u => omul (f i u) (obm f n n u j)) = ofw f n i j := by
  refine ole_anti (osum_le fun u hu => ?_) ?_
  · refine ole_trans (omul_mono (ole_rfl _) (obm_le hd n u j hu hj)) ?_
    rcases osup_cases (ounit u j) (ofw f n u j) with e | e <;> rw [e]
    · by_cases e2 : u = j
      · subst e2
        rw [ounit_self, omul_zero]
        exact ofw_ge f n i u
      · rw [ounit_ne e2, omul_none]; exact ole_none _
    · exact ole_trans (omul_mono (ofw_ge f n i u) (ole_rfl _)) (ofw_trans f n hd u hu i j)
  · have key := ofw_under (f := f) (S := obm f n n) (T := fun i j => osum n (fun u => omul (f i u) (obm f n n u j))) (n := n)
      (fun i u j _ hu _ => le_osum (f := fun u => omul (f i u) (obm f n n u j)) hu)
      (fun i j hi hj => by
        rw [← obm_stable hd hi hj]
        exact osup_r _ _) n (Nat.le_refl _) i j j hi hj hj
    refine ole_trans (omul_ge_l ?_) key
    have := obm_up (f := f) (n := n) n (fun _ => j) 0 (Nat.zero_le _) (fun _ _ => hj)
    exact this
theorem obm_star {i j : Nat} (hi : i < n) (hj : j < n) : obm f n n i j = osup (ounit i j) (ofw f n i j) := by
  rw [← obm_stable hd hi hj]
  show osup _ _ = _
  rw [osum_plus hd hi hj]
theorem obm_self {i : Nat} (hi : i < n) : obm f n n i i = some 0 := by
  rw [obm_star hd hi hi, ounit_self]
  exact osup_of_le (ofw_diag f n hd i hi)
theorem obm_other {i j : Nat} (hi : i < n) (hj : j < n) (h : i ≠ j) : obm f n n i j = ofw f n i j := by
  rw [obm_star hd hi hj, ounit_ne h]; rfl
theorem owk_star (v : Nat → Nat) (s : Nat) (hv : ∀ u, u ≤ s → v u < n) : ole (owk f v s) (obm f n n (v s) (v 0)) := by
  rw [obm_star hd (hv s (Nat.le_refl _)) (hv 0 (Nat.zero_le _))]
  exact ole_trans (obm_up s v s (Nat.le_refl _) hv) (obm_le hd s _ _ (hv s (Nat.le_refl _)) (hv 0 (Nat.zero_le _)))
end ok
/-- Where a node comes back to itself with a gain, the paths go on growing. -/
theorem obm_grows {f : Nat → Nat → Option Int} {n : Nat} (h : ∀ i j, i < n → j < n → obm f n (n + 1) i j = obm f n n i j) : ∀ m, m < n → ole (ofw f m m m) (some 0) := by
  intro m hm
  have key := ofw_under (f := f) (S := obm f n n) (T := obm f n n) (n := n)
    (fun i u j hi hu hj => by
      rw [← h i j hi hj]
      exact ole_trans (le_osum (f := fun u => omul (f i u) (obm f n n u j)) hu) (osup_r _ _))
    (fun i j _ _ => ole_rfl _) m (by omega) m m m hm hm hm
  have h0 : ole (some 0) (obm f n n m m) := obm_up (f := f) (n := n) n (fun _ => m) 0 (Nat.zero_le _) (fun _ _ => hm)
  generalize obm f n n m m = x at key h0
  generalize ofw f m m m = y at key
  cases x <;> cases y <;> simp_all [ole, omul]
  omega

/-- The powers: paths with just so many arcs. -/
def opw (f : Nat → Nat → Option Int) (n : Nat) : Nat → Nat → Nat → Option Int
  | 0 => ounit
  | t + 1 => fun i j => osum n fun u => omul (opw f n t i u) (f u j)
theorem opw_up {f : Nat → Nat → Option Int} {n : Nat} (s : Nat) : ∀ (v : Nat → Nat), (∀ u, u ≤ s → v u < n) → ole (owk f v s) (opw f n s (v s) (v 0)) := by
  induction s with
  | zero => intro v _; show ole (some 0) (ounit _ _); rw [ounit_self]; exact ole_rfl _
  | succ s ih =>
    intro v hv
    have e : owk f v (s + 1) = omul (owk f (fun u => v (1 + u)) s) (owk f v 1) := by rw [← owk_add, Nat.add_comm 1 s]
    rw [e]
    refine ole_trans ?_ (le_osum (hv 1 (by omega)))
    have h1 := ih (fun u => v (1 + u)) (fun u hu => hv _ (by omega))
    simp only [Nat.add_comm 1] at h1
    have h2 : owk f v 1 = f (v 1) (v 0) := omul_zero _
    rw [h2]
    refine omul_mono ?_ (ole_rfl _)
    simp only [Nat.add_comm 1]
    exact h1
theorem opw_att {f : Nat → Nat → Option Int} {n : Nat} (t : Nat) : ∀ i j, i < n → j < n → opw f n t i j = none ∨ ∃ v : Nat → Nat, v 0 = j ∧ v t = i ∧ (∀ u, u ≤ t → v u < n) ∧ opw f n t i j = owk f v t := by
  induction t with
  | zero =>
    intro i j hi hj
    by_cases e : i = j
    · subst e
      exact .inr ⟨fun _ => i, rfl, rfl, fun _ _ => hi, ounit_self i⟩
    · exact .inl (ounit_ne e)
  | succ t ih =>
    intro i j hi hj
    rcases osum_att n (fun u => omul (opw f n t i u) (f u j)) with k | ⟨u, hu, k⟩
    · exact .inl k
    · rcases ih i u hi hu with z | ⟨v, h0, h1, hv, z⟩
      · left
        refine k.trans ?_
        rw [z]; exact none_omul _
      · right
        refine ⟨fun x => if x = 0 then j else v (x - 1), by simp, by simpa using h1, fun x hx => ?_, ?_⟩
        · show (if x = 0 then j else v (x - 1)) < n
          split
          · exact hj
          · exact hv _ (by omega)
        · refine k.trans ?_
          rw [show t + 1 = 1 + t by omega, owk_add]
          have e1 : owk f (fun x => if x = 0 then j else v (x - 1)) 1 = f u j := by
            show omul (f (if 0 + 1 = 0 then j else v (0 + 1 - 1)) (if 0 = 0 then j else v (0 - 1))) (some 0) = _
            rw [omul_zero, if_neg (by omega), if_pos rfl, ← h0]
          have e2 : owk f (fun u => if 1 + u = 0 then j else v (1 + u - 1)) t = owk f v t := owk_congr fun x _ => by
            rw [if_neg (by omega), show 1 + x - 1 = x by omega]
          rw [e1, e2, z]
/-- Some power has the weight in the star; none has more. -/
theorem opw_star {f : Nat → Nat → Option Int} {n : Nat} {i j : Nat} (hi : i < n) (hj : j < n) (h : obm f n n i j ≠ none) : ∃ s, s ≤ n ∧ ole (obm f n n i j) (opw f n s i j) := by
  rcases obm_att (f := f) n i j hi hj with z | ⟨v, s, hs, rfl, rfl, hv, z⟩
  · exact absurd z h
  · exact ⟨s, hs, by rw [z]; exact opw_up s v hv⟩
theorem opw_le {f : Nat → Nat → Option Int} {n : Nat} (hd : ∀ m, m < n → ole (ofw f m m m) (some 0)) {i j : Nat} (hi : i < n) (hj : j < n) (s : Nat) : ole (opw f n s i j) (obm f n n i j) := by
  rcases opw_att (f := f) s i j hi hj with z | ⟨v, rfl, rfl, hv, z⟩
  · rw [z]; exact ole_none _
  · rw [z]; exact owk_star hd v s hv
section skip
variable {n : Nat}
theorem skip_wt (f : Nat → Nat → Option Int) (v : Nat → Nat) (s a b : Nat) (hab : a < b) (hb : b ≤ s) (e : v a = v b) (hin : ole (owk f (fun u => v (a + u)) (b - a)) (some 0)) :
    ole (owk f v s) (owk f (fun u => if u < a then v u else v (u + (b - a))) (s - (b - a))) := by
  have e1 : owk f v s = omul (owk f (fun u => v (b + u)) (s - b)) (omul (owk f (fun u => v (a + u)) (b - a)) (owk f v a)) := by
    rw [← owk_add, show a + (b - a) = b by omega, ← owk_add, show b + (s - b) = s by omega]
  have e2 : owk f (fun u => if u < a then v u else v (u + (b - a))) (s - (b - a)) = omul (owk f (fun u => v (b + u)) (s - b)) (owk f v a) := by
    rw [show s - (b - a) = a + (s - b) by omega, owk_add]
    congr 1
    · refine owk_congr fun u _ => ?_
      show (if a + u < a then v (a + u) else v (a + u + (b - a))) = v (b + u)
      rw [if_neg (by omega), show a + u + (b - a) = b + u by omega]
    · refine owk_congr fun u hu => ?_
      show (if u < a then v u else v (u + (b - a))) = v u
      split
      · rfl
      · obtain rfl : u = a := by omega
        rw [show u + (b - u) = b by omega]; exact e.symm
  rw [e1, e2]
  exact omul_mono (ole_rfl _) (omul_le_r hin)
/-- A walk without a part that leads back. -/
theorem skip (f : Nat → Nat → Option Int) (v : Nat → Nat) (s a b : Nat) (hab : a < b) (hb : b ≤ s) (e : v a = v b) (hv : ∀ u, u ≤ s → v u < n) (hin : ole (owk f (fun u => v (a + u)) (b - a)) (some 0)) :
    ∃ v' : Nat → Nat, v' 0 = v 0 ∧ v' (s - (b - a)) = v s ∧ (∀ u, u ≤ s - (b - a) → v' u < n) ∧ ole (owk f v s) (owk f v' (s - (b - a))) := by
  refine ⟨fun u => if u < a then v u else v (u + (b - a)), ?_, ?_, ?_, ?_⟩
  · show (if 0 < a then v 0 else v (0 + (b - a))) = v 0
    split
    · rfl
    · next h => have h0 : a = 0 := by omega
                subst h0
                rw [show 0 + (b - 0) = b by omega]; exact e.symm
  · show (if s - (b - a) < a then v (s - (b - a)) else v (s - (b - a) + (b - a))) = v s
    rw [if_neg (by omega), show s - (b - a) + (b - a) = s by omega]
  · intro u hu
    show (if u < a then v u else v (u + (b - a))) < n
    split
    · exact hv u (by omega)
    · exact hv _ (by omega)
  · exact skip_wt f v s a b hab hb e hin
end skip

/-- Walks whose inner nodes all come before k. -/
theorem ofw_walk {f : Nat → Nat → Option Int} {k : Nat} (h : ∀ m, m < k → ole (ofw f m m m) (some 0)) (s : Nat) : ∀ v : Nat → Nat, 1 ≤ s → (∀ u, 0 < u → u < s → v u < k) → ole (owk f v s) (ofw f k (v s) (v 0)) := by
  induction s with
  | zero => intro v h1; omega
  | succ s ih =>
    intro v _ hv
    by_cases h0 : s = 0
    · subst h0
      show ole (omul (f (v 1) (v 0)) (some 0)) _
      rw [omul_zero]; exact ofw_ge f k _ _
    · exact ole_trans (omul_mono (ofw_ge f k _ _) (ih v (by omega) fun u h1 h2 => hv u h1 (by omega))) (ofw_trans f k h (v s) (hv s (by omega) (by omega)) _ _)
theorem ofw_att {f : Nat → Nat → Option Int} (k : Nat) : ∀ i j, ofw f k i j = none ∨ ∃ (v : Nat → Nat) (s : Nat), 1 ≤ s ∧ v 0 = j ∧ v s = i ∧ (∀ u, 0 < u → u < s → v u < k) ∧ ofw f k i j = owk f v s := by
  induction k with
  | zero =>
    intro i j
    exact .inr ⟨fun u => if u = 0 then j else i, 1, by omega, rfl, rfl, fun u _ _ => by omega, (omul_zero _).symm⟩
  | succ k ih =>
    intro i j
    rcases osup_cases (ofw f k i j) (omul (ofw f k i k) (ofw f k k j)) with e | e
    · rcases ih i j with z | ⟨v, s, h1, h2, h3, h4, z⟩
      · exact .inl (e.trans z)
      · exact .inr ⟨v, s, h1, h2, h3, fun u a b => by have := h4 u a b; omega, e.trans z⟩
    · rcases ih i k with z | ⟨v1, s1, a1, a2, a3, a4, z⟩
      · left; refine e.trans ?_; rw [z]; exact none_omul _
      · rcases ih k j with y | ⟨v2, s2, b1, b2, b3, b4, y⟩
        · left; refine e.trans ?_; rw [y]; exact omul_none _
        · right
          have q : ∀ u, (if s2 + u ≤ s2 then v2 (s2 + u) else v1 (s2 + u - s2)) = v1 u := fun u => by
            split
            · obtain rfl : u = 0 := by omega
              rw [Nat.add_zero, b3, a2]
            · rw [Nat.add_sub_cancel_left]
          refine ⟨fun u => if u ≤ s2 then v2 u else v1 (u - s2), s2 + s1, by omega, ?_, ?_, fun u hu1 hu2 => ?_, ?_⟩
          · show (if 0 ≤ s2 then v2 0 else v1 (0 - s2)) = j
            rw [if_pos (Nat.zero_le _)]; exact b2
          · exact (q s1).trans a3
          · show (if u ≤ s2 then v2 u else v1 (u - s2)) < k + 1
            split
            · by_cases e2 : u = s2
              · subst e2; rw [b3]; omega
              · have := b4 u hu1 (by omega); omega
            · have := a4 (u - s2) (by omega) (by omega); omega
          · rw [owk_add]
            refine e.trans ?_
            rw [z, y]
            congr 1
            · exact owk_congr fun u _ => (q u).symm
            · exact owk_congr fun u hu => (if_pos hu).symm
theorem ofw_short {f : Nat → Nat → Option Int} {k : Nat} (h : ∀ m, m < k → ole (ofw f m m m) (some 0)) (s : Nat) : ∀ v : Nat → Nat, 1 ≤ s → (∀ u, 0 < u → u < s → v u < k) → ∃ (v' : Nat → Nat) (s' : Nat), 1 ≤ s' ∧ s' ≤ k + 1 ∧ v' 0 = v 0 ∧ v' s' = v s ∧ (∀ u, 0 < u → u < s' → v' u < k) ∧ ole (owk f v s) (owk f v' s') := by
  induction s using Nat.strongRecOn with
  | _ s ih =>
    intro v h1 hv
    by_cases hs : s ≤ k + 1
    · exact ⟨v, s, h1, hs, rfl, rfl, hv, ole_rfl _⟩
    · obtain ⟨a, b, hab, hb, e⟩ := pigeon k (fun t => v (t + 1)) (fun t ht => hv (t + 1) (by omega) (by omega))
      have e : v (a + 1) = v (b + 1) := e
      have hin : ole (owk f (fun u => v (a + 1 + u)) (b + 1 - (a + 1))) (some 0) := by
        refine owk_diag h _ _ (fun u hu => hv _ (by omega) (by omega)) ?_
        show v (a + 1 + (b + 1 - (a + 1))) = v (a + 1 + 0)
        rw [show a + 1 + (b + 1 - (a + 1)) = b + 1 by omega]; exact e.symm
      have hw := skip_wt f v s (a + 1) (b + 1) (by omega) (by omega) e hin
      obtain ⟨v', s', q1, q2, q3, q4, q5, q6⟩ := ih (s - (b + 1 - (a + 1))) (by omega) (fun u => if u < a + 1 then v u else v (u + (b + 1 - (a + 1)))) (by omega) (fun u hu1 hu2 => by
        show (if u < a + 1 then v u else v (u + (b + 1 - (a + 1)))) < k
        split
        · exact hv u hu1 (by omega)
        · exact hv _ (by omega) (by omega))
      refine ⟨v', s', q1, q2, q3.trans ?_, q4.trans ?_, q5, ole_trans hw q6⟩
      · show (if 0 < a + 1 then v 0 else v (0 + (b + 1 - (a + 1)))) = v 0
        rw [if_pos (by omega)]
      · show (if s - (b + 1 - (a + 1)) < a + 1 then v (s - (b + 1 - (a + 1))) else v (s - (b + 1 - (a + 1)) + (b + 1 - (a + 1)))) = v s
        rw [if_neg (by omega), show s - (b + 1 - (a + 1)) + (b + 1 - (a + 1)) = s by omega]
theorem owk_lin {f : Nat → Nat → Option Int} {n : Nat} (hf : ∀ i j, i < n → j < n → ∀ x, f i j = some x → -1000001000000 ≤ x ∧ x ≤ 1000001000000) (s : Nat) : ∀ v : Nat → Nat, (∀ u, u ≤ s → v u < n) → ∀ x, owk f v s = some x → -(1000001000000 * (s : Int)) ≤ x ∧ x ≤ 1000001000000 * (s : Int) := by
  induction s with
  | zero => intro v _ x h; have : (0 : Int) = x := Option.some.inj h
            omega
  | succ s ih =>
    intro v hv x h
    have h : omul (f (v (s + 1)) (v s)) (owk f v s) = some x := h
    cases e1 : f (v (s + 1)) (v s) with
    | none => rw [e1, none_omul] at h; cases h
    | some y =>
      cases e2 : owk f v s with
      | none => rw [e2, omul_none] at h; cases h
      | some z =>
        rw [e1, e2] at h
        have h : y + z = x := Option.some.inj h
        have := hf _ _ (hv (s + 1) (by omega)) (hv s (by omega)) y e1
        have := ih v (fun u hu => hv u (by omega)) z e2
        omega
/-- Before a node comes back to itself with a gain, the rounds lead no farther than paths. -/
theorem ofw_lin {f : Nat → Nat → Option Int} {n k : Nat} (h : ∀ m, m < k → ole (ofw f m m m) (some 0)) (hk : k ≤ n) (hf : ∀ i j, i < n → j < n → ∀ x, f i j = some x → -1000001000000 ≤ x ∧ x ≤ 1000001000000) {i j : Nat} (hi : i < n) (hj : j < n) {x : Int} (hx : ofw f k i j = some x) :
    -(1000001000000 * ((k : Int) + 1)) ≤ x ∧ x ≤ 1000001000000 * ((k : Int) + 1) := by
  rcases ofw_att (f := f) k i j with z | ⟨v, s, h1, h2, h3, h4, z⟩
  · rw [z] at hx; cases hx
  · obtain ⟨v', s', q1, q2, q3, q4, q5, q6⟩ := ofw_short h s v h1 h4
    have q7 := ofw_walk h s' v' q1 q5
    rw [q3, q4, h2, h3] at q7
    rw [← z] at q6
    have e := ole_anti q7 q6
    rw [hx] at e
    have := owk_lin hf s' v' (fun u hu => by
      by_cases e1 : u = 0
      · subst e1; rw [q3, h2]; exact hj
      · by_cases e2 : u = s'
        · subst e2; rw [q4, h3]; exact hi
        · have := q5 u (by omega) (by omega); omega) x e
    omega
end M
end Go.Proofs.YtlofnadpgnbmdaaGreat

namespace Go.Proofs.YtlofnadpgnbmdaaGreat
namespace M

def o (x : Int) : Option Int := if x = -1000000000000000 then none else some x
theorem o_inj {x y : Int} (h : o x = o y) : x = y := by
  unfold o at h
  split at h <;> split at h <;> simp_all
theorem o_bot : o (-1000000000000000) = none := by simp [o]
theorem o_fin {x : Int} (h : x ≠ -1000000000000000) : o x = some x := by simp [o, h]
theorem o_none {x : Int} : o x = none ↔ x = -1000000000000000 := by
  unfold o; split <;> simp_all
theorem sm_up {L L' v : Int} (h : Sm L v) (hL : L ≤ L') : Sm L' v := by unfold Sm at *; omega
theorem sm_ge {L v : Int} (h : Sm L v) (hL : L ≤ 100000000000000) : -1000000000000000 ≤ v := by unfold Sm at h; omega
theorem smt {L L' x y : Int} (hx : Sm L x) (hy : Sm L' y) : Sm (L + L') (times x y) := by
  unfold times Sm at *; split <;> omega
theorem smm {L x y : Int} (hx : Sm L x) (hy : Sm L y) : Sm L (max x y) := by
  rcases Int.le_total x y with h | h
  · rw [Int.max_eq_right h]; exact hy
  · rw [Int.max_eq_left h]; exact hx
theorem sms {L : Int} {k : Nat} {f : Nat → Int} (h : ∀ t, t < k → Sm L (f t)) : Sm L (sumN k f) := by
  induction k with
  | zero => exact .inl rfl
  | succ k ih => exact smm (ih fun t ht => h t (by omega)) (h k (by omega))
theorem o_times {L L' x y : Int} (hx : Sm L x) (hy : Sm L' y) (hL : L ≤ 100000000000000) (hL' : L' ≤ 100000000000000) : o (times x y) = omul (o x) (o y) := by
  unfold times Sm at *
  by_cases h1 : x = -1000000000000000
  · simp [h1, o, none_omul]
  · by_cases h2 : y = -1000000000000000
    · simp [h2, o, omul_none]
    · have h3 : ¬ x + y = -1000000000000000 := by omega
      simp [h1, h2, h3, o, omul]
theorem o_max {L x y : Int} (hx : Sm L x) (hy : Sm L y) (hL : L ≤ 100000000000000) : o (max x y) = osup (o x) (o y) := by
  unfold Sm at *
  by_cases h1 : x = -1000000000000000
  · by_cases h2 : y = -1000000000000000
    · simp [h1, h2, o, osup]
    · have e : max x y = y := by omega
      rw [e]; simp [h1, o, osup, h2]
  · by_cases h2 : y = -1000000000000000
    · have e : max x y = x := by omega
      rw [e]; simp [h1, o, osup, h2]
    · have h3 : ¬ max x y = -1000000000000000 := by omega
      simp [h1, h2, o, osup, h3]
theorem o_le {L x y : Int} (hx : Sm L x) (hy : Sm L y) (hL : L ≤ 100000000000000) : ole (o x) (o y) ↔ x ≤ y := by
  unfold Sm at *
  by_cases h1 : x = -1000000000000000
  · simp [h1, o, ole]; omega
  · by_cases h2 : y = -1000000000000000
    · simp [h1, h2, o, ole]; omega
    · simp [h1, h2, o, ole]
theorem o_sum {L : Int} {n : Nat} {f : Nat → Int} (h : ∀ t, t < n → Sm L (f t)) (hL : L ≤ 100000000000000) : o (sumN n f) = osum n fun t => o (f t) := by
  induction n with
  | zero => exact o_bot
  | succ n ih =>
    show o (max _ _) = osup _ _
    rw [o_max (sms fun t ht => h t (by omega)) (h n (by omega)) hL, ih fun t ht => h t (by omega)]

def unit (i j : Nat) : Int := if i = j then 0 else -1000000000000000
theorem o_unit (i j : Nat) : o (unit i j) = ounit i j := by
  unfold unit ounit
  split
  · rfl
  · exact o_bot
theorem sm_unit {L : Int} (hL : 0 ≤ L) (i j : Nat) : Sm L (unit i j) := by
  unfold unit Sm; split <;> omega
/-- The rounds over the nodes. -/
def cfw (A : Nat → Nat → Int) : Nat → Nat → Nat → Int
  | 0 => A
  | k + 1 => fun i j => max (cfw A k i j) (times (cfw A k i k) (cfw A k k j))
/-- Paths with at most so many arcs. -/
def cbm (A : Nat → Nat → Int) (n : Nat) : Nat → Nat → Nat → Int
  | 0 => unit
  | t + 1 => fun i j => max (unit i j) (sumN n fun u => times (A i u) (cbm A n t u j))
/-- Paths with just so many arcs. -/
def cpw (A : Nat → Nat → Int) (n : Nat) : Nat → Nat → Nat → Int
  | 0 => unit
  | t + 1 => fun i j => sumN n fun u => times (cpw A n t i u) (A u j)
theorem cbm_sm {A : Nat → Nat → Int} {n : Nat} (hA : ∀ i j, i < n → j < n → Sm 1000001000000 (A i j)) (t : Nat) : ∀ i j, i < n → j < n → Sm (1000001000000 * t) (cbm A n t i j) := by
  induction t with
  | zero => intro i j _ _; exact sm_unit (by omega) i j
  | succ t ih =>
    intro i j hi hj
    refine smm (sm_unit (by omega) i j) (sms fun u hu => sm_up (smt (hA i u hi hu) (ih u j hu hj)) (by omega))
theorem cpw_sm {A : Nat → Nat → Int} {n : Nat} (hA : ∀ i j, i < n → j < n → Sm 1000001000000 (A i j)) (t : Nat) : ∀ i j, i < n → j < n → Sm (1000001000000 * t) (cpw A n t i j) := by
  induction t with
  | zero => intro i j _ _; exact sm_unit (by omega) i j
  | succ t ih =>
    intro i j hi hj
    exact sms fun u hu => sm_up (smt (ih i u hi hu) (hA u j hu hj)) (by omega)
theorem o_cbm {A : Nat → Nat → Int} {n : Nat} (hA : ∀ i j, i < n → j < n → Sm 1000001000000 (A i j)) (t : Nat) (ht : t ≤ 11) : ∀ i j, i < n → j < n → o (cbm A n t i j) = obm (fun i j => o (A i j)) n t i j := by
  induction t with
  | zero => intro i j _ _; exact o_unit i j
  | succ t ih =>
    intro i j hi hj
    have h := ih (by omega)
    have b := cbm_sm hA t
    have s : ∀ u, u < n → Sm 100000000000000 (times (A i u) (cbm A n t u j)) := fun u hu => sm_up (smt (hA i u hi hu) (b u j hu hj)) (by omega)
    show o (max _ _) = osup _ _
    rw [o_max (L := 100000000000000) (sm_unit (by omega) i j) (sms s) (by omega), o_unit, o_sum s (by omega)]
    congr 1
    refine osum_congr fun u hu => ?_
    rw [o_times (hA i u hi hu) (b u j hu hj) (by omega) (by omega), h u j hu hj]
theorem o_cpw {A : Nat → Nat → Int} {n : Nat} (hA : ∀ i j, i < n → j < n → Sm 1000001000000 (A i j)) (t : Nat) (ht : t ≤ 11) : ∀ i j, i < n → j < n → o (cpw A n t i j) = opw (fun i j => o (A i j)) n t i j := by
  induction t with
  | zero => intro i j _ _; exact o_unit i j
  | succ t ih =>
    intro i j hi hj
    have h := ih (by omega)
    have b := cpw_sm hA t
    have s : ∀ u, u < n → Sm 100000000000000 (times (cpw A n t i u) (A u j)) := fun u hu => sm_up (smt (b i u hi hu) (hA u j hu hj)) (by omega)
    show o (sumN n _) = osum n _
    rw [o_sum s (by omega)]
    refine osum_congr fun u hu => ?_
    rw [o_times (b i u hi hu) (hA u j hu hj) (by omega) (by omega), h i u hi hu]
section sq
variable {A : Nat → Nat → Int} {n : Nat} (hn : n ≤ 10) (hA : ∀ i j, i < n → j < n → Sm 1000001000000 (A i j))
include hn hA
omit hn in
theorem o_lin : ∀ i j, i < n → j < n → ∀ x, o (A i j) = some x → -1000001000000 ≤ x ∧ x ≤ 1000001000000 := fun i j hi hj x h => by
  have hs := hA i j hi hj
  unfold o at h
  split at h
  · cases h
  · have := Option.some.inj h
    unfold Sm at hs; omega
/-- As long as no node came back to itself with a gain. -/
theorem cfw_all (k : Nat) : k ≤ n → (∀ m, m < k → cfw A m m m ≤ 0) → ∀ i j, i < n → j < n → Sm (1000001000000 * ((k : Int) + 1)) (cfw A k i j) ∧ o (cfw A k i j) = ofw (fun i j => o (A i j)) k i j := by
  induction k using Nat.strongRecOn with
  | _ k ih =>
    intro hk hd
    cases k with
    | zero => exact fun i j hi hj => ⟨sm_up (hA i j hi hj) (by omega), rfl⟩
    | succ k =>
      have h := ih k (by omega) (by omega) fun m hm => hd m (by omega)
      have hdo : ∀ m, m < k + 1 → ole (ofw (fun i j => o (A i j)) m m m) (some 0) := fun m hm => by
        obtain ⟨b1, b2⟩ := ih m hm (by omega) (fun u hu => hd u (by omega)) m m (by omega) (by omega)
        rw [← b2, show some (0 : Int) = o 0 from rfl]
        exact (o_le b1 (.inr (by omega)) (by omega)).2 (hd m hm)
      intro i j hi hj
      obtain ⟨b1, e1⟩ := h i j hi hj
      obtain ⟨b2, e2⟩ := h i k hi (by omega)
      obtain ⟨b3, e3⟩ := h k j (by omega) hj
      have e : o (cfw A (k + 1) i j) = ofw (fun i j => o (A i j)) (k + 1) i j := by
        show o (max _ _) = osup _ _
        rw [o_max (L := 100000000000000) (sm_up b1 (by omega)) (sm_up (smt b2 b3) (by omega)) (by omega), o_times b2 b3 (by omega) (by omega), e1, e2, e3]
      refine ⟨?_, e⟩
      by_cases hb : cfw A (k + 1) i j = -1000000000000000
      · exact .inl hb
      · rw [o_fin hb] at e
        exact .inr (by have := ofw_lin hdo hk (o_lin hA) hi hj e.symm; omega)
theorem cfw_big {k : Nat} (hk : k ≤ n) (hd : ∀ m, m < k → cfw A m m m ≤ 0) (i j : Nat) (hi : i < n) (hj : j < n) : Sm 11000011000000 (cfw A k i j) :=
  sm_up (cfw_all hn hA k hk hd i j hi hj).1 (by omega)
theorem o_cfw {k : Nat} (hk : k ≤ n) (hd : ∀ m, m < k → cfw A m m m ≤ 0) (i j : Nat) (hi : i < n) (hj : j < n) : o (cfw A k i j) = ofw (fun i j => o (A i j)) k i j :=
  (cfw_all hn hA k hk hd i j hi hj).2
end sq

/-- No node comes back to itself with a gain. -/
def noPos (A : Nat → Nat → Int) (n : Nat) : Bool := (List.range n).all fun k => decide (cfw A k k k ≤ 0)
theorem noPos_t {A : Nat → Nat → Int} {n : Nat} (h : noPos A n = true) {k : Nat} (hk : k < n) : cfw A k k k ≤ 0 := by
  have := List.all_eq_true.1 h k (List.mem_range.2 hk)
  simpa using this
theorem noPos_of {A : Nat → Nat → Int} {n : Nat} (h : ∀ k, k < n → cfw A k k k ≤ 0) : noPos A n = true :=
  List.all_eq_true.2 fun k hk => by simpa using h k (List.mem_range.1 hk)
theorem noPos_f {A : Nat → Nat → Int} {n k : Nat} (hk : k < n) (h : ¬ cfw A k k k ≤ 0) : noPos A n = false := by
  cases e : noPos A n with
  | false => rfl
  | true => exact absurd (noPos_t e hk) h

section clo
variable {A : Nat → Nat → Int} {n : Nat} (hn : n ≤ 10) (hA : ∀ i j, i < n → j < n → Sm 1000001000000 (A i j))
include hn hA
theorem pos_iff {m : Nat} (hm : m < n) (hd : ∀ u, u < m → cfw A u u u ≤ 0) : ole (ofw (fun i j => o (A i j)) m m m) (some 0) ↔ cfw A m m m ≤ 0 := by
  rw [← o_cfw hn hA (by omega) hd m m hm hm, show some (0 : Int) = o 0 from rfl]
  exact o_le (cfw_big hn hA (by omega) hd m m hm hm) (.inr (by omega)) (by omega)
theorem o_diag (h : noPos A n = true) : ∀ m, m < n → ole (ofw (fun i j => o (A i j)) m m m) (some 0) :=
  fun _ hm => (pos_iff hn hA hm fun _ hu => noPos_t h (by omega)).2 (noPos_t h hm)
theorem noPos_o (h : ∀ m, m < n → ole (ofw (fun i j => o (A i j)) m m m) (some 0)) : noPos A n = true := by
  refine noPos_of fun m => ?_
  induction m using Nat.strongRecOn with
  | _ m ih => exact fun hm => (pos_iff hn hA hm fun u hu => ih u hu (by omega)).1 (h m hm)
/-- In its own round a node's row and column stay. -/
theorem cfw_col {k : Nat} (hk : k < n) (hd : ∀ m, m < k → cfw A m m m ≤ 0) (h : cfw A k k k ≤ 0) {i : Nat} (hi : i < n) : cfw A (k + 1) i k = cfw A k i k := by
  have b1 := cfw_big hn hA (by omega) hd i k hi hk
  show max _ (times _ _) = _
  generalize cfw A k i k = x at *
  generalize cfw A k k k = d at *
  unfold times Sm at *
  split <;> omega
theorem cfw_row {k : Nat} (hk : k < n) (hd : ∀ m, m < k → cfw A m m m ≤ 0) (h : cfw A k k k ≤ 0) {j : Nat} (hj : j < n) : cfw A (k + 1) k j = cfw A k k j := by
  have b1 := cfw_big hn hA (by omega) hd k j hk hj
  show max _ (times _ _) = _
  generalize cfw A k k j = x at *
  generalize cfw A k k k = d at *
  unfold times Sm at *
  split <;> omega
theorem clo_same (h : noPos A n = true) {i j : Nat} (hi : i < n) (hj : j < n) : cbm A n (n + 1) i j = cbm A n n i j := by
  refine o_inj ?_
  rw [o_cbm hA (n + 1) (by omega) i j hi hj, o_cbm hA n (by omega) i j hi hj]
  exact obm_stable (o_diag hn hA h) hi hj
theorem clo_plus (h : noPos A n = true) {i j : Nat} (hi : i < n) (hj : j < n) : (sumN n fun u => times (A i u) (cbm A n n u j)) = cfw A n i j := by
  refine o_inj ?_
  have b := cbm_sm hA n
  rw [o_sum (L := 100000000000000) (fun u hu => sm_up (smt (hA i u hi hu) (b u j hu hj)) (by omega)) (by omega), o_cfw hn hA (Nat.le_refl _) (fun _ hu => noPos_t h hu) i j hi hj, ← osum_plus (o_diag hn hA h) hi hj]
  refine osum_congr fun u hu => ?_
  rw [o_times (hA i u hi hu) (b u j hu hj) (by omega) (by omega), o_cbm hA n (by omega) u j hu hj]
theorem clo_star (h : noPos A n = true) {i j : Nat} (hi : i < n) (hj : j < n) : cbm A n n i j = if i = j then 0 else cfw A n i j := by
  refine o_inj ?_
  rw [o_cbm hA n (by omega) i j hi hj]
  split
  · next e =>
    subst e
    exact obm_self (o_diag hn hA h) hi
  · next e => rw [obm_other (o_diag hn hA h) hi hj e, o_cfw hn hA (Nat.le_refl _) (fun _ hu => noPos_t h hu) i j hi hj]
theorem clo_pos (h : noPos A n = false) : ∃ i j, i < n ∧ j < n ∧ cbm A n (n + 1) i j ≠ cbm A n n i j := by
  refine Classical.byContradiction fun k => ?_
  have : noPos A n = true := noPos_o hn hA (obm_grows fun i j hi hj => by
    rw [← o_cbm hA (n + 1) (by omega) i j hi hj, ← o_cbm hA n (by omega) i j hi hj]
    congr 1
    exact Classical.byContradiction fun e => k ⟨i, j, hi, hj, e⟩)
  rw [this] at h; cases h
end clo
end M
end Go.Proofs.YtlofnadpgnbmdaaGreat

namespace Go.Proofs.YtlofnadpgnbmdaaGreat
namespace M
def sqB (R : List (List Int)) : Bool := isMat R && decide (R.length = wid R)
theorem sqB_t {R : List (List Int)} (h : sqB R = true) : isMat R = true ∧ R.length = wid R := by
  simpa [sqB] using h
def vx (l : List Int) (k : Nat) : Nat := (l.getD k 0).toNat
def inN (n : Nat) (x : Int) : Bool := decide (0 ≤ x) && decide (x < n)
def nodesB (n : Nat) (l : List Int) : Bool := l.all (inN n)
/-- The product of the weights of the first arcs. -/
def wkc (A : Nat → Nat → Int) (v : Nat → Nat) : Nat → Int
  | 0 => 0
  | t + 1 => times (wkc A v t) (A (v (t + 1)) (v t))
theorem inN_t {n : Nat} {x : Int} (h : inN n x = true) : 0 ≤ x ∧ x < n := by simpa [inN] using h
theorem inN_f {n : Nat} {x : Int} (h : inN n x = false) : ¬(0 ≤ x ∧ x < n) := by
  intro k; simp [inN, k] at h
theorem nodesB_at {n : Nat} {l : List Int} (h : nodesB n l = true) {k : Nat} (hk : k < l.length) : 0 ≤ l.getD k 0 ∧ l.getD k 0 < n := by
  have := List.all_eq_true.1 h l[k] (List.getElem_mem hk)
  have := inN_t this
  simpa [hk] using this
theorem vx_cast {n : Nat} {l : List Int} (h : nodesB n l = true) {k : Nat} (hk : k < l.length) : ((vx l k : Nat) : Int) = l.getD k 0 := by
  have := nodesB_at h hk
  unfold vx; omega
theorem vx_lt {n : Nat} {l : List Int} (h : nodesB n l = true) {k : Nat} (hk : k < l.length) : vx l k < n := by
  have := nodesB_at h hk
  unfold vx; omega
theorem wkc_congr {A : Nat → Nat → Int} {v v' : Nat → Nat} {t : Nat} (h : ∀ u, u ≤ t → v u = v' u) : wkc A v t = wkc A v' t := by
  induction t with
  | zero => rfl
  | succ t ih => show times _ _ = times _ _; rw [ih fun u hu => h u (by omega), h (t + 1) (by omega), h t (by omega)]
theorem wkc_sm {A : Nat → Nat → Int} {v : Nat → Nat} {t : Nat} (h : ∀ u, u < t → Sm 1000001000000 (A (v (u + 1)) (v u))) : Sm (1000001000000 * t) (wkc A v t) := by
  induction t with
  | zero => right; show (_ ≤ (0 : Int)) ∧ (0 : Int) ≤ _; omega
  | succ t ih => exact sm_up (smt (ih fun u hu => h u (by omega)) (h t (by omega))) (by omega)
theorem wkc_bot {A : Nat → Nat → Int} {v : Nat → Nat} {k m : Nat} (h : wkc A v k = -1000000000000000) (hm : k ≤ m) : wkc A v m = -1000000000000000 := by
  induction m with
  | zero => obtain rfl : k = 0 := by omega
            exact h
  | succ m ih =>
    by_cases e : k = m + 1
    · subst e; exact h
    · show times _ _ = _
      rw [ih (by omega), bot_times]
theorem o_wkc {A : Nat → Nat → Int} {v : Nat → Nat} {t : Nat} (ht : t ≤ 99) (h : ∀ u, u < t → Sm 1000001000000 (A (v (u + 1)) (v u))) : o (wkc A v t) = owk (fun i j => o (A i j)) v t := by
  induction t with
  | zero => rfl
  | succ t ih =>
    show o (times _ _) = omul _ _
    rw [o_times (wkc_sm fun u hu => h u (by omega)) (h t (by omega)) (by omega) (by omega), ih (by omega) fun u hu => h u (by omega), omul_comm]
def alongW (R : List (List Int)) (l : List Int) : Int := wkc (ent R) (vx l) (l.length - 1)
def aroundW (R : List (List Int)) (l : List Int) : Int := times (alongW R l) (ent R (vx l 0) (vx l (l.length - 1)))
def hasB (l : List Int) (x : Int) : Bool := l.contains x
theorem hasB_iff {l : List Int} {x : Int} : hasB l x = true ↔ x ∈ l := List.contains_iff_mem
def diffB (l : List Int) : Bool := (List.range l.length).all fun i => !hasB (l.take i) (l.getD i 0)
theorem diffB_of {l : List Int} (h : ∀ i, i < l.length → hasB (l.take i) (l.getD i 0) = false) : diffB l = true :=
  List.all_eq_true.2 fun i hi => by rw [h i (List.mem_range.1 hi)]; rfl
theorem diffB_f {l : List Int} {i : Nat} (hi : i < l.length) (h : hasB (l.take i) (l.getD i 0) = true) : diffB l = false := by
  cases e : diffB l with
  | false => rfl
  | true =>
    have := List.all_eq_true.1 e i (List.mem_range.2 hi)
    rw [h] at this; cases this
theorem diffB_t {l : List Int} (h : diffB l = true) {i : Nat} (hi : i < l.length) : hasB (l.take i) (l.getD i 0) = false := by
  have := List.all_eq_true.1 h i (List.mem_range.2 hi)
  simpa using this
/-- Nodes that are all different are at most as many as there are. -/
theorem diffB_len {n : Nat} {l : List Int} (h : nodesB n l = true) (hd : diffB l = true) : l.length ≤ n := by
  refine Classical.byContradiction fun k => ?_
  obtain ⟨a, b, hab, hb, e⟩ := pigeon n (vx l) (fun t ht => vx_lt h (by omega))
  have h1 := nodesB_at h (k := a) (by omega)
  have h2 := nodesB_at h (k := b) (by omega)
  have e' : l.getD a 0 = l.getD b 0 := by unfold vx at e; omega
  have := diffB_t hd (i := b) (by omega)
  rw [← e'] at this
  have hm : l.getD a 0 ∈ l.take b := by
    have ha : a < l.length := by omega
    simp only [List.getD_eq_getElem?_getD, List.getElem?_eq_getElem ha, Option.getD_some]
    exact List.mem_take_iff_getElem.2 ⟨a, by omega, rfl⟩
  rw [hasB_iff.2 hm] at this
  cases this
def walkR (R : List (List Int)) (l : List Int) : Int × Bool := if alongW R l = -1000000000000000 then (0, false) else (alongW R l, true)
def pathRes (R : List (List Int)) (l : List Int) : Int × Int :=
  if sqB R then (if 1 ≤ l.length ∧ l.length ≤ 100 ∧ nodesB R.length l = true then (if alongW R l = -1000000000000000 then (0, 4) else chk (alongW R l)) else (0, 2)) else (0, 1)
def cycB (R : List (List Int)) (l : List Int) : Bool := decide (1 ≤ l.length) && nodesB R.length l && diffB l && decide (aroundW R l ≠ -1000000000000000)
def isCycB (R : List (List Int)) (l : List Int) : Bool := sqB R && cycB R l
def cycRes (R : List (List Int)) (l : List Int) : Int × Int := if sqB R then (if cycB R l then chk (aroundW R l) else (0, 4)) else (0, 1)
def cycleR (R : List (List Int)) (l : List Int) : Int × Bool := if cycB R l then (aroundW R l, true) else (0, false)
theorem around_snoc (R : List (List Int)) (l : List Int) (h : 1 ≤ l.length) : alongW R (l ++ [l.getD 0 0]) = aroundW R l := by
  unfold alongW aroundW
  have e : (l ++ [l.getD 0 0]).length - 1 = l.length - 1 + 1 := by simp; omega
  have v1 : ∀ k, k < l.length → vx (l ++ [l.getD 0 0]) k = vx l k := fun k hk => by
    unfold vx; simp [List.getD_eq_getElem?_getD, List.getElem?_append_left, hk]
  have v2 : vx (l ++ [l.getD 0 0]) (l.length - 1 + 1) = vx l 0 := by
    unfold vx
    rw [show l.length - 1 + 1 = l.length by omega]
    simp [List.getD_eq_getElem?_getD]
  rw [e]
  show times (wkc _ _ _) _ = times _ _
  rw [v2, v1 (l.length - 1) (by omega), wkc_congr (v' := vx l) (fun u hu => v1 u (by omega))]
  rfl
end M
end Go.Proofs.YtlofnadpgnbmdaaGreat

namespace Go.Proofs.YtlofnadpgnbmdaaGreat
namespace M
/-- The first answer that is not empty. -/
def pick (g : Nat → List Int) : Nat → Nat → List Int
  | 0, _ => []
  | c + 1, v => if (g v).length = 0 then pick g c (v + 1) else g v
theorem pick_no {g : Nat → List Int} {n k : Nat} (hk : k < n) (h : (g k).length = 0) : pick g (n - k) k = pick g (n - (k + 1)) (k + 1) := by
  rw [show n - k = n - (k + 1) + 1 by omega]
  show (if _ then _ else _) = _
  rw [if_pos h]
theorem pick_yes {g : Nat → List Int} {n k : Nat} (hk : k < n) (h : (g k).length ≠ 0) : pick g (n - k) k = g k := by
  rw [show n - k = n - (k + 1) + 1 by omega]
  show (if _ then _ else _) = _
  rw [if_neg h]
theorem pick_end {g : Nat → List Int} {n : Nat} : pick g (n - n) n = [] := by rw [Nat.sub_self]; rfl
def lastV (p : List Int) : Nat := vx p (p.length - 1)
/-- Whether the path closes to a cycle with a weight over the given one. -/
def clB (A : Nat → Nat → Int) (over : Int) (p : List Int) (wt : Int) : Bool := decide (A (vx p 0) (lastV p) ≠ -1000000000000000) && decide (over < wt + A (vx p 0) (lastV p))
def grow (A : Nat → Nat → Int) (n : Nat) (over : Int) : Nat → List Int → Int → List Int
  | 0, _, _ => []
  | f + 1, p, wt => if clB A over p wt then p else
      pick (fun v => if A v (lastV p) = -1000000000000000 ∨ hasB p (v : Int) = true then [] else grow A n over f (p ++ [(v : Int)]) (wt + A v (lastV p))) (n - (vx p 0 + 1)) (vx p 0 + 1)
def stepG (A : Nat → Nat → Int) (n : Nat) (over : Int) (f : Nat) (p : List Int) (wt : Int) (v : Nat) : List Int := if A v (lastV p) = -1000000000000000 ∨ hasB p (v : Int) = true then [] else grow A n over f (p ++ [(v : Int)]) (wt + A v (lastV p))
theorem grow_yes {A : Nat → Nat → Int} {n f : Nat} {over wt : Int} {p : List Int} (h : clB A over p wt = true) : grow A n over (f + 1) p wt = p := by
  show (if _ then _ else _) = _
  rw [if_pos h]
theorem grow_no {A : Nat → Nat → Int} {n f : Nat} {over wt : Int} {p : List Int} (h : clB A over p wt = false) : grow A n over (f + 1) p wt = pick (stepG A n over f p wt) (n - (vx p 0 + 1)) (vx p 0 + 1) := by
  show (if _ then _ else _) = _
  rw [h, if_neg (by simp)]; rfl
theorem step_bot {A : Nat → Nat → Int} {n f : Nat} {over wt : Int} {p : List Int} {v : Nat} (h : A v (lastV p) = -1000000000000000) : (stepG A n over f p wt v).length = 0 := by
  unfold stepG; rw [if_pos (.inl h)]; rfl
theorem step_has {A : Nat → Nat → Int} {n f : Nat} {over wt : Int} {p : List Int} {v : Nat} (h : hasB p (v : Int) = true) : (stepG A n over f p wt v).length = 0 := by
  unfold stepG; rw [if_pos (.inr h)]; rfl
theorem step_go {A : Nat → Nat → Int} {n f : Nat} {over wt : Int} {p : List Int} {v : Nat} (h : A v (lastV p) ≠ -1000000000000000) (h2 : hasB p (v : Int) = false) : stepG A n over f p wt v = grow A n over f (p ++ [(v : Int)]) (wt + A v (lastV p)) := by
  unfold stepG; rw [if_neg]; rintro (e | e); exact h e; rw [h2] at e; simp at e
def overL (A : Nat → Nat → Int) (n : Nat) (over : Int) : List Int := pick (fun v => grow A n over n [(v : Int)] 0) n 0
theorem diffB_snoc {p : List Int} {v : Int} (h : diffB p = true) (h2 : hasB p v = false) : diffB (p ++ [v]) = true := by
  refine diffB_of fun i hi => ?_
  simp at hi
  by_cases e : i = p.length
  · subst e
    rw [List.take_left' rfl]
    simpa [List.getD_eq_getElem?_getD] using h2
  · have hi' : i < p.length := by omega
    have := List.all_eq_true.1 h i (List.mem_range.2 hi')
    rw [List.take_append_of_le_length (by omega), List.getD_eq_getElem?_getD, List.getElem?_append_left hi', ← List.getD_eq_getElem?_getD]
    simpa using this
theorem nodesB_snoc {n : Nat} {p : List Int} {v : Nat} (h : nodesB n p = true) (hv : v < n) : nodesB n (p ++ [(v : Int)]) = true := by
  unfold nodesB at *
  rw [List.all_append, h]
  simp [inN]; omega
theorem snoc_first {p : List Int} {v : Int} (h : 1 ≤ p.length) : vx (p ++ [v]) 0 = vx p 0 := by
  unfold vx; rw [List.getD_eq_getElem?_getD, List.getElem?_append_left (by omega), ← List.getD_eq_getElem?_getD]
theorem snoc_last {p : List Int} {v : Nat} : lastV (p ++ [(v : Int)]) = v := by
  unfold lastV vx; simp
theorem grow_nodes (A : Nat → Nat → Int) (n : Nat) (over : Int) (f : Nat) : ∀ p wt, (grow A n over f p wt).length ≤ p.length + f := by
  induction f with
  | zero => intro p wt; show 0 ≤ _; omega
  | succ f ih =>
    intro p wt
    by_cases h : clB A over p wt = true
    · rw [grow_yes h]; omega
    · rw [grow_no (by simpa using h)]
      have key : ∀ c v, (pick (stepG A n over f p wt) c v).length ≤ p.length + (f + 1) := by
        intro c
        induction c with
        | zero => intro v; show 0 ≤ _; omega
        | succ c ih2 =>
          intro v
          show (if _ then _ else _ : List Int).length ≤ _
          split
          · exact ih2 _
          · unfold stepG
            split
            · simp
            · have := ih (p ++ [(v : Int)]) (wt + A v (lastV p))
              simp at this; omega
      exact key _ _
def posRes (R : List (List Int)) : List Int × Int := if sqB R then (if (overL (ent R) R.length 0).length = 0 then ([], 4) else (overL (ent R) R.length 0, 0)) else ([], 1)
end M
end Go.Proofs.YtlofnadpgnbmdaaGreat

namespace Go.Proofs.YtlofnadpgnbmdaaGreat
namespace M
def plusM (R : List (List Int)) (n : Nat) : List (List Int) := mk n n (cfw (ent R) n)
def starF (A : Nat → Nat → Int) (n i j : Nat) : Int := if i = j then 0 else cfw A n i j
def starM (R : List (List Int)) (n : Nat) : List (List Int) := mk n n (starF (ent R) n)
def plusL (R : List (List Int)) (n : Nat) : List (List Int) × Bool := if noPos (ent R) n then (plusM R n, true) else ([], false)
def starL (R : List (List Int)) (n : Nat) : List (List Int) × Bool := if noPos (ent R) n then (starM R n, true) else ([], false)
def plusRes (R : List (List Int)) : List (List Int) × Int := if sqB R then (if noPos (ent R) R.length then (if isMat (plusM R R.length) then (plusM R R.length, 0) else ([], 3)) else ([], 5)) else ([], 1)
def starRes (R : List (List Int)) : List (List Int) × Int := if sqB R then (if noPos (ent R) R.length then (if isMat (starM R R.length) then (starM R R.length, 0) else ([], 3)) else ([], 5)) else ([], 1)
def fixRes (R : List (List Int)) (l : List Int) : List Int × Int := if sqB R && isVec l then (if R.length = l.length then (if noPos (ent R) R.length then (if isVec (applyM (starM R R.length) l) then (applyM (starM R R.length) l, 0) else ([], 3)) else ([], 5)) else ([], 5)) else ([], 1)
theorem plusRes_ok (R : List (List Int)) : okM (plusRes R).1 := by
  unfold plusRes
  split
  · split
    · split
      · next h => exact .inr h
      · exact .inl rfl
    · exact .inl rfl
  · exact .inl rfl
theorem starRes_ok (R : List (List Int)) : okM (starRes R).1 := by
  unfold starRes
  split
  · split
    · split
      · next h => exact .inr h
      · exact .inl rfl
    · exact .inl rfl
  · exact .inl rfl
theorem fixRes_len (R : List (List Int)) (l : List Int) : (fixRes R l).1.length ≤ 10 := by
  unfold fixRes
  split
  · split
    · split
      · split
        · next h => exact (isVec_t h).2.1
        · simp
      · simp
    · simp
  · simp
/-- The matrix within a round: the entries before i, j are done. -/
def midF (A : Nat → Nat → Int) (k i j s t : Nat) : Int := if s < i ∨ (s = i ∧ t < j) then cfw A (k + 1) s t else cfw A k s t
/-- The paths with at most so many arcs, as a matrix. -/
def bmM (R : List (List Int)) (n t : Nat) : List (List Int) := mk n n (cbm (ent R) n t)
section
variable {A : Nat → Nat → Int} {n : Nat} (hn : n ≤ 10) (hA : ∀ i j, i < n → j < n → Sm 1000001000000 (A i j))
include hn hA
theorem mid_col {k i j s : Nat} (hk : k < n) (hd : ∀ m, m < k → cfw A m m m ≤ 0) (h : cfw A k k k ≤ 0) (hs : s < n) : midF A k i j s k = cfw A k s k := by
  unfold midF
  split
  · exact cfw_col hn hA hk hd h hs
  · rfl
theorem mid_row {k i j t : Nat} (hk : k < n) (hd : ∀ m, m < k → cfw A m m m ≤ 0) (h : cfw A k k k ≤ 0) (ht : t < n) : midF A k i j k t = cfw A k k t := by
  unfold midF
  split
  · exact cfw_row hn hA hk hd h ht
  · rfl
theorem star_sm (hp : noPos A n = true) {i j : Nat} (hi : i < n) (hj : j < n) : Sm 11000011000000 (starF A n i j) := by
  unfold starF
  split
  · right; omega
  · exact cfw_big hn hA (Nat.le_refl _) (fun _ hu => noPos_t hp hu) i j hi hj
end
theorem mid_next (A : Nat → Nat → Int) (n k i j : Nat) (hi : i < n) :
    (mk n n (midF A k i j)).set i (((mk n n (midF A k i j)).getD i []).set j (cfw A (k + 1) i j)) = mk n n (midF A k i (j + 1)) := by
  rw [mk_set _ _ _ _ _ _ hi]
  refine mk_congr fun s _ t _ => ?_
  unfold midF
  by_cases e : s = i
  · subst e
    rw [if_pos rfl]
    by_cases e2 : t = j
    · subst e2; rw [if_pos rfl, if_pos (by omega)]
    · rw [if_neg e2]
      by_cases e3 : t < j
      · rw [if_pos (by omega), if_pos (by omega)]
      · rw [if_neg (by omega), if_neg (by omega)]
  · rw [if_neg e]
    by_cases e3 : s < i
    · rw [if_pos (by omega), if_pos (by omega)]
    · rw [if_neg (by omega), if_neg (by omega)]
theorem mid_row_end (A : Nat → Nat → Int) (n k i : Nat) : mk n n (midF A k i n) = mk n n (midF A k (i + 1) 0) :=
  mk_congr fun s _ t ht => by
    unfold midF
    by_cases e : s < i ∨ (s = i ∧ t < n)
    · rw [if_pos e, if_pos (by omega)]
    · rw [if_neg e, if_neg (by omega)]
theorem mid_zero (A : Nat → Nat → Int) (n k : Nat) : mk n n (midF A k 0 0) = mk n n (cfw A k) :=
  mk_congr fun s _ t _ => by unfold midF; rw [if_neg (by omega)]
theorem mid_end (A : Nat → Nat → Int) (n k : Nat) : mk n n (midF A k n 0) = mk n n (cfw A (k + 1)) :=
  mk_congr fun s hs t _ => by unfold midF; rw [if_pos (by omega)]
/-- One step of the model: the unit plus the matrix times what was. -/
theorem bm_step (R : List (List Int)) (n t : Nat) :
    mk n n (fun i j => max (ent (unitM n) i j) (ent (mk n n (fun i j => dot R (bmM R n t) i j n)) i j)) = bmM R n (t + 1) :=
  mk_congr fun i hi j hj => by
    unfold unitM
    rw [ent_mk _ _ _ _ _ hi hj, ent_mk _ _ _ _ _ hi hj]
    show max (unit i j) _ = max (unit i j) _
    congr 1
    unfold dot
    exact sumN_congr fun u hu => by
      unfold bmM
      rw [ent_mk _ _ _ _ _ hu hj]
theorem bm_zero (R : List (List Int)) (n : Nat) : unitM n = bmM R n 0 := rfl
theorem mk_inj {n : Nat} {f g : Nat → Nat → Int} (h : mk n n f = mk n n g) {i j : Nat} (hi : i < n) (hj : j < n) : f i j = g i j := by
  have := congrArg (fun R => ent R i j) h
  simp only [ent_mk _ _ _ _ _ hi hj] at this
  exact this
theorem bm_big {R : List (List Int)} {n : Nat} (hA : ∀ i j, i < n → j < n → Sm 1000001000000 (ent R i j)) {t : Nat} (ht : t ≤ 11) {i j : Nat} (hi : i < n) (hj : j < n) : Big (ent (bmM R n t) i j) := by
  unfold bmM
  rw [ent_mk _ _ _ _ _ hi hj]
  exact big_sm (cbm_sm hA t i j hi hj) (by omega)
section
variable {R : List (List Int)} {n : Nat} (hn : n ≤ 10) (hA : ∀ i j, i < n → j < n → Sm 1000001000000 (ent R i j))
include hn hA
/-- The model's test is the program's. -/
theorem bm_same : decide (bmM R n (n + 1) = bmM R n n) = noPos (ent R) n := by
  cases h : noPos (ent R) n with
  | true =>
    rw [decide_eq_true]
    exact mk_congr fun i hi j hj => clo_same hn hA h hi hj
  | false =>
    obtain ⟨i, j, hi, hj, hne⟩ := clo_pos hn hA h
    rw [decide_eq_false]
    exact fun e => hne (mk_inj e hi hj)
theorem bm_star (h : noPos (ent R) n = true) : bmM R n n = starM R n :=
  mk_congr fun i hi j hj => clo_star hn hA h hi hj
theorem bm_plus (h : noPos (ent R) n = true) : mk n n (fun i j => dot R (bmM R n n) i j n) = plusM R n :=
  mk_congr fun i hi j hj => by
    rw [← clo_plus hn hA h hi hj]
    unfold dot
    exact sumN_congr fun u hu => by
      unfold bmM
      rw [ent_mk _ _ _ _ _ hu hj]
theorem star_big (hp : noPos (ent R) n = true) {i j : Nat} (hi : i < n) (hj : j < n) : Big (ent (starM R n) i j) := by
  unfold starM
  rw [ent_mk _ _ _ _ _ hi hj]
  exact big_sm (star_sm hn hA hp hi hj) (by omega)
end
end M
end Go.Proofs.YtlofnadpgnbmdaaGreat

namespace Go.Proofs.YtlofnadpgnbmdaaGreat
namespace M
theorem pick_some {g : Nat → List Int} {v : Nat} : ∀ c k, k ≤ v → v < k + c → (g v).length ≠ 0 → (pick g c k).length ≠ 0 := by
  intro c
  induction c with
  | zero => intro k h1 h2; omega
  | succ c ih =>
    intro k h1 h2 h3
    show (if _ then _ else _ : List Int).length ≠ 0
    split
    · next h =>
      by_cases e : k = v
      · subst e; exact absurd h h3
      · exact ih (k + 1) (by omega) (by omega) h3
    · next h => exact h
theorem pick_from {g : Nat → List Int} : ∀ c k, (pick g c k).length ≠ 0 → ∃ v, k ≤ v ∧ v < k + c ∧ (g v).length ≠ 0 := by
  intro c
  induction c with
  | zero => intro k h; exact absurd rfl h
  | succ c ih =>
    intro k h
    by_cases e : (g k).length = 0
    · have h : (if (g k).length = 0 then pick g c (k + 1) else g k).length ≠ 0 := h
      rw [if_pos e] at h
      obtain ⟨v, h1, h2, h3⟩ := ih _ h
      exact ⟨v, by omega, by omega, h3⟩
    · exact ⟨k, Nat.le_refl _, by omega, e⟩
theorem times_fin {a b : Int} (ha : a ≠ -1000000000000000) (hb : b ≠ -1000000000000000) : times a b = a + b := by
  unfold times; rw [if_neg]; rintro (h | h) <;> contradiction
theorem snoc_vx {p : List Int} {v : Nat} {u : Nat} (h : u < p.length) : vx (p ++ [(v : Int)]) u = vx p u := by
  unfold vx; rw [List.getD_eq_getElem?_getD, List.getElem?_append_left h, ← List.getD_eq_getElem?_getD]
theorem snoc_vxl {p : List Int} {v : Nat} : vx (p ++ [(v : Int)]) p.length = v := by
  unfold vx; simp
/-- What is found is a closed path with a gain. -/
theorem grow_sound {A : Nat → Nat → Int} {n : Nat} (hA : ∀ i j, i < n → j < n → Sm 1000001000000 (A i j)) (f : Nat) : ∀ p wt, nodesB n p = true → 1 ≤ p.length → p.length + f ≤ 50 → wt = wkc A (vx p) (p.length - 1) → wt ≠ -1000000000000000 → (grow A n 0 f p wt).length ≠ 0 →
    ∃ q, nodesB n q = true ∧ 1 ≤ q.length ∧ q.length ≤ 50 ∧ wkc A (vx q) (q.length - 1) ≠ -1000000000000000 ∧ A (vx q 0) (lastV q) ≠ -1000000000000000 ∧ 0 < wkc A (vx q) (q.length - 1) + A (vx q 0) (lastV q) := by
  induction f with
  | zero => intro p wt _ _ _ _ _ h; exact absurd rfl h
  | succ f ih =>
    intro p wt hp h1 hf hw hb h
    by_cases hc : clB A 0 p wt = true
    · unfold clB at hc
      rw [Bool.and_eq_true, decide_eq_true_eq, decide_eq_true_eq] at hc
      exact ⟨p, hp, h1, by omega, by rw [← hw]; exact hb, hc.1, by rw [← hw]; exact hc.2⟩
    · rw [grow_no (by simpa using hc)] at h
      obtain ⟨v, hv1, hv2, hv3⟩ := pick_from _ _ h
      have hvn : v < n := by omega
      unfold stepG at hv3
      split at hv3
      · exact absurd rfl hv3
      · next hne =>
        have ha : A v (lastV p) ≠ -1000000000000000 := fun e => hne (.inl e)
        have hl : lastV p < n := vx_lt hp (by omega)
        have hsm := wkc_sm (A := A) (v := vx p) (t := p.length - 1) (fun u hu => hA _ _ (vx_lt hp (by omega)) (vx_lt hp (by omega)))
        rw [← hw] at hsm
        have hsa := hA v (lastV p) hvn hl
        refine ih (p ++ [(v : Int)]) _ (nodesB_snoc hp hvn) (by simp) (by simp; omega) ?_ ?_ hv3
        · rw [List.length_append, List.length_singleton, Nat.add_sub_cancel]
          obtain ⟨m, hm⟩ : ∃ m, p.length = m + 1 := ⟨p.length - 1, by omega⟩
          have e1 : wkc A (vx (p ++ [(v : Int)])) m = wt := by
            rw [hw, show p.length - 1 = m by omega]
            exact wkc_congr fun u hu => snoc_vx (by omega)
          have e2 : vx (p ++ [(v : Int)]) (m + 1) = v := by rw [← hm]; exact snoc_vxl
          have e3 : vx (p ++ [(v : Int)]) m = lastV p := by rw [snoc_vx (by omega)]; unfold lastV; rw [show p.length - 1 = m by omega]
          rw [hm]
          show _ = times (wkc A _ m) (A _ _)
          rw [e1, e2, e3, times_fin hb ha]
        · unfold Sm at hsm hsa
          omega
/-- No gain, no cycle. -/
theorem over_none {A : Nat → Nat → Int} {n : Nat} (hn : n ≤ 10) (hA : ∀ i j, i < n → j < n → Sm 1000001000000 (A i j)) (h : noPos A n = true) : (overL A n 0).length = 0 := by
  apply Classical.byContradiction
  intro hne
  obtain ⟨v, -, hv, hg⟩ := pick_from _ _ hne
  have hvn : v < n := by omega
  obtain ⟨q, q1, q2, q3, q4, q5, q6⟩ := grow_sound hA n [(v : Int)] 0 (by simp [nodesB, inN]; omega) (by simp) (by simp; omega) rfl (by omega) hg
  obtain ⟨m, hm⟩ : ∃ m, q.length = m + 1 := ⟨q.length - 1, by omega⟩
  have hlast : lastV q = vx q m := by unfold lastV; rw [hm, Nat.add_sub_cancel]
  rw [hm, Nat.add_sub_cancel] at q4 q6
  rw [hlast] at q5 q6
  have hq : ∀ u, u ≤ m → vx q u < n := fun u hu => vx_lt q1 (by omega)
  let w : Nat → Nat := fun u => if u ≤ m then vx q u else vx q 0
  have hw : ∀ u, u ≤ m + 1 → w u < n := fun u _ => by
    show (if u ≤ m then vx q u else vx q 0) < n
    split
    · next h => exact hq u h
    · exact hq 0 (by omega)
  have e1 : w (m + 1) = vx q 0 := by show (if m + 1 ≤ m then _ else _) = _; rw [if_neg (by omega)]
  have e2 : w m = vx q m := by show (if m ≤ m then _ else _) = _; rw [if_pos (Nat.le_refl _)]
  have e3 : wkc A w (m + 1) = wkc A (vx q) m + A (vx q 0) (vx q m) := by
    show times (wkc A w m) (A (w (m + 1)) (w m)) = _
    rw [e1, e2, wkc_congr (v' := vx q) (fun u hu => by show (if u ≤ m then _ else _) = _; rw [if_pos hu]), times_fin q4 q5]
  have ho := o_wkc (A := A) (v := w) (t := m + 1) (by omega) (fun u hu => hA _ _ (hw _ (by omega)) (hw _ (by omega)))
  have hd := owk_diag (o_diag hn hA h) w (m + 1) hw (by rw [e1]; show _ = (if 0 ≤ m then _ else _); rw [if_pos (Nat.zero_le _)])
  rw [← ho, e3, o_fin (by omega)] at hd
  have : wkc A (vx q) m + A (vx q 0) (vx q m) ≤ 0 := hd
  omega

section opt
variable {f : Nat → Nat → Option Int} {n : Nat}
/-- A closed walk with a gain. -/
def Gain (f : Nat → Nat → Option Int) (n : Nat) (v : Nat → Nat) (s : Nat) : Prop := 1 ≤ s ∧ v s = v 0 ∧ (∀ u, u ≤ s → v u < n) ∧ ¬ ole (owk f v s) (some 0)
theorem gain_least {s : Nat} {v : Nat → Nat} (h : Gain f n v s) : ∃ t w, Gain f n w t ∧ ∀ t' w', t' < t → ¬ Gain f n w' t' := by
  induction s using Nat.strongRecOn generalizing v with
  | _ s ih =>
    by_cases e : ∃ t' w', t' < s ∧ Gain f n w' t'
    · obtain ⟨t', w', h1, h2⟩ := e
      exact ih t' h1 h2
    · exact ⟨s, v, h, fun t' w' h1 h2 => e ⟨t', w', h1, h2⟩⟩
/-- A shortest one has no node twice. -/
theorem gain_simple {s : Nat} {v : Nat → Nat} (h : Gain f n v s) (hl : ∀ t' w', t' < s → ¬ Gain f n w' t') {a b : Nat} (hab : a < b) (hb : b < s) : v a ≠ v b := by
  intro e
  obtain ⟨h1, h2, h3, h4⟩ := h
  by_cases hin : ole (owk f (fun u => v (a + u)) (b - a)) (some 0)
  · obtain ⟨v', q1, q2, q3, q4⟩ := skip f v s a b hab (by omega) e h3 hin
    exact hl (s - (b - a)) v' (by omega) ⟨by omega, by rw [q1, q2, h2], q3, fun hx => h4 (ole_trans q4 hx)⟩
  · refine hl (b - a) (fun u => v (a + u)) (by omega) ⟨by omega, ?_, fun u hu => h3 _ (by omega), hin⟩
    show v (a + (b - a)) = v (a + 0)
    rw [show a + (b - a) = b by omega]; exact e.symm
theorem least_at (v : Nat → Nat) (s : Nat) (hs : 1 ≤ s) : ∃ r, r < s ∧ ∀ u, u < s → v r ≤ v u := by
  induction s with
  | zero => omega
  | succ s ih =>
    by_cases h0 : s = 0
    · subst h0; exact ⟨0, by omega, fun u hu => by obtain rfl : u = 0 := by omega
                                                   exact Nat.le_refl _⟩
    · obtain ⟨r, hr, hm⟩ := ih (by omega)
      by_cases hc : v r ≤ v s
      · exact ⟨r, by omega, fun u hu => by
          by_cases e : u = s
          · subst e; exact hc
          · exact hm u (by omega)⟩
      · exact ⟨s, by omega, fun u hu => by
          by_cases e : u = s
          · subst e; exact Nat.le_refl _
          · have := hm u (by omega); omega⟩
/-- It may begin with any of its nodes. -/
theorem gain_turn {s r : Nat} {v : Nat → Nat} (h : Gain f n v s) (hr : r < s) : Gain f n (fun u => v ((r + u) % s)) s := by
  obtain ⟨h1, h2, h3, h4⟩ := h
  refine ⟨h1, ?_, fun u _ => h3 _ (by have := Nat.mod_lt (r + u) (show s > 0 by omega); omega), ?_⟩
  · show v ((r + s) % s) = v ((r + 0) % s)
    rw [Nat.add_mod_right, Nat.add_zero]
  · have e : owk f (fun u => v ((r + u) % s)) s = owk f v s := by
      have e1 : owk f (fun u => v ((r + u) % s)) s = omul (owk f v r) (owk f (fun u => v (r + u)) (s - r)) := by
        have : owk f (fun u => v ((r + u) % s)) ((s - r) + r) = omul (owk f v r) (owk f (fun u => v (r + u)) (s - r)) := by
          rw [owk_add]
          congr 1
          · refine owk_congr fun u hu => ?_
            show v ((r + (s - r + u)) % s) = v u
            rw [show r + (s - r + u) = u + s by omega, Nat.add_mod_right, Nat.mod_eq_of_lt (by omega)]
          · refine owk_congr fun u hu => ?_
            show v ((r + u) % s) = v (r + u)
            by_cases hx : r + u < s
            · rw [Nat.mod_eq_of_lt hx]
            · obtain rfl : u = s - r := by omega
              rw [show r + (s - r) = s by omega, Nat.mod_self, h2]
        rwa [show (s - r) + r = s by omega] at this
      have e2 : owk f v s = omul (owk f (fun u => v (r + u)) (s - r)) (owk f v r) := by
        rw [← owk_add, show r + (s - r) = s by omega]
      rw [e1, e2, omul_comm]
    rw [e]; exact h4
end opt
theorem gain_of {A : Nat → Nat → Int} {n : Nat} (hn : n ≤ 10) (hA : ∀ i j, i < n → j < n → Sm 1000001000000 (A i j)) (h : noPos A n = false) : ∃ v s, Gain (fun i j => o (A i j)) n v s := by
  obtain ⟨i, j, hi, hj, hne⟩ := clo_pos hn hA h
  have e1 := o_cbm hA (n + 1) (by omega) i j hi hj
  have e2 := o_cbm hA n (by omega) i j hi hj
  have hlt : ¬ ole (obm (fun i j => o (A i j)) n (n + 1) i j) (obm (fun i j => o (A i j)) n n i j) := fun hle => by
    have := ole_anti hle (obm_mono (Nat.le_succ n) hi hj)
    rw [← e1, ← e2] at this
    exact hne (o_inj this)
  rcases obm_att (n + 1) i j hi hj with e | ⟨v, s, hs, h0, h1, hv, e⟩
  · rw [e] at hlt; exact absurd (ole_none _) hlt
  · rw [e] at hlt
    have hsn : s = n + 1 := by
      apply Classical.byContradiction
      intro hc
      have := obm_up (f := fun i j => o (A i j)) (n := n) n v s (by omega) hv
      rw [h0, h1] at this
      exact hlt this
    subst hsn
    obtain ⟨a, b, hab, hb, eab⟩ := pigeon n v (fun t ht => hv t (by omega))
    by_cases hin : ole (owk (fun i j => o (A i j)) (fun u => v (a + u)) (b - a)) (some 0)
    · obtain ⟨v', q1, q2, q3, q4⟩ := skip (fun i j => o (A i j)) v (n + 1) a b hab (by omega) eab hv hin
      have := obm_up (f := fun i j => o (A i j)) (n := n) n v' (n + 1 - (b - a)) (by omega) q3
      rw [q1, q2, h0, h1] at this
      exact absurd (ole_trans q4 this) hlt
    · refine ⟨fun u => v (a + u), b - a, by omega, ?_, fun u hu => hv _ (by omega), hin⟩
      show v (a + (b - a)) = v (a + 0)
      rw [show a + (b - a) = b by omega]; exact eab.symm

/-- A cycle that begins with its least node is found. -/
theorem dfs_finds {A : Nat → Nat → Int} {n : Nat} {ov : Int} (v : Nat → Nat) (s : Nat) (hv : ∀ u, u < s → v u < n) (hmin : ∀ u, 0 < u → u < s → v 0 < v u) (hdis : ∀ a b, a < b → b < s → v a ≠ v b)
    (harc : ∀ u, u + 1 < s → A (v (u + 1)) (v u) ≠ -1000000000000000) (hw : ∀ k, k < s → wkc A v k ≠ -1000000000000000) (hcl : A (v 0) (v (s - 1)) ≠ -1000000000000000) (hpos : ov < wkc A v (s - 1) + A (v 0) (v (s - 1))) :
    ∀ d k f, k + d + 1 = s → d + 1 ≤ f → (grow A n ov f ((List.range (k + 1)).map fun u => ((v u : Nat) : Int)) (wkc A v k)).length ≠ 0 := by
  intro d
  induction d with
  | zero =>
    intro k f hk hf
    obtain ⟨f, rfl⟩ : ∃ m, f = m + 1 := ⟨f - 1, by omega⟩
    have hvx : vx ((List.range (k + 1)).map fun u => ((v u : Nat) : Int)) 0 = v 0 := by unfold vx; simp
    have hla : lastV ((List.range (k + 1)).map fun u => ((v u : Nat) : Int)) = v k := by unfold lastV vx; simp
    have hks : s - 1 = k := by omega
    rw [hks] at hcl hpos
    have hc : clB A ov ((List.range (k + 1)).map fun u => ((v u : Nat) : Int)) (wkc A v k) = true := by
      unfold clB
      rw [hvx, hla]
      simp [hcl, hpos]
    rw [grow_yes hc]
    simp
  | succ d ih =>
    intro k f hk hf
    obtain ⟨f, rfl⟩ : ∃ m, f = m + 1 := ⟨f - 1, by omega⟩
    have hvx : vx ((List.range (k + 1)).map fun u => ((v u : Nat) : Int)) 0 = v 0 := by unfold vx; simp
    have hla : lastV ((List.range (k + 1)).map fun u => ((v u : Nat) : Int)) = v k := by unfold lastV vx; simp
    by_cases hc : clB A ov ((List.range (k + 1)).map fun u => ((v u : Nat) : Int)) (wkc A v k) = true
    · rw [grow_yes hc]; simp
    · rw [grow_no (by simpa using hc), hvx]
      have hlt := hmin (k + 1) (by omega) (by omega)
      have hvn := hv (k + 1) (by omega)
      refine pick_some (v := v (k + 1)) _ _ (by omega) (by omega) ?_
      have hhas : hasB ((List.range (k + 1)).map fun u => ((v u : Nat) : Int)) ((v (k + 1) : Nat) : Int) = false := by
        cases e : hasB ((List.range (k + 1)).map fun u => ((v u : Nat) : Int)) ((v (k + 1) : Nat) : Int) with
        | false => rfl
        | true =>
          rw [hasB_iff, List.mem_map] at e
          obtain ⟨u, hu, he⟩ := e
          have := hdis u (k + 1) (List.mem_range.1 hu) (by omega)
          omega
      have ha := harc k (by omega)
      rw [step_go (by rw [hla]; exact ha) hhas, hla]
      have := ih (k + 1) f (by omega) (by omega)
      have e1 : (List.range (k + 1 + 1)).map (fun u => ((v u : Nat) : Int)) = (List.range (k + 1)).map (fun u => ((v u : Nat) : Int)) ++ [((v (k + 1) : Nat) : Int)] := by
        rw [List.range_succ, List.map_append, List.map_singleton]
      have e2 : wkc A v (k + 1) = wkc A v k + A (v (k + 1)) (v k) := times_fin (hw k (by omega)) ha
      rw [e1, e2] at this
      exact this
/-- A gain, a cycle. -/
theorem over_some {A : Nat → Nat → Int} {n : Nat} (hn : n ≤ 10) (hA : ∀ i j, i < n → j < n → Sm 1000001000000 (A i j)) (h : noPos A n = false) : (overL A n 0).length ≠ 0 := by
  obtain ⟨v0, s0, g0⟩ := gain_of hn hA h
  obtain ⟨s, v1, g1, hl⟩ := gain_least g0
  obtain ⟨r, hr, hm⟩ := least_at v1 s g1.1
  have g2 := gain_turn g1 hr
  obtain ⟨v, hvd⟩ : ∃ v : Nat → Nat, v = fun u => v1 ((r + u) % s) := ⟨_, rfl⟩
  rw [← hvd] at g2
  have hs1 := g1.1
  have hdis : ∀ a b, a < b → b < s → v a ≠ v b := fun a b hab hb => gain_simple g2 hl hab hb
  have hmin : ∀ u, 0 < u → u < s → v 0 < v u := fun u hu hus => by
    have h1 := hdis 0 u hu hus
    have h2 : v 0 ≤ v u := by
      rw [hvd]
      show v1 ((r + 0) % s) ≤ v1 ((r + u) % s)
      rw [Nat.add_zero, Nat.mod_eq_of_lt hr]
      exact hm _ (Nat.mod_lt _ (by omega))
    omega
  obtain ⟨-, hcl0, hv, hgain⟩ := g2
  have hsn : s ≤ n := by
    apply Classical.byContradiction
    intro hc
    obtain ⟨a, b, hab, hb, e⟩ := pigeon n v (fun t ht => hv t (by omega))
    exact hdis a b hab (by omega) e
  have hsm : ∀ u, u < s → Sm 1000001000000 (A (v (u + 1)) (v u)) := fun u hu => hA _ _ (hv _ (by omega)) (hv _ (by omega))
  have ho : ∀ k, k ≤ s → o (wkc A v k) = owk (fun i j => o (A i j)) v k := fun k hk => o_wkc (by omega) (fun u hu => hsm u (by omega))
  have hfin : wkc A v s ≠ -1000000000000000 := fun e => hgain (by rw [← ho s (Nat.le_refl _), e, o_bot]; exact ole_none _)
  have hw : ∀ k, k ≤ s → wkc A v k ≠ -1000000000000000 := fun k hk e => hfin (wkc_bot e hk)
  have harc : ∀ u, u < s → A (v (u + 1)) (v u) ≠ -1000000000000000 := fun u hu e => hw (u + 1) (by omega) (by
    show times _ (A (v (u + 1)) (v u)) = _
    unfold times; rw [if_pos (.inr e)])
  obtain ⟨m, rfl⟩ : ∃ m, s = m + 1 := ⟨s - 1, by omega⟩
  have e1 : wkc A v (m + 1) = wkc A v m + A (v 0) (v m) := by
    rw [← hcl0]
    exact times_fin (hw m (by omega)) (harc m (by omega))
  have hpos : 0 < wkc A v m + A (v 0) (v m) := by
    rw [← ho (m + 1) (Nat.le_refl _), o_fin hfin, e1] at hgain
    have : ¬ (wkc A v m + A (v 0) (v m) ≤ 0) := hgain
    omega
  have hc0 : A (v 0) (v m) ≠ -1000000000000000 := by rw [← hcl0]; exact harc m (by omega)
  have := dfs_finds (A := A) (n := n) v (m + 1) (fun u hu => hv u (by omega)) hmin hdis (fun u hu => harc u (by omega)) (fun k hk => hw k (by omega)) (by rw [Nat.add_sub_cancel]; exact hc0) (by rw [Nat.add_sub_cancel]; exact hpos) m 0 n (by omega) (by omega)
  refine pick_some (v := v 0) _ _ (Nat.zero_le _) (by have := hv 0 (by omega); omega) ?_
  exact this
end M
end Go.Proofs.YtlofnadpgnbmdaaGreat

namespace Go.Proofs.YtlofnadpgnbmdaaGreat
namespace M
theorem pick_is {g : Nat → List Int} : ∀ c k, (pick g c k).length ≠ 0 → ∃ v, k ≤ v ∧ v < k + c ∧ pick g c k = g v := by
  intro c
  induction c with
  | zero => intro k h; exact absurd rfl h
  | succ c ih =>
    intro k h
    by_cases e : (g k).length = 0
    · have e2 : pick g (c + 1) k = pick g c (k + 1) := if_pos e
      rw [e2] at h
      obtain ⟨v, h1, h2, h3⟩ := ih _ h
      exact ⟨v, by omega, by omega, by rw [e2, h3]⟩
    · exact ⟨k, Nat.le_refl _, by omega, if_neg e⟩
/-- What a grown path is. -/
def Found (A : Nat → Nat → Int) (n : Nat) (q : List Int) : Prop :=
  nodesB n q = true ∧ diffB q = true ∧ 1 ≤ q.length ∧ wkc A (vx q) (q.length - 1) ≠ -1000000000000000 ∧ A (vx q 0) (lastV q) ≠ -1000000000000000 ∧ 0 < wkc A (vx q) (q.length - 1) + A (vx q 0) (lastV q)
theorem grow_is {A : Nat → Nat → Int} {n : Nat} (hA : ∀ i j, i < n → j < n → Sm 1000001000000 (A i j)) (f : Nat) : ∀ p wt, nodesB n p = true → diffB p = true → 1 ≤ p.length → p.length + f ≤ 100 → wt = wkc A (vx p) (p.length - 1) → wt ≠ -1000000000000000 → (grow A n 0 f p wt).length ≠ 0 →
    Found A n (grow A n 0 f p wt) := by
  induction f with
  | zero => intro p wt _ _ _ _ _ _ h; exact absurd rfl h
  | succ f ih =>
    intro p wt hp hd h1 hf hw hb h
    by_cases hc : clB A 0 p wt = true
    · rw [grow_yes hc]
      unfold clB at hc
      rw [Bool.and_eq_true, decide_eq_true_eq, decide_eq_true_eq] at hc
      exact ⟨hp, hd, h1, by rw [← hw]; exact hb, hc.1, by rw [← hw]; exact hc.2⟩
    · rw [grow_no (by simpa using hc)] at h ⊢
      obtain ⟨v, hv1, hv2, hv3⟩ := pick_is _ _ h
      rw [hv3] at h ⊢
      have hvn : v < n := by omega
      unfold stepG at h ⊢
      split at h
      · exact absurd rfl h
      · next hne =>
        rw [if_neg hne]
        have ha : A v (lastV p) ≠ -1000000000000000 := fun e => hne (.inl e)
        have hhb : hasB p (v : Int) = false := by
          cases e : hasB p (v : Int) with
          | false => rfl
          | true => exact absurd (.inr e) hne
        have hl : lastV p < n := vx_lt hp (by omega)
        have hsm := wkc_sm (A := A) (v := vx p) (t := p.length - 1) (fun u hu => hA _ _ (vx_lt hp (by omega)) (vx_lt hp (by omega)))
        rw [← hw] at hsm
        have hsa := hA v (lastV p) hvn hl
        refine ih (p ++ [(v : Int)]) _ (nodesB_snoc hp hvn) (diffB_snoc hd hhb) (by simp) (by simp; omega) ?_ ?_ h
        · rw [List.length_append, List.length_singleton, Nat.add_sub_cancel]
          obtain ⟨m, hm⟩ : ∃ m, p.length = m + 1 := ⟨p.length - 1, by omega⟩
          have e1 : wkc A (vx (p ++ [(v : Int)])) m = wt := by
            rw [hw, show p.length - 1 = m by omega]
            exact wkc_congr fun u hu => snoc_vx (by omega)
          have e2 : vx (p ++ [(v : Int)]) (m + 1) = v := by rw [← hm]; exact snoc_vxl
          have e3 : vx (p ++ [(v : Int)]) m = lastV p := by rw [snoc_vx (by omega)]; unfold lastV; rw [show p.length - 1 = m by omega]
          rw [hm]
          show _ = times (wkc A _ m) (A _ _)
          rw [e1, e2, e3, times_fin hb ha]
        · unfold Sm at hsm hsa
          omega
theorem over_is {A : Nat → Nat → Int} {n : Nat} (hn : n ≤ 10) (hA : ∀ i j, i < n → j < n → Sm 1000001000000 (A i j)) (h : (overL A n 0).length ≠ 0) : Found A n (overL A n 0) := by
  unfold overL at h ⊢
  obtain ⟨v, hv1, hv2, hv3⟩ := pick_is _ _ h
  rw [hv3] at h ⊢
  refine grow_is hA n [(v : Int)] 0 ?_ ?_ (by simp) (by simp; omega) rfl (by omega) h
  · unfold nodesB; simp [inN]; omega
  · exact diffB_of (fun i hi => by simp at hi; subst hi; rfl)
theorem chk_pos {a : Int} (h : 0 < a) : (chk a).2 = 3 ∨ (chk a).2 = 0 ∧ 0 < (chk a).1 := by
  unfold chk
  split
  · exact .inr ⟨rfl, h⟩
  · exact .inl rfl
theorem sm_of {R : List (List Int)} (hs : sqB R = true) : R.length ≤ 10 ∧ ∀ i j, i < R.length → j < R.length → Sm 1000001000000 (ent R i j) := by
  obtain ⟨h1, h2⟩ := sqB_t hs
  obtain ⟨-, m2, -, -, -, m6⟩ := isMat_t h1
  exact ⟨m2, fun i j hi hj => sm_wide (sm_val (m6 i hi j (by rw [← h2]; exact hj)))⟩
/-- The cycle that PositiveCycle tells has a weight over 0, or one that is no value. -/
theorem pos_gain (R : List (List Int)) (h : (posRes R).2 = 0) : (cycRes R (posRes R).1).2 = 3 ∨ (cycRes R (posRes R).1).2 = 0 ∧ 0 < (cycRes R (posRes R).1).1 := by
  by_cases hs : sqB R = true
  · obtain ⟨hn, hA⟩ := sm_of hs
    by_cases h0 : (overL (ent R) R.length 0).length = 0
    · unfold posRes at h
      rw [if_pos hs, if_pos h0] at h
      exact absurd h (by decide)
    · have e : posRes R = (overL (ent R) R.length 0, 0) := by unfold posRes; rw [if_pos hs, if_neg h0]
      rw [e]
      obtain ⟨f1, f2, f3, f4, f5, f6⟩ := over_is hn hA h0
      show (cycRes R (overL (ent R) R.length 0)).2 = 3 ∨ _
      generalize overL (ent R) R.length 0 = q at f1 f2 f3 f4 f5 f6 ⊢
      have ea : aroundW R q = wkc (ent R) (vx q) (q.length - 1) + ent R (vx q 0) (lastV q) := times_fin f4 f5
      have hl := diffB_len f1 f2
      have hb : aroundW R q ≠ -1000000000000000 := by omega
      have hc : cycB R q = true := by unfold cycB; rw [f1, f2]; simp [f3, hb]
      unfold cycRes
      rw [if_pos hs, if_pos hc]
      exact chk_pos (by omega)
  · unfold posRes at h
    rw [if_neg hs] at h
    exact absurd h (by decide)
theorem diffB_iff {l : List Int} : diffB l = true ↔ l.Nodup := by
  constructor
  · intro h
    unfold List.Nodup
    rw [List.pairwise_iff_getElem]
    intro i j hi hj hij e
    have := diffB_t h hj
    have hm : hasB (l.take j) (l.getD j 0) = true := hasB_iff.2 (by
      simp only [List.getD_eq_getElem?_getD, List.getElem?_eq_getElem hj, Option.getD_some]
      rw [← e]
      exact List.mem_take_iff_getElem.2 ⟨i, by omega, rfl⟩)
    rw [hm] at this
    cases this
  · intro h
    unfold List.Nodup at h
    rw [List.pairwise_iff_getElem] at h
    refine diffB_of fun j hj => ?_
    cases e : hasB (l.take j) (l.getD j 0) with
    | false => rfl
    | true =>
      have hm := hasB_iff.1 e
      simp only [List.getD_eq_getElem?_getD, List.getElem?_eq_getElem hj, Option.getD_some] at hm
      obtain ⟨i, hi, he⟩ := List.mem_take_iff_getElem.1 hm
      exact absurd he (h i j (by omega) hj (by omega))
theorem turn_same (f : Nat → Nat → Option Int) (v : Nat → Nat) (s r : Nat) (h2 : v s = v 0) (hr : r < s) : owk f (fun u => v ((r + u) % s)) s = owk f v s := by
  have e1 : owk f (fun u => v ((r + u) % s)) s = omul (owk f v r) (owk f (fun u => v (r + u)) (s - r)) := by
    have : owk f (fun u => v ((r + u) % s)) ((s - r) + r) = omul (owk f v r) (owk f (fun u => v (r + u)) (s - r)) := by
      rw [owk_add]
      congr 1
      · refine owk_congr fun u hu => ?_
        show v ((r + (s - r + u)) % s) = v u
        rw [show r + (s - r + u) = u + s by omega, Nat.add_mod_right, Nat.mod_eq_of_lt (by omega)]
      · refine owk_congr fun u hu => ?_
        show v ((r + u) % s) = v (r + u)
        by_cases hx : r + u < s
        · rw [Nat.mod_eq_of_lt hx]
        · obtain rfl : u = s - r := by omega
          rw [show r + (s - r) = s by omega, Nat.mod_self, h2]
    rwa [show (s - r) + r = s by omega] at this
  have e2 : owk f v s = omul (owk f (fun u => v (r + u)) (s - r)) (owk f v r) := by
    rw [← owk_add, show r + (s - r) = s by omega]
  rw [e1, e2, omul_comm]
/-- The way around, as a walk over nodes modulo the length. -/
theorem around_owk {R : List (List Int)} {n : Nat} (hA : ∀ i j, i < n → j < n → Sm 1000001000000 (ent R i j)) {l : List Int} (h1 : 1 ≤ l.length) (h2 : l.length ≤ 99) (hv : nodesB n l = true) :
    o (aroundW R l) = owk (fun i j => o (ent R i j)) (fun u => vx l (u % l.length)) l.length := by
  obtain ⟨m, hm⟩ : ∃ m, l.length = m + 1 := ⟨l.length - 1, by omega⟩
  have hlt : ∀ u, u < l.length → vx l u < n := fun u hu => vx_lt hv hu
  have e : aroundW R l = wkc (ent R) (fun u => vx l (u % l.length)) l.length := by
    rw [hm]
    show times (wkc (ent R) (vx l) (l.length - 1)) (ent R (vx l 0) (vx l (l.length - 1))) = times (wkc (ent R) (fun u => vx l (u % (m + 1))) m) (ent R (vx l ((m + 1) % (m + 1))) (vx l (m % (m + 1))))
    rw [show l.length - 1 = m by omega, Nat.mod_self, Nat.mod_eq_of_lt (show m < m + 1 by omega), wkc_congr (v' := fun u => vx l (u % (m + 1))) (fun u hu => by rw [Nat.mod_eq_of_lt (by omega)])]
  rw [e]
  exact o_wkc (by omega) (fun u hu => hA _ _ (hlt _ (Nat.mod_lt _ (by omega))) (hlt _ (Nat.mod_lt _ (by omega))))
theorem around_turn {R : List (List Int)} {n : Nat} (hA : ∀ i j, i < n → j < n → Sm 1000001000000 (ent R i j)) {x : Int} {t : List Int} (h2 : t.length < 99) (hv : nodesB n (x :: t) = true) (hv2 : nodesB n (t ++ [x]) = true) :
    aroundW R (t ++ [x]) = aroundW R (x :: t) := by
  by_cases h0 : t = []
  · subst h0; rfl
  have ht : 0 < t.length := List.length_pos_iff.2 h0
  refine o_inj ?_
  rw [around_owk hA (by simp) (by simp; omega) hv2, around_owk hA (by simp) (by simp; omega) hv]
  have hl : (t ++ [x]).length = (x :: t).length := by simp
  rw [hl, ← turn_same _ (fun u => vx (x :: t) (u % (x :: t).length)) (x :: t).length 1 (by rw [Nat.mod_self]; rfl) (by simp; omega)]
  refine owk_congr fun u hu => ?_
  show vx (t ++ [x]) (u % (x :: t).length) = vx (x :: t) ((1 + u) % (x :: t).length % (x :: t).length)
  rw [Nat.mod_mod]
  have hs : (x :: t).length = t.length + 1 := by simp
  rw [hs] at hu ⊢
  by_cases hu1 : u < t.length
  · rw [Nat.mod_eq_of_lt (show u < t.length + 1 by omega), Nat.mod_eq_of_lt (show 1 + u < t.length + 1 by omega)]
    unfold vx
    rw [Nat.add_comm 1 u]
    simp [List.getD_eq_getElem?_getD, List.getElem?_append_left hu1]
  · by_cases hu2 : u = t.length
    · subst hu2
      rw [Nat.mod_eq_of_lt (show t.length < t.length + 1 by omega), show 1 + t.length = t.length + 1 by omega, Nat.mod_self]
      unfold vx
      simp [List.getD_eq_getElem?_getD]
    · obtain rfl : u = t.length + 1 := by omega
      rw [Nat.mod_self, show 1 + (t.length + 1) = 1 + (t.length + 1) by rfl, Nat.add_mod_right, Nat.mod_eq_of_lt (show 1 < t.length + 1 by omega)]
      unfold vx
      simp only [List.getD_eq_getElem?_getD, List.getElem?_append_left ht, List.getElem?_cons_succ]
/-- A cycle that is turned by one place is a cycle of the same weight. -/
theorem cyc_turn (R : List (List Int)) (l : List Int) (h : (cycRes R l).2 = 0) : isCycB R l = true ∧ 1 ≤ l.length ∧ l.length ≤ 10 ∧ cycRes R (l.drop 1 ++ [l.getD 0 0]) = cycRes R l := by
  by_cases hs : sqB R = true
  · obtain ⟨hn, hA⟩ := sm_of hs
    by_cases hc : cycB R l = true
    · have hc' := hc
      unfold cycB at hc'
      rw [Bool.and_eq_true, Bool.and_eq_true, Bool.and_eq_true, decide_eq_true_eq, decide_eq_true_eq] at hc'
      obtain ⟨⟨⟨c1, c2⟩, c3⟩, c4⟩ := hc'
      have hl := diffB_len c2 c3
      refine ⟨by unfold isCycB; rw [hs, hc]; rfl, c1, by omega, ?_⟩
      cases l with
      | nil => exact absurd c1 (by decide)
      | cons x t =>
        show cycRes R (t ++ [x]) = _
        have v2 : nodesB R.length (t ++ [x]) = true := by
          unfold nodesB at c2 ⊢
          rw [List.all_append]
          simp only [List.all_cons, Bool.and_eq_true] at c2
          simp [c2.1, c2.2]
        have d2 : diffB (t ++ [x]) = true := by
          rw [diffB_iff] at c3 ⊢
          exact ((List.perm_append_comm (l₁ := t) (l₂ := [x])).nodup_iff).2 c3
        have ea := around_turn hA (x := x) (t := t) (by simp at hl; omega) c2 v2
        have hc2 : cycB R (t ++ [x]) = true := by unfold cycB; rw [v2, d2, ea]; simp [c4]
        unfold cycRes
        rw [hs, hc, hc2, ea]
    · unfold cycRes at h
      rw [if_pos hs, if_neg hc] at h
      exact absurd h (by decide)
  · unfold cycRes at h
    rw [if_neg hs] at h
    exact absurd h (by decide)
end M
end Go.Proofs.YtlofnadpgnbmdaaGreat
