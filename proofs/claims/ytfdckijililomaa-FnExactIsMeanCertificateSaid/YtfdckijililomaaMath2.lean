/- Plain facts on ratios: made ratios are in lowest terms, and comparing is antisymmetric. -/
import Derived.Test.YtfdckijililomaaMath1
namespace Go.Proofs.Ytfdckijililomaa
namespace M
theorem cmpZ_neg (x y : Int) : cmpZ y x = -cmpZ x y := by
  unfold cmpZ
  split <;> split <;> (try split) <;> omega
theorem cmpOf_back (a b c d : Int) : cmpOf c d a b = (-(cmpOf a b c d).1, (cmpOf a b c d).2) := by
  unfold cmpOf
  rw [Bool.and_comm (isRat c d)]
  by_cases h : (isRat a b && isRat c d) = true
  · rw [if_pos h, if_pos h, cmpZ_neg]
  · rw [if_neg h, if_neg h]; rfl
theorem cmpZ_bd (x y : Int) : -1 ≤ cmpZ x y ∧ cmpZ x y ≤ 1 := by
  unfold cmpZ
  split <;> (try split) <;> omega
theorem cmpOf_bd (a b c d : Int) : -1 ≤ (cmpOf a b c d).1 ∧ (cmpOf a b c d).1 ≤ 1 := by
  unfold cmpOf
  split
  · exact cmpZ_bd _ _
  · simp
theorem tdiv_gcd (x : Int) (g : Nat) (hg : 0 < g) (h : (g : Int) ∣ x) : (g : Int) * x.tdiv g = x := by
  obtain ⟨k, rfl⟩ := h
  rw [Int.mul_tdiv_cancel_left _ (by omega)]
theorem rat_back {n d : Int} (hd : d ≠ 0) : ratN n d * d = n * ratD n d := by
  have hp : 0 < Int.gcd n d := Int.gcd_pos_of_ne_zero_right n hd
  have h1 : ((Int.gcd n d : Nat) : Int) ∣ n := Int.gcd_dvd_left n d
  have h2 : ((Int.gcd n d : Nat) : Int) ∣ d := Int.gcd_dvd_right n d
  unfold ratN ratD
  split
  · have e1 := tdiv_gcd (-n) _ hp (Int.dvd_neg.2 h1)
    have e2 := tdiv_gcd (-d) _ hp (Int.dvd_neg.2 h2)
    generalize (-n).tdiv (Int.gcd n d) = x at *
    generalize (-d).tdiv (Int.gcd n d) = y at *
    generalize ((Int.gcd n d : Nat) : Int) = g at *
    have a1 : n = -(g * x) := by omega
    have a2 : d = -(g * y) := by omega
    rw [a1, a2]
    simp [Int.mul_neg, Int.neg_mul, Int.mul_comm, Int.mul_left_comm]
  · have e1 := tdiv_gcd n _ hp h1
    have e2 := tdiv_gcd d _ hp h2
    generalize n.tdiv (Int.gcd n d) = x at *
    generalize d.tdiv (Int.gcd n d) = y at *
    generalize ((Int.gcd n d : Nat) : Int) = g at *
    rw [← e1, ← e2]
    simp [Int.mul_comm, Int.mul_left_comm]
theorem rat_gcd {n d : Int} (hd : d ≠ 0) : Int.gcd (ratN n d) (ratD n d) = 1 := by
  have hp : 0 < Int.gcd n d := Int.gcd_pos_of_ne_zero_right n hd
  have e : ∀ x : Int, ((if d < 0 then -x else x).tdiv (Int.gcd n d)).natAbs = x.natAbs / Int.gcd n d := by
    intro x
    rw [Int.natAbs_tdiv]
    have : (if d < 0 then -x else x).natAbs = x.natAbs := by split <;> omega
    rw [this]
    rfl
  unfold ratN ratD
  simp only [Int.gcd] at *
  rw [e, e, Nat.gcd_div (Nat.gcd_dvd_left _ _) (Nat.gcd_dvd_right _ _)]
  exact Nat.div_self hp
theorem rat_pos {n d : Int} (hd : d ≠ 0) : 1 ≤ ratD n d := by
  have hp : 0 < Int.gcd n d := Int.gcd_pos_of_ne_zero_right n hd
  have h2 : ((Int.gcd n d : Nat) : Int) ∣ d := Int.gcd_dvd_right n d
  have hh : ((Int.gcd n d : Nat) : Int) ∣ (if d < 0 then -d else d) := by
    split
    · exact Int.dvd_neg.2 h2
    · exact h2
  have e2 := tdiv_gcd _ _ hp hh
  unfold ratD
  generalize (if d < 0 then -d else d).tdiv (Int.gcd n d) = y at *
  have hpos : 0 < (if d < 0 then -d else d) := by split <;> omega
  rw [← e2] at hpos
  have : 0 < y := by
    rcases Int.lt_trichotomy y 0 with h | h | h
    · have := Int.mul_neg_of_pos_of_neg (a := ((Int.gcd n d : Nat) : Int)) (b := y) (by omega) h
      omega
    · subst h; simp at hpos
    · exact h
  omega
theorem rat_bd {n d : Int} (h1 : isFin n = true) (h2 : isFin d = true) : -1000000 ≤ ratN n d ∧ ratN n d ≤ 1000000 ∧ -1000000 ≤ ratD n d ∧ ratD n d ≤ 1000000 := by
  obtain ⟨a, b⟩ := isFin_t h1
  obtain ⟨c, e⟩ := isFin_t h2
  have x := tdiv_bd (if d < 0 then -n else n) (Int.gcd n d) (by split <;> omega) (by split <;> omega)
  have y := tdiv_bd (if d < 0 then -d else d) (Int.gcd n d) (by split <;> omega) (by split <;> omega)
  exact ⟨x.1, x.2, y.1, y.2⟩
theorem rat_ok {n d : Int} (h1 : isFin n = true) (h2 : isFin d = true) (h3 : d ≠ 0) : isRat (ratN n d) (ratD n d) = true := by
  obtain ⟨a, b, _, c⟩ := rat_bd h1 h2
  have hp := rat_pos (n := n) h3
  have hg := rat_gcd (n := n) h3
  simp [isRat, isFin, hg]
  omega
theorem mkRat_ok {n d : Int} (h : (mkRat n d).2.2 = 0) : isFin n = true ∧ isFin d = true ∧ d ≠ 0 ∧ mkRat n d = (ratN n d, ratD n d, 0) := by
  by_cases h1 : (isFin n && isFin d) = true
  · have h1' := h1
    rw [Bool.and_eq_true] at h1'
    by_cases h2 : d = 0
    · subst h2
      rw [mkRat_2 h1'.1] at h
      simp at h
    · exact ⟨h1'.1, h1'.2, h2, mkRat_3 h1'.1 h1'.2 h2⟩
  · simp only [Bool.not_eq_true] at h1
    rw [mkRat_1 h1] at h; simp at h
theorem mk_back {n d : Int} (h : (mkRat n d).2.2 = 0) : isRat (mkRat n d).1 (mkRat n d).2.1 = true ∧ (mkRat n d).1 * d = n * (mkRat n d).2.1 ∧ -1000000000000 ≤ n * (mkRat n d).2.1 ∧ n * (mkRat n d).2.1 ≤ 1000000000000 := by
  obtain ⟨h1, h2, h3, e⟩ := mkRat_ok h
  obtain ⟨a, b, c, f⟩ := rat_bd h1 h2
  obtain ⟨n1, n2⟩ := isFin_t h1
  have hb := mul_bd n (ratD n d) n1 n2 c f
  rw [e]
  exact ⟨rat_ok h1 h2 h3, rat_back h3, hb.1, hb.2⟩
end M
end Go.Proofs.Ytfdckijililomaa
