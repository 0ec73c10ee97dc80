/- Plain facts on reading values: both sides read exactly the texts that are written. -/
import Derived.Lib.ParseIntB
import Derived.Lib.ItoaNum
import Derived.Test.YtackennmjmobdaaDoorMath1
namespace Go.Proofs.YtackennmjmobdaaDoor
namespace M
open Go.Lib

theorem parse_snoc (K : Nat) (l : List UInt8) (c : UInt8) : ∀ acc, parseUintM K acc (l ++ [c]) = match parseUintM K acc l with
    | .ok a => parseUintM K a [c]
    | .syntax => .syntax
    | .range => .range := by
  induction l with
  | nil => intro acc; simp [parseUintM]
  | cons d t ih =>
    intro acc
    simp only [List.cons_append, parseUintM]
    split
    · split
      · rfl
      · split
        · rfl
        · exact ih _
    · rfl

theorem dig_nat (k : Nat) (h : k < 10) : (UInt8.ofNat (48 + k)).toNat = 48 + k := by
  rw [UInt8.toNat_ofNat']
  omega

theorem parse_dec (K n : Nat) (h : n ≤ K) (h2 : n ≤ 1000000000000000000) : parseUintM K 0 (decDigits n) = .ok n := by
  induction n using Nat.strongRecOn with
  | ind n ih =>
    by_cases hs : n < 10
    · rw [decDigits_one hs]
      simp only [parseUintM, dig_nat n hs]
      rw [if_pos (by omega), if_neg (by omega), if_neg (by omega)]
      congr 1
      omega
    · rw [decDigits, dif_neg hs, parse_snoc, ih (n / 10) (by omega) (by omega) (by omega)]
      simp only [parseUintM, dig_nat (n % 10) (by omega)]
      rw [if_pos (by omega), if_neg (by omega), if_neg (by omega)]
      congr 1
      omega

theorem dec_ne (n : Nat) : decDigits n ≠ [] := by
  rw [decDigits]
  split <;> simp

theorem dec_digits (n : Nat) : ∀ c ∈ decDigits n, 48 ≤ c.toNat ∧ c.toNat ≤ 57 := by
  induction n using Nat.strongRecOn with
  | ind n ih =>
    intro c hc
    by_cases hs : n < 10
    · rw [decDigits_one hs] at hc
      simp only [List.mem_singleton] at hc
      subst hc
      rw [dig_nat n hs]
      omega
    · rw [decDigits, dif_neg hs, List.mem_append] at hc
      rcases hc with hc | hc
      · exact ih (n / 10) (by omega) c hc
      · simp only [List.mem_singleton] at hc
        subst hc
        rw [dig_nat (n % 10) (by omega)]
        omega

/-- The value that digits spell. -/
def dval (l : List UInt8) : Nat := l.foldl (fun a c => 10 * a + (c.toNat - 48)) 0
theorem dval_snoc (l : List UInt8) (c : UInt8) : dval (l ++ [c]) = 10 * dval l + (c.toNat - 48) := by simp [dval]
theorem dval_dec (n : Nat) : dval (decDigits n) = n := by
  induction n using Nat.strongRecOn with
  | ind n ih =>
    by_cases hs : n < 10
    · rw [decDigits_one hs]
      show 10 * 0 + ((UInt8.ofNat (48 + n)).toNat - 48) = n
      rw [dig_nat n hs]
      omega
    · rw [decDigits, dif_neg hs, dval_snoc, ih (n / 10) (by omega), dig_nat (n % 10) (by omega)]
      omega

def isDigs (l : List UInt8) : Bool := l.all fun c => decide (48 ≤ c.toNat) && decide (c.toNat ≤ 57)
theorem isDigs_dec (n : Nat) : isDigs (decDigits n) = true := by
  unfold isDigs
  rw [List.all_eq_true]
  intro c hc
  have := dec_digits n c hc
  simp [this]

/-- What the model's l01Digits and l01Signed return. -/
def digM (l : List UInt8) : Int × Bool :=
  if l.length < 1 ∨ 10 < l.length then (0, false) else if isDigs l then ((dval l : Int), decide (decDigits (dval l) = l)) else (0, false)
def sgnM : List UInt8 → Int × Bool
  | [] => digM []
  | c :: r => if c.toNat = 45 then (-(digM r).1, (digM r).2 && decide (0 < (digM r).1)) else digM (c :: r)
def readM (l : List UInt8) : Int × Bool :=
  if l = [46] then (-1000000000000000, true) else if (sgnM l).2 && isFin (sgnM l).1 then ((sgnM l).1, true) else (0, false)

/-- What the program's ReadValue returns. -/
def readI (l : List UInt8) : Int × Bool :=
  if l = [46] then (-1000000000000000, true) else match parseIntB 64 l with
    | .ok n => if isFin n && decide (itoa n = l) then (n, true) else (0, false)
    | _ => (0, false)

theorem digM_t {l : List UInt8} (h : (digM l).2 = true) : ∃ n : Nat, (digM l).1 = n ∧ l = decDigits n := by
  unfold digM at h ⊢
  by_cases h1 : l.length < 1 ∨ 10 < l.length
  · rw [if_pos h1] at h; simp at h
  · rw [if_neg h1] at h ⊢
    by_cases h2 : isDigs l = true
    · rw [if_pos h2] at h ⊢
      exact ⟨dval l, rfl, (of_decide_eq_true h).symm⟩
    · rw [if_neg h2] at h; simp at h
theorem digM_dec {n : Nat} (h : (decDigits n).length ≤ 10) : digM (decDigits n) = ((n : Int), true) := by
  have hne := dec_ne n
  have hpos : 0 < (decDigits n).length := List.length_pos_iff.2 hne
  unfold digM
  rw [if_neg (by omega), if_pos (isDigs_dec n), dval_dec]
  simp

theorem head_dec (n : Nat) : ∃ c r, decDigits n = c :: r ∧ c.toNat ≠ 45 := by
  have hne := dec_ne n
  cases hd : decDigits n with
  | nil => exact absurd hd hne
  | cons c r =>
    refine ⟨c, r, rfl, ?_⟩
    have := dec_digits n c (by rw [hd]; simp)
    omega

theorem sgn_t {l : List UInt8} (h : (sgnM l).2 = true) : itoa (sgnM l).1 = l := by
  cases l with
  | nil => simp [sgnM, digM] at h
  | cons c r =>
    simp only [sgnM] at h ⊢
    by_cases hc : c.toNat = 45
    · rw [if_pos hc] at h ⊢
      simp only [Bool.and_eq_true, decide_eq_true_eq] at h
      obtain ⟨n, hn, hl⟩ := digM_t h.1
      have hp := h.2
      rw [hn] at hp
      simp only [hn]
      have : c = 45 := UInt8.toNat_inj.1 hc
      subst this
      rw [itoa, if_pos (by omega), hl, show (-(n : Int)).natAbs = n from by omega]
    · rw [if_neg hc] at h ⊢
      obtain ⟨n, hn, hl⟩ := digM_t h
      rw [hn, itoa, if_neg (by omega), hl]
      simp

theorem dlen7 (k : Nat) : ∀ n, n < 10 ^ (k + 1) → (decDigits n).length ≤ k + 1 := by
  induction k with
  | zero =>
    intro n hn
    rw [decDigits_one (by simpa using hn)]
    simp
  | succ k ih =>
    intro n hn
    by_cases h : n < 10
    · rw [decDigits_one h]
      simp
    · rw [decDigits, dif_neg h, List.length_append]
      have : n / 10 < 10 ^ (k + 1) := by
        rw [Nat.pow_succ] at hn
        omega
      have := ih _ this
      simp
      omega

theorem parseU_dec {n : Nat} (h : n ≤ 1000000) : parseUintB 64 (decDigits n) = .ok n := by
  unfold parseUintB
  rw [if_neg (dec_ne n), parse_dec _ _ (by omega) (by omega)]

theorem parse_itoa {n : Int} (h : isFin n = true) : parseIntB 64 (itoa n) = .ok n := by
  obtain ⟨h1, h2⟩ := isFin_t h
  by_cases hn : n < 0
  · have hp := parseU_dec (n := n.natAbs) (by omega)
    rw [itoa, if_pos hn]
    have e45 : (45 : UInt8).toNat = 45 := rfl
    simp only [parseIntB, e45, or_true, if_true, hp]
    rw [if_neg (by simp), if_neg (by omega)]
    congr 1
    omega
  · have hp := parseU_dec (n := n.toNat) (by omega)
    obtain ⟨c, r, hcr, hc⟩ := head_dec n.toNat
    have hd := dec_digits n.toNat c (by rw [hcr]; simp)
    rw [itoa, if_neg hn, hcr]
    rw [hcr] at hp
    have hc43 : ¬ c.toNat = 43 := by omega
    simp only [parseIntB, hc43, hc, or_self, if_false]
    rw [hp]
    show (if ¬False ∧ 2 ^ (64 - 1) ≤ n.toNat then NumEnd.range else if False ∧ 2 ^ (64 - 1) < n.toNat then NumEnd.range else NumEnd.ok (n.toNat : Int)) = NumEnd.ok n
    rw [if_neg (by omega), if_neg (by simp)]
    congr 1
    omega

theorem sgn_itoa {n : Int} (h : isFin n = true) : sgnM (itoa n) = (n, true) := by
  obtain ⟨h1, h2⟩ := isFin_t h
  by_cases hn : n < 0
  · have hl := dlen7 6 n.natAbs (by omega)
    have hd := digM_dec (n := n.natAbs) (by omega)
    rw [itoa, if_pos hn]
    have e45 : (45 : UInt8).toNat = 45 := rfl
    simp only [sgnM, e45, if_true, hd]
    rw [Prod.mk.injEq]
    exact ⟨by omega, by simp; omega⟩
  · have hl := dlen7 6 n.toNat (by omega)
    have hd := digM_dec (n := n.toNat) (by omega)
    obtain ⟨c, r, hcr, hc⟩ := head_dec n.toNat
    rw [itoa, if_neg hn]
    rw [hcr] at hd ⊢
    simp only [sgnM, hc, if_false, hd]
    rw [Prod.mk.injEq]
    exact ⟨by omega, rfl⟩

theorem read_eq (l : List UInt8) : readI l = readM l := by
  unfold readI readM
  by_cases hl : l = [46]
  · rw [if_pos hl, if_pos hl]
  · rw [if_neg hl, if_neg hl]
    by_cases he : ∃ n, isFin n = true ∧ itoa n = l
    · obtain ⟨n, hf, rfl⟩ := he
      rw [parse_itoa hf, sgn_itoa hf]
      simp [hf]
    · have h2 : ((sgnM l).2 && isFin (sgnM l).1) = false := by
        cases hs : (sgnM l).2 with
        | false => rfl
        | true =>
          cases hf : isFin (sgnM l).1 with
          | false => rfl
          | true => exact absurd ⟨_, hf, sgn_t hs⟩ he
      rw [h2]
      cases hp : parseIntB 64 l
      next n =>
        have h3 : (isFin n && decide (itoa n = l)) = false := by
          cases hf : isFin n with
          | false => rfl
          | true =>
            rw [Bool.true_and, decide_eq_false_iff_not]
            exact fun e => he ⟨n, hf, e⟩
        simp [h3]
      · simp
      · simp
end M
end Go.Proofs.YtackennmjmobdaaDoor
