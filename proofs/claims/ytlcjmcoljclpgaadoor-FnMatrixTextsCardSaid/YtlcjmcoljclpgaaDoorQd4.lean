/- Texts laid together: Read, Dig, Parse, Rv, Spl, Rm0. -/
import Derived.Lib.ParseIntB
import Derived.Lib.ItoaNum
import Derived.Test.YtlcjmcoljclpgaaDoorQd1
import Derived.Test.YtlcjmcoljclpgaaDoorRows
import Derived.Test.YtlcjmcoljclpgaaDoorQd3
import Derived.WalkKit
import Derived.ProofKit
import Derived.WalkSmall
import Derived.Deep.QuietTactic
import Derived.BigQuiet
import Derived.Deep.Draws
import Derived.Lib.Hide
import Derived.Lib.IndexBytes
import Derived.Shelf.LaysC
import Derived.Shelf.Strconv.ParseIntPublic10
import Derived.Shelf.Strconv.ErrVarParseInt
import Derived.Test.YtlcjmcoljclpgaaDoorProg
import Derived.Lib.SmallJoins
import Derived.Lib.Split
import Derived.Lib.SplitLaws
set_option linter.unusedSimpArgs false
set_option linter.unusedVariables false
set_option linter.unusedSectionVars false
namespace Go.Proofs.YtlcjmcoljclpgaaDoor
namespace M
open Go.Lib

theorem parse_snoc (K : Nat) (l : List UInt8) (c : UInt8) : ∀ acc, parseUintM K acc (l ++ [c]) = match parseUintM K acc l with
    | .ok a => parseUintM K a [c]
    | .syntax => .syntax
    | .range => .range := by
  induction l with
  | nil => intro acc; simp [parseUintM]
  | cons d t ih =>
    intro acc
    simp only [List.cons_append, parseUintM]
    split
    · split
      · rfl
      · split
        · rfl
        · exact ih _
    · rfl

theorem dig_nat (k : Nat) (h : k < 10) : (UInt8.ofNat (48 + k)).toNat = 48 + k := by
  rw [UInt8.toNat_ofNat']
  omega

theorem parse_dec (K n : Nat) (h : n ≤ K) (h2 : n ≤ 1000000000000000000) : parseUintM K 0 (decDigits n) = .ok n := by
  induction n using Nat.strongRecOn with
  | ind n ih =>
    by_cases hs : n < 10
    · rw [decDigits_one hs]
      simp only [parseUintM, dig_nat n hs]
      rw [if_pos (by omega), if_neg (by omega), if_neg (by omega)]
      congr 1
      omega
    · rw [decDigits, dif_neg hs, parse_snoc, ih (n / 10) (by omega) (by omega) (by omega)]
      simp only [parseUintM, dig_nat (n % 10) (by omega)]
      rw [if_pos (by omega), if_neg (by omega), if_neg (by omega)]
      congr 1
      omega

theorem dec_ne (n : Nat) : decDigits n ≠ [] := by
  rw [decDigits]
  split <;> simp

theorem dec_digits (n : Nat) : ∀ c ∈ decDigits n, 48 ≤ c.toNat ∧ c.toNat ≤ 57 := by
  induction n using Nat.strongRecOn with
  | ind n ih =>
    intro c hc
    by_cases hs : n < 10
    · rw [decDigits_one hs] at hc
      simp only [List.mem_singleton] at hc
      subst hc
      rw [dig_nat n hs]
      omega
    · rw [decDigits, dif_neg hs, List.mem_append] at hc
      rcases hc with hc | hc
      · exact ih (n / 10) (by omega) c hc
      · simp only [List.mem_singleton] at hc
        subst hc
        rw [dig_nat (n % 10) (by omega)]
        omega

/-- The value that digits spell. -/
def dval (l : List UInt8) : Nat := l.foldl (fun a c => 10 * a + (c.toNat - 48)) 0
theorem dval_snoc (l : List UInt8) (c : UInt8) : dval (l ++ [c]) = 10 * dval l + (c.toNat - 48) := by simp [dval]
theorem dval_dec (n : Nat) : dval (decDigits n) = n := by
  induction n using Nat.strongRecOn with
  | ind n ih =>
    by_cases hs : n < 10
    · rw [decDigits_one hs]
      show 10 * 0 + ((UInt8.ofNat (48 + n)).toNat - 48) = n
      rw [dig_nat n hs]
      omega
    · rw [decDigits, dif_neg hs, dval_snoc, ih (n / 10) (by omega), dig_nat (n % 10) (by omega)]
      omega

def isDigs (l : List UInt8) : Bool := l.all fun c => decide (48 ≤ c.toNat) && decide (c.toNat ≤ 57)
theorem isDigs_dec (n : Nat) : isDigs (decDigits n) = true := by
  unfold isDigs
  rw [List.all_eq_true]
  intro c hc
  have := dec_digits n c hc
  simp [this]

/-- What the model's l01Digits and l01Signed return. -/
def digM (l : List UInt8) : Int × Bool :=
  if l.length < 1 ∨ 10 < l.length then (0, false) else if isDigs l then ((dval l : Int), decide (decDigits (dval l) = l)) else (0, false)
def sgnM : List UInt8 → Int × Bool
  | [] => digM []
  | c :: r => if c.toNat = 45 then (-(digM r).1, (digM r).2 && decide (0 < (digM r).1)) else digM (c :: r)
def readM (l : List UInt8) : Int × Bool :=
  if l = [46] then (-1000000000000000, true) else if (sgnM l).2 && isFin (sgnM l).1 then ((sgnM l).1, true) else (0, false)

/-- What the program's ReadValue returns. -/
def readI (l : List UInt8) : Int × Bool :=
  if l = [46] then (-1000000000000000, true) else match parseIntB 64 l with
    | .ok n => if isFin n && decide (itoa n = l) then (n, true) else (0, false)
    | _ => (0, false)

theorem digM_t {l : List UInt8} (h : (digM l).2 = true) : ∃ n : Nat, (digM l).1 = n ∧ l = decDigits n := by
  unfold digM at h ⊢
  by_cases h1 : l.length < 1 ∨ 10 < l.length
  · rw [if_pos h1] at h; simp at h
  · rw [if_neg h1] at h ⊢
    by_cases h2 : isDigs l = true
    · rw [if_pos h2] at h ⊢
      exact ⟨dval l, rfl, (of_decide_eq_true h).symm⟩
    · rw [if_neg h2] at h; simp at h
theorem digM_dec {n : Nat} (h : (decDigits n).length ≤ 10) : digM (decDigits n) = ((n : Int), true) := by
  have hne := dec_ne n
  have hpos : 0 < (decDigits n).length := List.length_pos_iff.2 hne
  unfold digM
  rw [if_neg (by omega), if_pos (isDigs_dec n), dval_dec]
  simp

theorem head_dec (n : Nat) : ∃ c r, decDigits n = c :: r ∧ c.toNat ≠ 45 := by
  have hne := dec_ne n
  cases hd : decDigits n with
  | nil => exact absurd hd hne
  | cons c r =>
    refine ⟨c, r, rfl, ?_⟩
    have := dec_digits n c (by rw [hd]; simp)
    omega

theorem sgn_t {l : List UInt8} (h : (sgnM l).2 = true) : itoa (sgnM l).1 = l := by
  cases l with
  | nil => simp [sgnM, digM] at h
  | cons c r =>
    simp only [sgnM] at h ⊢
    by_cases hc : c.toNat = 45
    · rw [if_pos hc] at h ⊢
      simp only [Bool.and_eq_true, decide_eq_true_eq] at h
      obtain ⟨n, hn, hl⟩ := digM_t h.1
      have hp := h.2
      rw [hn] at hp
      simp only [hn]
      have : c = 45 := UInt8.toNat_inj.1 hc
      subst this
      rw [itoa, if_pos (by omega), hl, show (-(n : Int)).natAbs = n from by omega]
    · rw [if_neg hc] at h ⊢
      obtain ⟨n, hn, hl⟩ := digM_t h
      rw [hn, itoa, if_neg (by omega), hl]
      simp

theorem dlen7 (k : Nat) : ∀ n, n < 10 ^ (k + 1) → (decDigits n).length ≤ k + 1 := by
  induction k with
  | zero =>
    intro n hn
    rw [decDigits_one (by simpa using hn)]
    simp
  | succ k ih =>
    intro n hn
    by_cases h : n < 10
    · rw [decDigits_one h]
      simp
    · rw [decDigits, dif_neg h, List.length_append]
      have : n / 10 < 10 ^ (k + 1) := by
        rw [Nat.pow_succ] at hn
        omega
      have := ih _ this
      simp
      omega

theorem parseU_dec {n : Nat} (h : n ≤ 1000000) : parseUintB 64 (decDigits n) = .ok n := by
  unfold parseUintB
  rw [if_neg (dec_ne n), parse_dec _ _ (by omega) (by omega)]

theorem parse_itoa {n : Int} (h : isFin n = true) : parseIntB 64 (itoa n) = .ok n := by
  obtain ⟨h1, h2⟩ := isFin_t h
  by_cases hn : n < 0
  · have hp := parseU_dec (n := n.natAbs) (by omega)
    rw [itoa, if_pos hn]
    have e45 : (45 : UInt8).toNat = 45 := rfl
    simp only [parseIntB, e45, or_true, if_true, hp]
    rw [if_neg (by simp), if_neg (by omega)]
    congr 1
    omega
  · have hp := parseU_dec (n := n.toNat) (by omega)
    obtain ⟨c, r, hcr, hc⟩ := head_dec n.toNat
    have hd := dec_digits n.toNat c (by rw [hcr]; simp)
    rw [itoa, if_neg hn, hcr]
    rw [hcr] at hp
    have hc43 : ¬ c.toNat = 43 := by omega
    simp only [parseIntB, hc43, hc, or_self, if_false]
    rw [hp]
    show (if ¬False ∧ 2 ^ (64 - 1) ≤ n.toNat then NumEnd.range else if False ∧ 2 ^ (64 - 1) < n.toNat then NumEnd.range else NumEnd.ok (n.toNat : Int)) = NumEnd.ok n
    rw [if_neg (by omega), if_neg (by simp)]
    congr 1
    omega

theorem sgn_itoa {n : Int} (h : isFin n = true) : sgnM (itoa n) = (n, true) := by
  obtain ⟨h1, h2⟩ := isFin_t h
  by_cases hn : n < 0
  · have hl := dlen7 6 n.natAbs (by omega)
    have hd := digM_dec (n := n.natAbs) (by omega)
    rw [itoa, if_pos hn]
    have e45 : (45 : UInt8).toNat = 45 := rfl
    simp only [sgnM, e45, if_true, hd]
    rw [Prod.mk.injEq]
    exact ⟨by omega, by simp; omega⟩
  · have hl := dlen7 6 n.toNat (by omega)
    have hd := digM_dec (n := n.toNat) (by omega)
    obtain ⟨c, r, hcr, hc⟩ := head_dec n.toNat
    rw [itoa, if_neg hn]
    rw [hcr] at hd ⊢
    simp only [sgnM, hc, if_false, hd]
    rw [Prod.mk.injEq]
    exact ⟨by omega, rfl⟩

theorem read_eq (l : List UInt8) : readI l = readM l := by
  unfold readI readM
  by_cases hl : l = [46]
  · rw [if_pos hl, if_pos hl]
  · rw [if_neg hl, if_neg hl]
    by_cases he : ∃ n, isFin n = true ∧ itoa n = l
    · obtain ⟨n, hf, rfl⟩ := he
      rw [parse_itoa hf, sgn_itoa hf]
      simp [hf]
    · have h2 : ((sgnM l).2 && isFin (sgnM l).1) = false := by
        cases hs : (sgnM l).2 with
        | false => rfl
        | true =>
          cases hf : isFin (sgnM l).1 with
          | false => rfl
          | true => exact absurd ⟨_, hf, sgn_t hs⟩ he
      rw [h2]
      cases hp : parseIntB 64 l
      next n =>
        have h3 : (isFin n && decide (itoa n = l)) = false := by
          cases hf : isFin n with
          | false => rfl
          | true =>
            rw [Bool.true_and, decide_eq_false_iff_not]
            exact fun e => he ⟨n, hf, e⟩
        simp [h3]
      · simp
      · simp
end M
end Go.Proofs.YtlcjmcoljclpgaaDoor

namespace Go.Proofs.YtlcjmcoljclpgaaDoor.V
open Go.RowKit

theorem dval_lt (l : List UInt8) (a : Nat) (h : M.isDigs l = true) : l.foldl (fun a c => 10 * a + (c.toNat - 48)) a < (a + 1) * 10 ^ l.length := by
  induction l generalizing a with
  | nil => simp
  | cons c t ih =>
    simp only [M.isDigs, List.all_cons, Bool.and_eq_true, decide_eq_true_eq] at h
    have h2 := ih (10 * a + (c.toNat - 48)) (by simp only [M.isDigs]; exact h.2)
    simp only [List.foldl_cons, List.length_cons, Nat.pow_succ]
    refine Nat.lt_of_lt_of_le h2 ?_
    have : 10 * a + (c.toNat - 48) + 1 ≤ (a + 1) * 10 := by omega
    calc (10 * a + (c.toNat - 48) + 1) * 10 ^ t.length ≤ ((a + 1) * 10) * 10 ^ t.length := Nat.mul_le_mul_right _ this
      _ = (a + 1) * (10 ^ t.length * 10) := by rw [Nat.mul_assoc, Nat.mul_comm 10]
theorem dval_bd (l : List UInt8) (h : M.isDigs l = true) (hl : l.length ≤ 10) : M.dval l ≤ 9999999999 := by
  have h1 := dval_lt l 0 h
  have h2 : 10 ^ l.length ≤ 10000000000 := Nat.pow_le_pow_right (n := 10) (by omega) hl
  unfold M.dval
  omega
theorem isDigs_snoc (l : List UInt8) (c : UInt8) : M.isDigs (l ++ [c]) = (M.isDigs l && (decide (48 ≤ c.toNat) && decide (c.toNat ≤ 57))) := by simp [M.isDigs]
theorem bytes_snoc (s : ByteArray) (k : Nat) (h : k < s.size) : s.data.toList.take (k + 1) = s.data.toList.take k ++ [s[k]] := by
  rw [List.take_succ_eq_append_getElem (by simpa using h)]; rfl

theorem digRet {r : Int × Bool} {a : Int} {b : Bool} (h : r = (a, b)) : Ending.returned (.tuple #[.int .i64 a, .bool b]) = .returned (.tuple #[.int .i64 r.1, .bool r.2]) := by rw [h]
theorem str_eq {t s : ByteArray} {l : List UInt8} (h : t.data.toList = l) : (t.toList == s.toList) = decide (l = s.data.toList) := by
  rw [ByteArray.toList_eq, ByteArray.toList_eq, h, Bool.eq_iff_iff]
  simp
theorem digM_bd (l : List UInt8) : 0 ≤ (M.digM l).1 ∧ (M.digM l).1 ≤ 9999999999 := by
  unfold M.digM
  split
  · simp
  · split
    · have := dval_bd l (by assumption) (by omega)
      show 0 ≤ (M.dval l : Int) ∧ (M.dval l : Int) ≤ 9999999999
      omega
    · simp
def DigPost (r : Int × Bool) (w : World) (e : Ending) (w' : World) : Prop := e = .returned (.tuple #[.int .i64 r.1, .bool r.2]) ∧ Below w.heap.size w w'

set_option maxRecDepth 100000 in
set_option maxHeartbeats 1000000 in
set_option maxRecDepth 100000 in
theorem sDigits (s : ByteArray) (w : World) (hs : s.size ≤ maxLen) : Calls Tryd.prog 38 #[.string s] w (DigPost (M.digM s.data.toList) w) := by
  unfold maxLen at hs
  have hlen : s.data.toList.length = s.size := Array.length_toList
  have HLEN := Lib.hid hlen
  clear hlen
  by_cases h1 : s.size < 1
  · have HR : Hid (M.digM s.data.toList = (0, false)) := by show _ = _; rw [M.digM, if_pos (by have := HLEN.out; omega)]
    go_enter Tryd.func38, Tryd.ntmps38
    go_wp2
    go_ret2
    exact ⟨digRet HR.out, Below.refl _ _⟩
  · by_cases h2 : 10 < s.size
    · have HR : Hid (M.digM s.data.toList = (0, false)) := by show _ = _; rw [M.digM, if_pos (by have := HLEN.out; omega)]
      go_enter Tryd.func38, Tryd.ntmps38
      go_wp2
      go_ret2
      exact ⟨digRet HR.out, Below.refl _ _⟩
    · go_enter Tryd.func38, Tryd.ntmps38
      go_wp2
      go_loop [4, 5] (fun n i => ∃ k : Nat, k ≤ s.size ∧ i = .int .i64 k ∧ n = .int .i64 (M.dval (s.data.toList.take k)) ∧ Hid (M.isDigs (s.data.toList.take k) = true)) (fun _ i => s.size - (intOf i).toNat)
      case atStart => exact ⟨0, Nat.zero_le _, rfl, rfl, rfl⟩
      case round =>
        obtain ⟨k, hk, rfl, rfl, HA⟩ := hrel
        have hbd := dval_bd _ HA.out (by simp; omega)
        obtain ⟨v, hv⟩ : ∃ v, v = M.dval (s.data.toList.take k) := ⟨_, rfl⟩
        rw [← hv] at hbd ⊢
        have HV := Lib.hid hv
        clear hv
        by_cases hlt : k < s.size
        · have HS : Hid (s.data.toList.take (k + 1) = s.data.toList.take k ++ [s[k]]) := bytes_snoc s k hlt
          by_cases hd : 48 ≤ s[k].toNat ∧ s[k].toNat ≤ 57
          · obtain ⟨d1, d2⟩ := hd
            have HA2 : Hid (M.isDigs (s.data.toList.take (k + 1)) = true) := by show _ = _; rw [HS.out, isDigs_snoc, HA.out]; simp [d1, d2]
            have HV2 : Hid ((M.dval (s.data.toList.take (k + 1)) : Int) = 10 * (v : Int) + ((s[k].toNat : Int) - 48)) := by show _ = _; rw [HS.out, M.dval_snoc, ← HV.out]; omega
            have d1' : (48 : Int) ≤ (s[k].toNat : Int) := by omega
            have d2' : (s[k].toNat : Int) ≤ 57 := by omega
            go_wp2
            go_round
            case rel => exact ⟨k + 1, by omega, by go_num, by rw [HV2.out], HA2⟩
            case measure => simp [intOf]; omega
          · have HF : Hid (M.isDigs s.data.toList = false) := by
              show _ = _
              rw [M.isDigs, List.all_eq_false]
              refine ⟨s[k], Array.mem_toList_iff.2 (Array.getElem_mem (xs := s.data) hlt), ?_⟩
              simp only [Bool.and_eq_true, decide_eq_true_eq]
              exact hd
            have HR : Hid (M.digM s.data.toList = (0, false)) := by show _ = _; rw [M.digM, if_neg (by have := HLEN.out; omega), HF.out]; rfl
            by_cases hlo : (s[k].toNat : Int) < 48
            · go_wp2
              go_ret2
              exact ⟨digRet HR.out, Below.refl _ _⟩
            · have hhi : (57 : Int) < (s[k].toNat : Int) := by omega
              go_wp2
              go_ret2
              exact ⟨digRet HR.out, Below.refl _ _⟩
        · have hkn : k = s.size := by omega
          have HT : Hid (s.data.toList.take k = s.data.toList) := List.take_of_length_le (by have := HLEN.out; omega)
          have HD : Hid (M.isDigs s.data.toList = true) := by show _ = _; rw [← HT.out]; exact HA.out
          have HR : Hid (M.digM s.data.toList = ((v : Int), decide (Go.Lib.decDigits v = s.data.toList))) := by
            show _ = _
            rw [M.digM, if_neg (by have := HLEN.out; omega), if_pos HD.out, HV.out, HT.out]
          subst hkn
          go_wp2_with fail
          refine (sDec v _ (by omega)).mono ?_
          rintro e w1 ⟨t, rfl, ht, htz, hb⟩
          have HTT := Lib.hid ht
          clear ht
          go_wp2
          go_ret2
          exact ⟨digRet (by rw [HR.out]; exact congrArg (Prod.mk (v : Int)) (str_eq HTT.out).symm), hb⟩

set_option maxRecDepth 100000 in
set_option maxHeartbeats 1000000 in
set_option maxRecDepth 100000 in
theorem sSigned (s : ByteArray) (w : World) (hs : s.size ≤ maxLen) : Calls Tryd.prog 88 #[.string s] w (DigPost (M.sgnM s.data.toList) w) := by
  have hs' := hs
  unfold maxLen at hs
  have HM := Lib.hid hs'
  clear hs'
  by_cases h1 : s.size = 0
  · have HR : Hid (M.sgnM s.data.toList = M.digM s.data.toList) := by
      show _ = _
      have : s.data.toList = [] := List.length_eq_zero_iff.1 (by rw [Array.length_toList]; exact h1)
      rw [this]
      rfl
    have h1' : s.size < 1 := by omega
    clear h1
    go_enter Tryd.func88, Tryd.ntmps88
    go_wp2_with fail
    refine (sDigits s _ HM.out).mono ?_
    rintro e w1 ⟨rfl, hb⟩
    go_wp2
    go_ret2
    exact ⟨digRet (by rw [HR.out]), hb⟩
  · have hk : 0 < s.size := by omega
    have hcr : s.data.toList = s[0] :: s.data.toList.drop 1 := by
      have h := bytes_snoc s 0 hk
      have h2 := List.take_append_drop 1 s.data.toList
      rw [← h2]
      simp only [Nat.zero_add, List.take_zero, List.nil_append] at h
      rw [h]
      simp
    have HCR := Lib.hid hcr
    clear hcr h1
    by_cases h45 : s[0].toNat = 45
    · have HR : Hid (M.sgnM s.data.toList = (-(M.digM (s.data.toList.drop 1)).1, (M.digM (s.data.toList.drop 1)).2 && decide (0 < (M.digM (s.data.toList.drop 1)).1))) := by
        show _ = _
        rw [HCR.out]
        simp only [M.sgnM, h45, if_true]
        simp
      have h45' : (s[0].toNat == 45) = true := by simpa using h45
      have h45z : ((s[0].toNat : Int) == 45) = true := by simp; omega
      go_enter Tryd.func88, Tryd.ntmps88
      go_wp2_with fail
      have hd := sDigits (s.extract 1 s.size) w (by have := HM.out; simp [ByteArray.size_extract]; omega)
      rw [Go.Lib.extract_to_end] at hd
      have hb1 := digM_bd (s.data.toList.drop 1)
      obtain ⟨D, hD⟩ : ∃ D, D = M.digM (s.data.toList.drop 1) := ⟨_, rfl⟩
      rw [← hD] at hd hb1
      have HR2 : Hid (M.sgnM s.data.toList = (-D.1, D.2 && decide (0 < D.1))) := by show _ = _; rw [hD]; exact HR.out
      obtain ⟨n, ok⟩ := D
      obtain ⟨n1, n2⟩ := hb1
      clear hD HR
      refine hd.mono ?_
      rintro e w1 ⟨rfl, hb⟩
      clear hd
      cases ok
      · go_wp2
        go_ret2
        exact ⟨digRet (by rw [HR2.out]; rfl), hb⟩
      · by_cases hn : 0 < n
        · go_wp2
          go_ret2
          exact ⟨digRet (by rw [HR2.out]; simp [hn]), hb⟩
        · go_wp2
          go_ret2
          exact ⟨digRet (by rw [HR2.out]; simp [hn]), hb⟩
    · have HR : Hid (M.sgnM s.data.toList = M.digM s.data.toList) := by
        show _ = _
        have : M.sgnM (s[0] :: s.data.toList.drop 1) = M.digM (s[0] :: s.data.toList.drop 1) := by simp only [M.sgnM, h45, if_false]
        rw [← HCR.out] at this
        exact this
      have h45z : ((s[0].toNat : Int) == 45) = false := by simp; omega
      go_enter Tryd.func88, Tryd.ntmps88
      go_wp2_with fail
      refine (sDigits s _ HM.out).mono ?_
      rintro e w1 ⟨rfl, hb⟩
      go_wp2
      go_ret2
      exact ⟨digRet (by rw [HR.out]), hb⟩
end Go.Proofs.YtlcjmcoljclpgaaDoor.V

namespace Go.Proofs
open Go.Shelf
def Tryd.laysC174_ren : Go.Shelf.Ren := ⟨fun | 174 => 72 | 247 => 92 | 245 => 93 | 287 => 109 | 279 => 110 | 280 => 111 | 281 => 112 | 282 => 113 | 321 => 124 | 322 => 125 | 316 => 126 | 171 => 128 | 205 => 127 | 243 => 136 | 246 => 104 | 283 => 115 | 284 => 116 | 285 => 117 | 286 => 118 | 129 => 130 | 317 => 129 | 318 => 131 | 319 => 132 | 320 => 133 | 337 => 137 | 338 => 138 | n => n, fun | 9 => 9 | 3 => 3 | 2 => 2 | 75 => 86 | 85 => 96 | 4 => 4 | 167 => 123 | 5 => 5 | 53 => 124 | 175 => 125 | 46 => 127 | 168 => 128 | 37 => 37 | 0 => 0 | 210 => 141 | 21 => 21 | 127 => 105 | 145 => 157 | 143 => 155 | 171 => 132 | 173 => 135 | 212 => 144 | 51 => 145 | 20 => 20 | 213 => 146 | 232 => 159 | 233 => 160 | 80 => 55 | n => n, fun | 15 => 1 | 16 => 2 | 17 => 3 | 18 => 6 | 19 => 7 | n => n⟩
theorem Tryd.laysC174 : Go.Proofs.LaysC.n174 Tryd.prog Tryd.laysC174_ren := {
  mixed := by kernel_rfl
  f129 := Tryd.func130.trans (congrArg some (by kernel_rfl))
  f171 := Tryd.func128.trans (congrArg some (by kernel_rfl))
  f174 := Tryd.func72.trans (congrArg some (by kernel_rfl))
  f205 := Tryd.func127.trans (congrArg some (by kernel_rfl))
  f243 := Tryd.func136.trans (congrArg some (by kernel_rfl))
  f245 := Tryd.func93.trans (congrArg some (by kernel_rfl))
  f246 := Tryd.func104.trans (congrArg some (by kernel_rfl))
  f247 := Tryd.func92.trans (congrArg some (by kernel_rfl))
  f279 := Tryd.func110.trans (congrArg some (by kernel_rfl))
  f280 := Tryd.func111.trans (congrArg some (by kernel_rfl))
  f281 := Tryd.func112.trans (congrArg some (by kernel_rfl))
  f282 := Tryd.func113.trans (congrArg some (by kernel_rfl))
  f283 := Tryd.func115.trans (congrArg some (by kernel_rfl))
  f284 := Tryd.func116.trans (congrArg some (by kernel_rfl))
  f285 := Tryd.func117.trans (congrArg some (by kernel_rfl))
  f286 := Tryd.func118.trans (congrArg some (by kernel_rfl))
  f287 := Tryd.func109.trans (congrArg some (by kernel_rfl))
  f316 := Tryd.func126.trans (congrArg some (by kernel_rfl))
  f317 := Tryd.func129.trans (congrArg some (by kernel_rfl))
  f318 := Tryd.func131.trans (congrArg some (by kernel_rfl))
  f319 := Tryd.func132.trans (congrArg some (by kernel_rfl))
  f320 := Tryd.func133.trans (congrArg some (by kernel_rfl))
  f321 := Tryd.func124.trans (congrArg some (by kernel_rfl))
  f322 := Tryd.func125.trans (congrArg some (by kernel_rfl))
  f337 := Tryd.func137.trans (congrArg some (by kernel_rfl))
  f338 := Tryd.func138.trans (congrArg some (by kernel_rfl))
  t0 := Tryd.underlying0
  a0 := Tryd.isAgg0
  z0 := Tryd.sizeOf0
  v0 := Tryd.zeroValue0
  t2 := Tryd.underlying2
  a2 := Tryd.isAgg2
  z2 := Tryd.sizeOf2
  v2 := Tryd.zeroValue2
  t3 := Tryd.underlying3
  a3 := Tryd.isAgg3
  z3 := Tryd.sizeOf3
  v3 := Tryd.zeroValue3
  t4 := Tryd.underlying4
  a4 := Tryd.isAgg4
  z4 := Tryd.sizeOf4
  v4 := Tryd.zeroValue4
  t5 := Tryd.underlying5
  a5 := Tryd.isAgg5
  z5 := Tryd.sizeOf5
  v5 := Tryd.zeroValue5
  t9 := Tryd.underlying9
  a9 := Tryd.isAgg9
  z9 := Tryd.sizeOf9
  v9 := Tryd.zeroValue9
  t20 := Tryd.underlying20
  a20 := Tryd.isAgg20
  z20 := Tryd.sizeOf20
  v20 := Tryd.zeroValue20
  t21 := Tryd.underlying21
  a21 := Tryd.isAgg21
  z21 := Tryd.sizeOf21
  v21 := Tryd.zeroValue21
  t37 := Tryd.underlying37
  a37 := Tryd.isAgg37
  z37 := Tryd.sizeOf37
  v37 := Tryd.zeroValue37
  t46 := Tryd.underlying127
  a46 := Tryd.isAgg127
  z46 := Tryd.sizeOf127
  v46 := Tryd.zeroValue127
  t51 := Tryd.underlying145
  a51 := Tryd.isAgg145
  z51 := Tryd.sizeOf145
  v51 := Tryd.zeroValue145
  t53 := Tryd.underlying124
  a53 := Tryd.isAgg124
  z53 := Tryd.sizeOf124
  v53 := Tryd.zeroValue124
  t75 := Tryd.underlying86
  a75 := Tryd.isAgg86
  z75 := Tryd.sizeOf86
  v75 := Tryd.zeroValue86
  t85 := Tryd.underlying96
  a85 := Tryd.isAgg96
  z85 := Tryd.sizeOf96
  v85 := Tryd.zeroValue96
  t127 := Tryd.underlying105
  a127 := Tryd.isAgg105
  z127 := Tryd.sizeOf105
  v127 := Tryd.zeroValue105
  t143 := Tryd.underlying155
  a143 := Tryd.isAgg155
  z143 := Tryd.sizeOf155
  v143 := Tryd.zeroValue155
  t145 := Tryd.underlying157
  a145 := Tryd.isAgg157
  z145 := Tryd.sizeOf157
  v145 := Tryd.zeroValue157
  t167 := Tryd.underlying123
  a167 := Tryd.isAgg123
  z167 := Tryd.sizeOf123
  v167 := Tryd.zeroValue123
  t168 := Tryd.underlying128
  a168 := Tryd.isAgg128
  z168 := Tryd.sizeOf128
  v168 := Tryd.zeroValue128
  t171 := Tryd.underlying132
  a171 := Tryd.isAgg132
  z171 := Tryd.sizeOf132
  v171 := Tryd.zeroValue132
  t173 := Tryd.underlying135
  a173 := Tryd.isAgg135
  z173 := Tryd.sizeOf135
  v173 := Tryd.zeroValue135
  t175 := Tryd.underlying125
  a175 := Tryd.isAgg125
  z175 := Tryd.sizeOf125
  v175 := Tryd.zeroValue125
  t210 := Tryd.underlying141
  a210 := Tryd.isAgg141
  z210 := Tryd.sizeOf141
  v210 := Tryd.zeroValue141
  t212 := Tryd.underlying144
  a212 := Tryd.isAgg144
  z212 := Tryd.sizeOf144
  v212 := Tryd.zeroValue144
  t213 := Tryd.underlying146
  a213 := Tryd.isAgg146
  z213 := Tryd.sizeOf146
  t232 := Tryd.underlying159
  a232 := Tryd.isAgg159
  z232 := Tryd.sizeOf159
  v232 := Tryd.zeroValue159
  t233 := Tryd.underlying160
  a233 := Tryd.isAgg160
  z233 := Tryd.sizeOf160
  v233 := Tryd.zeroValue160
  g15 := by kernel_rfl
  g16 := by kernel_rfl
  g17 := by kernel_rfl
  g18 := by kernel_rfl
  g19 := by kernel_rfl
  t80 := Tryd.underlying55
  a80 := Tryd.isAgg55
  z80 := Tryd.sizeOf55
  v80 := Tryd.zeroValue55
  i0 := by kernel_rfl
  i2 := by kernel_rfl
  i3 := by kernel_rfl
  i4 := by kernel_rfl
  i5 := by kernel_rfl
  i9 := by kernel_rfl
  i20 := by kernel_rfl
  i21 := by kernel_rfl
  i37 := by kernel_rfl
  i46 := by kernel_rfl
  i51 := by kernel_rfl
  i53 := by kernel_rfl
  i75 := by kernel_rfl
  i80 := by kernel_rfl
  i85 := by kernel_rfl
  i127 := by kernel_rfl
  i143 := by kernel_rfl
  i145 := by kernel_rfl
  i167 := by kernel_rfl
  i168 := by kernel_rfl
  i171 := by kernel_rfl
  i173 := by kernel_rfl
  i175 := by kernel_rfl
  i210 := by kernel_rfl
  i212 := by kernel_rfl
  i232 := by kernel_rfl
  i233 := by kernel_rfl
  m15 := by kernel_rfl
  m16 := by kernel_rfl
  m17 := by kernel_rfl
  m18 := by kernel_rfl
  m19 := by kernel_rfl
  c0 := by kernel_rfl
  c2 := by kernel_rfl
  c3 := by kernel_rfl
  c4 := by kernel_rfl
  c5 := by kernel_rfl
  c9 := by kernel_rfl
  c20 := by kernel_rfl
  c21 := by kernel_rfl
  c37 := by kernel_rfl
  c46 := by kernel_rfl
  c51 := by kernel_rfl
  c53 := by kernel_rfl
  c75 := by kernel_rfl
  c80 := by kernel_rfl
  c85 := by kernel_rfl
  c127 := by kernel_rfl
  c143 := by kernel_rfl
  c145 := by kernel_rfl
  c167 := by kernel_rfl
  c168 := by kernel_rfl
  c171 := by kernel_rfl
  c173 := by kernel_rfl
  c175 := by kernel_rfl
  c210 := by kernel_rfl
  c212 := by kernel_rfl
  c213 := by kernel_rfl
  c232 := by kernel_rfl
  c233 := by kernel_rfl }
open Go.RowKit in
theorem Tryd.strconv_ParseInt_10_at64_ok (s : ByteArray) (hmax : s.size ≤ 9223372036854775806) (v : Int) (h : Lib.parseIntB 64 s.data.toList = .ok v) (w : World) :
    Calls Tryd.prog 72 #[.string s, .int .i64 10, .int .i64 64] w fun e w' => e = .returned (.tuple #[.int .i64 v, .nilIface]) ∧ (w' = w ∨ ∃ t, w' = Lib.bytesWorld w 5 t) := Any.strconv_ParseInt_10_at64_ok Tryd.laysC174 s hmax v h w
open Go.RowKit in
theorem Tryd.strconv_ParseInt_10_at64_syntax_var (s : ByteArray) (hlim : s.size ≤ 281474976710656) (h : Lib.parseIntB 64 s.data.toList = .syntax) (tp : TypeId) (p : Value) (w : World) (hvar : w.var? Tryd.prog "strconv.ErrSyntax" = some #[.iface tp p]) :
    Calls Tryd.prog 72 #[.string s, .int .i64 10, .int .i64 64] w fun e w' => ∃ N, e = .returned (.tuple #[.int .i64 (0), .iface 128 (.pointer (some ⟨N, 0, none⟩))]) ∧ w.heap.size ≤ N ∧ w'.heap[N]? = some (.cells #[.string ⟨#[80, 97, 114, 115, 101, 73, 110, 116]⟩, .string s, .iface tp p] 141 (0, 0)) ∧ Below w.heap.size w w' := Any.strconv_ParseInt_10_at64_syntax_var Tryd.laysC174 s hlim h tp p w hvar
open Go.RowKit in
theorem Tryd.strconv_ParseInt_10_at64_range_var (s : ByteArray) (hlim : s.size ≤ 281474976710656) (h : Lib.parseIntB 64 s.data.toList = .range) (tp : TypeId) (p : Value) (w : World) (hvar : w.var? Tryd.prog "strconv.ErrRange" = some #[.iface tp p]) :
    Calls Tryd.prog 72 #[.string s, .int .i64 10, .int .i64 64] w fun e w' => ∃ N, e = .returned (.tuple #[.int .i64 (Lib.intSat 64 s.data.toList), .iface 128 (.pointer (some ⟨N, 0, none⟩))]) ∧ w.heap.size ≤ N ∧ w'.heap[N]? = some (.cells #[.string ⟨#[80, 97, 114, 115, 101, 73, 110, 116]⟩, .string s, .iface tp p] 141 (0, 0)) ∧ Below w.heap.size w w' := Any.strconv_ParseInt_10_at64_range_var Tryd.laysC174 s hlim h tp p w hvar
end Go.Proofs

namespace Go.Proofs.YtlcjmcoljclpgaaDoor.V
open Go.RowKit

set_option maxRecDepth 100000 in
set_option maxHeartbeats 1000000 in
set_option maxRecDepth 100000 in
theorem sReadValue (s : ByteArray) (w : World) (hs : s.size ≤ maxLen) : Calls Tryd.prog 78 #[.string s] w (DigPost (M.readM s.data.toList) w) := by
  have HM := Lib.hid hs
  clear hs
  by_cases hd : s.data.toList = [46]
  · have hq : (s.toList == [46]) = true := by rw [ByteArray.toList_eq, hd]; rfl
    have HR : Hid (M.readM s.data.toList = (-1000000000000000, true)) := by show _ = _; rw [M.readM, if_pos hd]
    clear hd
    go_enter Tryd.func78, Tryd.ntmps78
    go_wp2_with fail
    go_ret2
    exact ⟨digRet (by rw [HR.out]), Below.refl _ _⟩
  · have hq : (s.toList == [46]) = false := by rw [ByteArray.toList_eq]; simpa using hd
    have HR : Hid (M.readM s.data.toList = if (M.sgnM s.data.toList).2 && M.isFin (M.sgnM s.data.toList).1 then ((M.sgnM s.data.toList).1, true) else (0, false)) := by show _ = _; rw [M.readM, if_neg hd]
    clear hd
    go_enter Tryd.func78, Tryd.ntmps78
    go_wp2_with fail
    have hd := sSigned s w HM.out
    obtain ⟨D, hD⟩ : ∃ D, D = M.sgnM s.data.toList := ⟨_, rfl⟩
    rw [← hD] at hd
    have HR2 : Hid (M.readM s.data.toList = if D.2 && M.isFin D.1 then (D.1, true) else (0, false)) := by show _ = _; rw [hD]; exact HR.out
    obtain ⟨n, ok⟩ := D
    clear hD HR
    refine hd.mono ?_
    rintro e w1 ⟨rfl, hb⟩
    clear hd
    cases ok
    · go_wp2_with fail
      go_ret2
      exact ⟨digRet (by rw [HR2.out]; rfl), hb⟩
    · by_cases hf : M.isFin n = true
      · go_wp2_with (go_at_call 99; refine (sFinite _ _).mono ?_; rintro e w' ⟨rfl, rfl⟩)
        go_ret2
        exact ⟨digRet (by rw [HR2.out]; simp [hf]), hb⟩
      · simp only [Bool.not_eq_true] at hf
        go_wp2_with (go_at_call 99; refine (sFinite _ _).mono ?_; rintro e w' ⟨rfl, rfl⟩)
        go_ret2
        exact ⟨digRet (by rw [HR2.out]; simp [hf]), hb⟩

theorem below_bytes (w : World) (e : TypeId) (t : ByteArray) : Below w.heap.size w (Lib.bytesWorld w e t) := Go.Joins.below_bytesWorld _ _ _ _ (Nat.le_refl _)

/-- The two sentinels that ParseInt hands on. -/
def Sent (w : World) : Prop := (∃ tp p, w.var? Tryd.prog "strconv.ErrSyntax" = some #[.iface tp p]) ∧ (∃ tp p, w.var? Tryd.prog "strconv.ErrRange" = some #[.iface tp p])

set_option maxRecDepth 100000 in
set_option maxHeartbeats 1000000 in
set_option maxRecDepth 100000 in
theorem readValue (s : ByteArray) (w : World) (hs : s.size ≤ 1048576) (htab : ∀ w', Below w.heap.size w w' → Lib.TabIs Tryd.prog w' "internal/strconv.uint64pow10" .u64 Lib.pow10Tab) (hsent : ∀ w', Below w.heap.size w w' → Sent w') :
    Calls Tryd.prog 41 #[.string s] w (DigPost (M.readI s.data.toList) w) := by
  have HT := Lib.hid htab
  have HN := Lib.hid hsent
  clear htab hsent
  by_cases hd : s.data.toList = [46]
  · have hq : (s.toList == txt (-1000000000000000)) = true := by rw [ByteArray.toList_eq, hd]; rfl
    have HR : Hid (M.readI s.data.toList = (-1000000000000000, true)) := by show _ = _; rw [M.readI, if_pos hd]
    clear hd
    go_enter Tryd.func41, Tryd.ntmps41
    go_wp2_with fail
    refine (text _ _ M.bot_val (HT.out _ (Below.refl _ _))).mono ?_
    rintro e w1 ⟨t, rfl, rfl, hb⟩
    have HB := Lib.hid hb
    clear hb
    go_wp2_with fail
    go_ret2
    exact ⟨digRet (by rw [HR.out]), HB.out⟩
  · have hq : (s.toList == txt (-1000000000000000)) = false := by
      rw [ByteArray.toList_eq]
      show (s.data.toList == [46]) = false
      simpa using hd
    have HD := Lib.hid hd
    clear hd
    match hp : Lib.parseIntB 64 s.data.toList with
    | .syntax =>
      have HR : Hid (M.readI s.data.toList = (0, false)) := by show _ = _; rw [M.readI, if_neg HD.out, hp]
      have HP := Lib.hid hp
      clear hp
      go_enter Tryd.func41, Tryd.ntmps41
      go_wp2_with fail
      refine (text _ _ M.bot_val (HT.out _ (Below.refl _ _))).mono ?_
      rintro e w1 ⟨t, rfl, rfl, hb⟩
      have HB := Lib.hid hb
      clear hb
      obtain ⟨⟨tp, p, hv⟩, -⟩ := HN.out _ HB.out
      have HV := Lib.hid hv
      clear hv
      go_wp2_with fail
      refine (Go.Proofs.Tryd.strconv_ParseInt_10_at64_syntax_var s (by omega) HP.out tp p _ (by exact HV.out)).mono ?_
      rintro e w2 ⟨N, rfl, hN, hc, hb2⟩
      have HB2 := Lib.hid (HB.out.trans (hb2.mono HB.out.size))
      clear hc hb2
      go_wp2_with fail
      go_ret2
      exact ⟨digRet (by rw [HR.out]), HB2.out⟩
    | .range =>
      have HR : Hid (M.readI s.data.toList = (0, false)) := by show _ = _; rw [M.readI, if_neg HD.out, hp]
      have HP := Lib.hid hp
      clear hp
      go_enter Tryd.func41, Tryd.ntmps41
      go_wp2_with fail
      refine (text _ _ M.bot_val (HT.out _ (Below.refl _ _))).mono ?_
      rintro e w1 ⟨t, rfl, rfl, hb⟩
      have HB := Lib.hid hb
      clear hb
      obtain ⟨-, ⟨tp, p, hv⟩⟩ := HN.out _ HB.out
      have HV := Lib.hid hv
      clear hv
      go_wp2_with fail
      refine (Go.Proofs.Tryd.strconv_ParseInt_10_at64_range_var s (by omega) HP.out tp p _ (by exact HV.out)).mono ?_
      rintro e w2 ⟨N, rfl, hN, hc, hb2⟩
      have HB2 := Lib.hid (HB.out.trans (hb2.mono HB.out.size))
      clear hc hb2
      go_wp2_with fail
      go_ret2
      exact ⟨digRet (by rw [HR.out]), HB2.out⟩
    | .ok v =>
      have HR : Hid (M.readI s.data.toList = if M.isFin v && decide (Go.Lib.itoa v = s.data.toList) then (v, true) else (0, false)) := by show _ = _; rw [M.readI, if_neg HD.out, hp]
      have HP := Lib.hid hp
      clear hp
      go_enter Tryd.func41, Tryd.ntmps41
      go_wp2_with fail
      refine (text _ _ M.bot_val (HT.out _ (Below.refl _ _))).mono ?_
      rintro e w1 ⟨t, rfl, rfl, hb⟩
      have HB := Lib.hid hb
      clear hb
      go_wp2_with fail
      refine (Go.Proofs.Tryd.strconv_ParseInt_10_at64_ok s (by omega) v HP.out _).mono ?_
      rintro e w2 ⟨rfl, hw⟩
      have HB2 : Hid (Below w.heap.size w w2) := by
        rcases hw with rfl | ⟨t, rfl⟩
        · exact HB.out
        · exact HB.out.trans ((below_bytes w1 5 t).mono HB.out.size)
      clear hw
      by_cases hf : M.isFin v = true
      · have hvb : ¬ v = -1000000000000000 := by have := M.isFin_t hf; omega
        have htx : txt v = Go.Lib.itoa v := by rw [txt, if_neg hvb]
        have HX := Lib.hid htx
        have hvv := M.isVal_of_fin hf
        clear hvb htx
        by_cases he : Go.Lib.itoa v = s.data.toList
        · have hq2 : (txt v == s.toList) = true := by rw [HX.out, ByteArray.toList_eq, he]; simp
          have HE := Lib.hid he
          clear he
          go_wp2_with (go_at_call 73; refine (isFinite _ _).mono ?_; rintro e w' ⟨rfl, rfl⟩)
          refine (text _ _ hvv (HT.out _ HB2.out)).mono ?_
          rintro e w3 ⟨t, rfl, rfl, hb3⟩
          go_wp2_with fail
          go_ret2
          exact ⟨digRet (by rw [HR.out, hf, HE.out]; simp), HB2.out.trans (hb3.mono HB2.out.size)⟩
        · have hq2 : (txt v == s.toList) = false := by rw [HX.out, ByteArray.toList_eq]; simpa using he
          have HE := Lib.hid he
          clear he
          go_wp2_with (go_at_call 73; refine (isFinite _ _).mono ?_; rintro e w' ⟨rfl, rfl⟩)
          refine (text _ _ hvv (HT.out _ HB2.out)).mono ?_
          rintro e w3 ⟨t, rfl, rfl, hb3⟩
          go_wp2_with fail
          go_ret2
          exact ⟨digRet (by rw [HR.out, decide_eq_false HE.out]; simp), HB2.out.trans (hb3.mono HB2.out.size)⟩
      · simp only [Bool.not_eq_true] at hf
        go_wp2_with (go_at_call 73; refine (isFinite _ _).mono ?_; rintro e w' ⟨rfl, rfl⟩)
        go_ret2
        exact ⟨digRet (by rw [HR.out, hf]; simp), HB2.out⟩
end Go.Proofs.YtlcjmcoljclpgaaDoor.V

namespace Go.Proofs.YtlcjmcoljclpgaaDoor.M
open Go.Lib

def splitL (c : UInt8) : List UInt8 → List (List UInt8)
  | [] => [[]]
  | b :: l => if b = c then [] :: splitL c l else (b :: (splitL c l).headD []) :: (splitL c l).tail
theorem splitL_ne (c : UInt8) (l : List UInt8) : splitL c l ≠ [] := by
  cases l with
  | nil => simp [splitL]
  | cons b l => unfold splitL; split <;> simp
theorem splitL_miss (c : UInt8) (l : List UInt8) (h : ∀ x ∈ l, x ≠ c) : splitL c l = [l] := by
  induction l with
  | nil => rfl
  | cons b l ih =>
    rw [splitL, if_neg (h b (by simp)), ih (fun x hx => h x (by simp [hx]))]
    rfl
theorem splitL_hit (c : UInt8) (p r : List UInt8) (h : ∀ x ∈ p, x ≠ c) : splitL c (p ++ c :: r) = p :: splitL c r := by
  induction p with
  | nil => rw [List.nil_append, splitL, if_pos rfl]
  | cons b l ih =>
    rw [List.cons_append, splitL, if_neg (h b (by simp)), ih (fun x hx => h x (by simp [hx]))]
    rfl
theorem splitL_len (c : UInt8) (l : List UInt8) : (splitL c l).length ≤ l.length + 1 := by
  induction l with
  | nil => simp [splitL]
  | cons b l ih =>
    unfold splitL
    have := List.length_pos_iff.2 (splitL_ne c l)
    split
    · simp only [List.length_cons]; omega
    · simp only [List.length_cons, List.length_tail]; omega
theorem occ_one (l : List UInt8) (c : UInt8) (j : Nat) : occAt l [c] j = decide (l[j]? = some c) := by
  unfold occAt
  rw [← List.head?_drop]
  cases l.drop j with
  | nil => simp
  | cons b r =>
    by_cases e : b = c
    · subst e; simp [List.isPrefixOf]
    · have e' : ¬ (c = b) := fun h => e h.symm
      simp [List.isPrefixOf, e, e']
theorem index_one (l : List UInt8) (c : UInt8) : (index l [c] = -1 ∧ ∀ x ∈ l, x ≠ c) ∨ ∃ i : Nat, index l [c] = i ∧ i < l.length ∧ l = l.take i ++ c :: l.drop (i + 1) ∧ ∀ x ∈ l.take i, x ≠ c := by
  rcases index_spec l [c] with ⟨h, hj⟩ | ⟨i, h, hi, ho, hn⟩
  · refine .inl ⟨h, fun x hx e => ?_⟩
    obtain ⟨j, hj1, hj2⟩ := List.getElem_of_mem hx
    have := hj j (by omega)
    rw [occ_one, List.getElem?_eq_getElem hj1, hj2, e] at this
    simp at this
  · rw [occ_one] at ho
    have ho := of_decide_eq_true ho
    have hlt : i < l.length := by
      rcases Nat.lt_or_ge i l.length with h | h
      · exact h
      · rw [List.getElem?_eq_none h] at ho; cases ho
    refine .inr ⟨i, h, hlt, ?_, fun x hx e => ?_⟩
    · rw [List.getElem?_eq_getElem hlt] at ho
      have ho := Option.some.inj ho
      conv => lhs; rw [← List.take_append_drop i l, List.drop_eq_getElem_cons hlt, ho]
    · obtain ⟨j, hj1, hj2⟩ := List.getElem_of_mem hx
      rw [List.length_take] at hj1
      have := hn j (by omega)
      rw [occ_one, List.getElem?_eq_getElem (by omega)] at this
      rw [List.getElem_take] at hj2
      rw [hj2, e] at this
      simp at this
theorem splitK_eq (c : UInt8) : ∀ (k : Nat) (l : List UInt8), (splitL c l).length ≤ k + 1 → splitK [c] 0 k l = splitL c l := by
  intro k
  induction k with
  | zero =>
    intro l h
    rcases index_one l c with ⟨-, hj⟩ | ⟨i, -, -, hl, hp⟩
    · rw [splitL_miss c l hj]; rfl
    · rw [hl, splitL_hit c _ _ hp] at h
      have := List.length_pos_iff.2 (splitL_ne c (l.drop (i + 1)))
      simp only [List.length_cons] at h
      omega
  | succ k ih =>
    intro l h
    rcases index_one l c with ⟨hi, hj⟩ | ⟨i, hi, hlt, hl, hp⟩
    · rw [splitL_miss c l hj, splitK, if_pos (by rw [hi]; rfl)]
    · have e2 : splitL c l = l.take i :: splitL c (l.drop (i + 1)) := by
        conv => lhs; rw [hl, splitL_hit c _ _ hp]
      have e : (index l [c]).toNat = i := by omega
      rw [e2, splitK, if_neg (by rw [hi]; simp), e, Nat.add_zero, List.length_singleton, ih]
      rw [e2] at h
      simp only [List.length_cons] at h
      omega
theorem splitK_long (c : UInt8) : ∀ (k : Nat) (l : List UInt8), k + 1 < (splitL c l).length → (splitK [c] 0 k l).length = k + 1 := by
  intro k
  induction k with
  | zero => intro l _; rfl
  | succ k ih =>
    intro l h
    rcases index_one l c with ⟨hi, hj⟩ | ⟨i, hi, hlt, hl, hp⟩
    · rw [splitL_miss c l hj] at h; simp at h
    · have e2 : splitL c l = l.take i :: splitL c (l.drop (i + 1)) := by
        conv => lhs; rw [hl, splitL_hit c _ _ hp]
      have e : (index l [c]).toNat = i := by omega
      rw [e2] at h
      simp only [List.length_cons] at h
      rw [splitK, if_neg (by rw [hi]; simp), e, Nat.add_zero, List.length_singleton, List.length_cons, ih _ (by omega)]

/-- What strings.SplitN hands out at 11. -/
def cutN (c : UInt8) (l : List UInt8) : List (List UInt8) := splitK [c] 0 (min 11 (l.length + 1) - 1) l
theorem cutN_or (c : UInt8) (l : List UInt8) : cutN c l = splitL c l ∨ ((cutN c l).length = 11 ∧ 11 < (splitL c l).length) := by
  have h := splitL_len c l
  unfold cutN
  by_cases h1 : (splitL c l).length ≤ 11
  · exact .inl (splitK_eq c _ _ (by omega))
  · refine .inr ⟨?_, by omega⟩
    rw [splitK_long c _ _ (by omega)]
    omega
theorem cutN_len (c : UInt8) (l : List UInt8) : (cutN c l).length ≤ 11 := by
  rcases cutN_or c l with h | h
  · by_cases h1 : (splitL c l).length ≤ 11
    · rw [h]; exact h1
    · have := splitK_long c (min 11 (l.length + 1) - 1) l (by have := splitL_len c l; omega)
      unfold cutN; omega
  · omega

/-- A row that is read from its pieces. -/
def rowOf (P : List (List UInt8)) : List Int × Bool := if P.all (fun t => (readM t).2) then (P.map (fun t => (readM t).1), true) else ([], false)
/-- A matrix that is read from its rows. -/
def matOf (f : List UInt8 → List Int × Bool) (P : List (List UInt8)) : List (List Int) × Bool :=
  if P.all (fun t => (f t).2) && isMat (P.map fun t => (f t).1) then (P.map (fun t => (f t).1), true) else ([], false)
def rowS (l : List UInt8) : List Int × Bool := rowOf (splitL 44 l)
def rowI (l : List UInt8) : List Int × Bool := rowOf (cutN 44 l)
def readS (l : List UInt8) : List (List Int) × Bool := matOf rowS (splitL 59 l)
def readMI (l : List UInt8) : List (List Int) × Bool := matOf rowI (cutN 59 l)

def badRow (r : List Int × Bool) : Prop := r.2 = true → 10 < r.1.length
theorem rowOf_bad {P : List (List UInt8)} (h : 10 < P.length) : badRow (rowOf P) := by
  intro h2
  unfold rowOf at h2 ⊢
  split at h2
  · rw [if_pos (by assumption)]; simpa using h
  · cases h2
theorem rows_or (t : List UInt8) : rowI t = rowS t ∨ (badRow (rowI t) ∧ badRow (rowS t)) := by
  rcases cutN_or 44 t with h | ⟨h1, h2⟩
  · exact .inl (by rw [rowI, rowS, h])
  · exact .inr ⟨rowOf_bad (by omega), rowOf_bad (by omega)⟩
theorem matOf_bad {f : List UInt8 → List Int × Bool} {P : List (List UInt8)} {t : List UInt8} (ht : t ∈ P) (h : badRow (f t)) : matOf f P = ([], false) := by
  unfold matOf
  rw [if_neg]
  intro hc
  rw [Bool.and_eq_true] at hc
  obtain ⟨h1, h2⟩ := hc
  have h3 := h (List.all_eq_true.1 h1 t ht)
  unfold isMat at h2
  rw [Bool.and_eq_true] at h2
  have h4 := List.all_eq_true.1 h2.2 (f t).1 (List.mem_map.2 ⟨t, ht, rfl⟩)
  simp [isVec] at h4
  omega
theorem matOf_long {f : List UInt8 → List Int × Bool} {P : List (List UInt8)} (h : 10 < P.length) : matOf f P = ([], false) := by
  unfold matOf
  rw [if_neg]
  intro hc
  rw [Bool.and_eq_true] at hc
  have h2 := hc.2
  simp [isMat] at h2
  omega
theorem readM_eq (l : List UInt8) : readMI l = readS l := by
  unfold readMI readS
  rcases cutN_or 59 l with h | ⟨h1, h2⟩
  · rw [h]
    by_cases hb : ∃ t ∈ splitL 59 l, badRow (rowI t) ∧ badRow (rowS t)
    · obtain ⟨t, ht, b1, b2⟩ := hb
      rw [matOf_bad ht b1, matOf_bad ht b2]
    · have he : ∀ t ∈ splitL 59 l, rowI t = rowS t := fun t ht => by
        rcases rows_or t with e | e
        · exact e
        · exact absurd ⟨t, ht, e⟩ hb
      have e1 : (splitL 59 l).map (fun t => (rowI t).1) = (splitL 59 l).map (fun t => (rowS t).1) := List.map_congr_left fun t ht => by rw [he t ht]
      have e2 : (splitL 59 l).all (fun t => (rowI t).2) = (splitL 59 l).all (fun t => (rowS t).2) := by
        rw [Bool.eq_iff_iff, List.all_eq_true, List.all_eq_true]
        exact ⟨fun h t ht => by rw [← he t ht]; exact h t ht, fun h t ht => by rw [he t ht]; exact h t ht⟩
      unfold matOf
      rw [e1, e2]
  · rw [matOf_long (by omega), matOf_long (by omega)]
theorem readS_ok (l : List UInt8) : okM (readS l).1 := by
  unfold readS matOf
  split
  · next h =>
    rw [Bool.and_eq_true] at h
    exact .inr h.2
  · exact .inl rfl
end Go.Proofs.YtlcjmcoljclpgaaDoor.M

namespace Go.Proofs.YtlcjmcoljclpgaaDoor.M
open Go.Lib

/-- Where the loop of a splitting stands: at k, with P laid and a piece begun at f. -/
def SplitInv (c : UInt8) (l : List UInt8) (f k : Nat) (P : List (List UInt8)) : Prop :=
  P.length ≤ f ∧ ((k ≤ l.length ∧ f ≤ k ∧ splitL c l = P ++ splitL c (l.drop f) ∧ ∀ x ∈ (l.drop f).take (k - f), x ≠ c) ∨ (k = l.length + 1 ∧ f = k ∧ splitL c l = P))
theorem inv0 (c : UInt8) (l : List UInt8) : SplitInv c l 0 0 [] := ⟨Nat.le_refl _, .inl ⟨Nat.zero_le _, Nat.le_refl _, by simp, by simp⟩⟩
theorem inv_le {c : UInt8} {l : List UInt8} {f k : Nat} {P : List (List UInt8)} (h : SplitInv c l f k P) : k ≤ l.length + 1 ∧ f ≤ k ∧ P.length ≤ f := by
  obtain ⟨h0, ⟨h1, h2, -, -⟩ | ⟨h1, h2, -⟩⟩ := h <;> omega
theorem inv_end {c : UInt8} {l : List UInt8} {f : Nat} {P : List (List UInt8)} (h : SplitInv c l f l.length P) : SplitInv c l (l.length + 1) (l.length + 1) (P ++ [(l.drop f).take (l.length - f)]) := by
  obtain ⟨h0, ⟨-, h2, h3, h4⟩ | ⟨h1, -⟩⟩ := h
  · have e : (l.drop f).take (l.length - f) = l.drop f := List.take_of_length_le (by simp)
    rw [e] at h4 ⊢
    exact ⟨by simp; omega, .inr ⟨rfl, rfl, by rw [h3, splitL_miss c _ h4]⟩⟩
  · omega
theorem inv_hit {c : UInt8} {l : List UInt8} {f k : Nat} {P : List (List UInt8)} (h : SplitInv c l f k P) (hk : k < l.length) (hc : l[k] = c) : SplitInv c l (k + 1) (k + 1) (P ++ [(l.drop f).take (k - f)]) := by
  obtain ⟨h0, ⟨-, h2, h3, h4⟩ | ⟨h1, -⟩⟩ := h
  · have e : l.drop f = (l.drop f).take (k - f) ++ c :: l.drop (k + 1) := by
      conv => lhs; rw [← List.take_append_drop (k - f) (l.drop f)]
      rw [List.drop_drop, show f + (k - f) = k from by omega, List.drop_eq_getElem_cons hk, hc]
    refine ⟨by simp; omega, .inl ⟨hk, Nat.le_refl _, ?_, by simp⟩⟩
    rw [h3]
    conv => lhs; rw [e, splitL_hit c _ _ h4]
    simp
  · omega
theorem inv_miss {c : UInt8} {l : List UInt8} {f k : Nat} {P : List (List UInt8)} (h : SplitInv c l f k P) (hk : k < l.length) (hc : l[k] ≠ c) : SplitInv c l f (k + 1) P := by
  obtain ⟨h0, ⟨-, h2, h3, h4⟩ | ⟨h1, -⟩⟩ := h
  · refine ⟨h0, .inl ⟨hk, by omega, h3, fun x hx => ?_⟩⟩
    rw [show k + 1 - f = (k - f) + 1 from by omega, List.take_add_one] at hx
    rcases List.mem_append.1 hx with hx | hx
    · exact h4 x hx
    · rw [List.getElem?_drop, show f + (k - f) = k from by omega, List.getElem?_eq_getElem hk] at hx
      simp at hx
      rw [hx]; exact hc
  · omega
theorem inv_fin {c : UInt8} {l : List UInt8} {f : Nat} {P : List (List UInt8)} (h : SplitInv c l f (l.length + 1) P) : P = splitL c l := by
  obtain ⟨h0, ⟨h1, -⟩ | ⟨-, -, h3⟩⟩ := h
  · omega
  · exact h3.symm
end Go.Proofs.YtlcjmcoljclpgaaDoor.M
