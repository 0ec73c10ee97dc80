/- Texts laid together: Read, Vals0, Dec, Dig. -/
import Derived.Lib.ParseIntB
import Derived.Lib.ItoaNum
import Derived.Test.YtgkceafhagfkhaaDoorQd1
import Derived.Test.YtgkceafhagfkhaaDoorRows
import Derived.WalkKit
import Derived.ProofKit
import Derived.WalkSmall
import Derived.Deep.QuietTactic
import Derived.BigQuiet
import Derived.BigRegion
import Derived.Deep.RegionWith
import Derived.Deep.Draws
import Derived.Lib.Hide
import Derived.Lib.IndexBytes
set_option linter.unusedSimpArgs false
set_option linter.unusedVariables false
set_option linter.unusedSectionVars false
namespace Go.Proofs.YtgkceafhagfkhaaDoor
namespace M
open Go.Lib

theorem parse_snoc (K : Nat) (l : List UInt8) (c : UInt8) : ∀ acc, parseUintM K acc (l ++ [c]) = match parseUintM K acc l with
    | .ok a => parseUintM K a [c]
    | .syntax => .syntax
    | .range => .range := by
  induction l with
  | nil => intro acc; simp [parseUintM]
  | cons d t ih =>
    intro acc
    simp only [List.cons_append, parseUintM]
    split
    · split
      · rfl
      · split
        · rfl
        · exact ih _
    · rfl

theorem dig_nat (k : Nat) (h : k < 10) : (UInt8.ofNat (48 + k)).toNat = 48 + k := by
  rw [UInt8.toNat_ofNat']
  omega

theorem parse_dec (K n : Nat) (h : n ≤ K) (h2 : n ≤ 1000000000000000000) : parseUintM K 0 (decDigits n) = .ok n := by
  induction n using Nat.strongRecOn with
  | ind n ih =>
    by_cases hs : n < 10
    · rw [decDigits_one hs]
      simp only [parseUintM, dig_nat n hs]
      rw [if_pos (by omega), if_neg (by omega), if_neg (by omega)]
      congr 1
      omega
    · rw [decDigits, dif_neg hs, parse_snoc, ih (n / 10) (by omega) (by omega) (by omega)]
      simp only [parseUintM, dig_nat (n % 10) (by omega)]
      rw [if_pos (by omega), if_neg (by omega), if_neg (by omega)]
      congr 1
      omega

theorem dec_ne (n : Nat) : decDigits n ≠ [] := by
  rw [decDigits]
  split <;> simp

theorem dec_digits (n : Nat) : ∀ c ∈ decDigits n, 48 ≤ c.toNat ∧ c.toNat ≤ 57 := by
  induction n using Nat.strongRecOn with
  | ind n ih =>
    intro c hc
    by_cases hs : n < 10
    · rw [decDigits_one hs] at hc
      simp only [List.mem_singleton] at hc
      subst hc
      rw [dig_nat n hs]
      omega
    · rw [decDigits, dif_neg hs, List.mem_append] at hc
      rcases hc with hc | hc
      · exact ih (n / 10) (by omega) c hc
      · simp only [List.mem_singleton] at hc
        subst hc
        rw [dig_nat (n % 10) (by omega)]
        omega

/-- The value that digits spell. -/
def dval (l : List UInt8) : Nat := l.foldl (fun a c => 10 * a + (c.toNat - 48)) 0
theorem dval_snoc (l : List UInt8) (c : UInt8) : dval (l ++ [c]) = 10 * dval l + (c.toNat - 48) := by simp [dval]
theorem dval_dec (n : Nat) : dval (decDigits n) = n := by
  induction n using Nat.strongRecOn with
  | ind n ih =>
    by_cases hs : n < 10
    · rw [decDigits_one hs]
      show 10 * 0 + ((UInt8.ofNat (48 + n)).toNat - 48) = n
      rw [dig_nat n hs]
      omega
    · rw [decDigits, dif_neg hs, dval_snoc, ih (n / 10) (by omega), dig_nat (n % 10) (by omega)]
      omega

def isDigs (l : List UInt8) : Bool := l.all fun c => decide (48 ≤ c.toNat) && decide (c.toNat ≤ 57)
theorem isDigs_dec (n : Nat) : isDigs (decDigits n) = true := by
  unfold isDigs
  rw [List.all_eq_true]
  intro c hc
  have := dec_digits n c hc
  simp [this]

/-- What the model's l01Digits and l01Signed return. -/
def digM (l : List UInt8) : Int × Bool :=
  if l.length < 1 ∨ 10 < l.length then (0, false) else if isDigs l then ((dval l : Int), decide (decDigits (dval l) = l)) else (0, false)
def sgnM : List UInt8 → Int × Bool
  | [] => digM []
  | c :: r => if c.toNat = 45 then (-(digM r).1, (digM r).2 && decide (0 < (digM r).1)) else digM (c :: r)
def readM (l : List UInt8) : Int × Bool :=
  if l = [46] then (-1000000000000000, true) else if (sgnM l).2 && isFin (sgnM l).1 then ((sgnM l).1, true) else (0, false)

/-- What the program's ReadValue returns. -/
def readI (l : List UInt8) : Int × Bool :=
  if l = [46] then (-1000000000000000, true) else match parseIntB 64 l with
    | .ok n => if isFin n && decide (itoa n = l) then (n, true) else (0, false)
    | _ => (0, false)

theorem digM_t {l : List UInt8} (h : (digM l).2 = true) : ∃ n : Nat, (digM l).1 = n ∧ l = decDigits n := by
  unfold digM at h ⊢
  by_cases h1 : l.length < 1 ∨ 10 < l.length
  · rw [if_pos h1] at h; simp at h
  · rw [if_neg h1] at h ⊢
    by_cases h2 : isDigs l = true
    · rw [if_pos h2] at h ⊢
      exact ⟨dval l, rfl, (of_decide_eq_true h).symm⟩
    · rw [if_neg h2] at h; simp at h
theorem digM_dec {n : Nat} (h : (decDigits n).length ≤ 10) : digM (decDigits n) = ((n : Int), true) := by
  have hne := dec_ne n
  have hpos : 0 < (decDigits n).length := List.length_pos_iff.2 hne
  unfold digM
  rw [if_neg (by omega), if_pos (isDigs_dec n), dval_dec]
  simp

theorem head_dec (n : Nat) : ∃ c r, decDigits n = c :: r ∧ c.toNat ≠ 45 := by
  have hne := dec_ne n
  cases hd : decDigits n with
  | nil => exact absurd hd hne
  | cons c r =>
    refine ⟨c, r, rfl, ?_⟩
    have := dec_digits n c (by rw [hd]; simp)
    omega

theorem sgn_t {l : List UInt8} (h : (sgnM l).2 = true) : itoa (sgnM l).1 = l := by
  cases l with
  | nil => simp [sgnM, digM] at h
  | cons c r =>
    simp only [sgnM] at h ⊢
    by_cases hc : c.toNat = 45
    · rw [if_pos hc] at h ⊢
      simp only [Bool.and_eq_true, decide_eq_true_eq] at h
      obtain ⟨n, hn, hl⟩ := digM_t h.1
      have hp := h.2
      rw [hn] at hp
      simp only [hn]
      have : c = 45 := UInt8.toNat_inj.1 hc
      subst this
      rw [itoa, if_pos (by omega), hl, show (-(n : Int)).natAbs = n from by omega]
    · rw [if_neg hc] at h ⊢
      obtain ⟨n, hn, hl⟩ := digM_t h
      rw [hn, itoa, if_neg (by omega), hl]
      simp

theorem dlen7 (k : Nat) : ∀ n, n < 10 ^ (k + 1) → (decDigits n).length ≤ k + 1 := by
  induction k with
  | zero =>
    intro n hn
    rw [decDigits_one (by simpa using hn)]
    simp
  | succ k ih =>
    intro n hn
    by_cases h : n < 10
    · rw [decDigits_one h]
      simp
    · rw [decDigits, dif_neg h, List.length_append]
      have : n / 10 < 10 ^ (k + 1) := by
        rw [Nat.pow_succ] at hn
        omega
      have := ih _ this
      simp
      omega

theorem parseU_dec {n : Nat} (h : n ≤ 1000000) : parseUintB 64 (decDigits n) = .ok n := by
  unfold parseUintB
  rw [if_neg (dec_ne n), parse_dec _ _ (by omega) (by omega)]

theorem parse_itoa {n : Int} (h : isFin n = true) : parseIntB 64 (itoa n) = .ok n := by
  obtain ⟨h1, h2⟩ := isFin_t h
  by_cases hn : n < 0
  · have hp := parseU_dec (n := n.natAbs) (by omega)
    rw [itoa, if_pos hn]
    have e45 : (45 : UInt8).toNat = 45 := rfl
    simp only [parseIntB, e45, or_true, if_true, hp]
    rw [if_neg (by simp), if_neg (by omega)]
    congr 1
    omega
  · have hp := parseU_dec (n := n.toNat) (by omega)
    obtain ⟨c, r, hcr, hc⟩ := head_dec n.toNat
    have hd := dec_digits n.toNat c (by rw [hcr]; simp)
    rw [itoa, if_neg hn, hcr]
    rw [hcr] at hp
    have hc43 : ¬ c.toNat = 43 := by omega
    simp only [parseIntB, hc43, hc, or_self, if_false]
    rw [hp]
    show (if ¬False ∧ 2 ^ (64 - 1) ≤ n.toNat then NumEnd.range else if False ∧ 2 ^ (64 - 1) < n.toNat then NumEnd.range else NumEnd.ok (n.toNat : Int)) = NumEnd.ok n
    rw [if_neg (by omega), if_neg (by simp)]
    congr 1
    omega

theorem sgn_itoa {n : Int} (h : isFin n = true) : sgnM (itoa n) = (n, true) := by
  obtain ⟨h1, h2⟩ := isFin_t h
  by_cases hn : n < 0
  · have hl := dlen7 6 n.natAbs (by omega)
    have hd := digM_dec (n := n.natAbs) (by omega)
    rw [itoa, if_pos hn]
    have e45 : (45 : UInt8).toNat = 45 := rfl
    simp only [sgnM, e45, if_true, hd]
    rw [Prod.mk.injEq]
    exact ⟨by omega, by simp; omega⟩
  · have hl := dlen7 6 n.toNat (by omega)
    have hd := digM_dec (n := n.toNat) (by omega)
    obtain ⟨c, r, hcr, hc⟩ := head_dec n.toNat
    rw [itoa, if_neg hn]
    rw [hcr] at hd ⊢
    simp only [sgnM, hc, if_false, hd]
    rw [Prod.mk.injEq]
    exact ⟨by omega, rfl⟩

theorem read_eq (l : List UInt8) : readI l = readM l := by
  unfold readI readM
  by_cases hl : l = [46]
  · rw [if_pos hl, if_pos hl]
  · rw [if_neg hl, if_neg hl]
    by_cases he : ∃ n, isFin n = true ∧ itoa n = l
    · obtain ⟨n, hf, rfl⟩ := he
      rw [parse_itoa hf, sgn_itoa hf]
      simp [hf]
    · have h2 : ((sgnM l).2 && isFin (sgnM l).1) = false := by
        cases hs : (sgnM l).2 with
        | false => rfl
        | true =>
          cases hf : isFin (sgnM l).1 with
          | false => rfl
          | true => exact absurd ⟨_, hf, sgn_t hs⟩ he
      rw [h2]
      cases hp : parseIntB 64 l
      next n =>
        have h3 : (isFin n && decide (itoa n = l)) = false := by
          cases hf : isFin n with
          | false => rfl
          | true =>
            rw [Bool.true_and, decide_eq_false_iff_not]
            exact fun e => he ⟨n, hf, e⟩
        simp [h3]
      · simp
      · simp
end M
end Go.Proofs.YtgkceafhagfkhaaDoor

namespace Go.Proofs.YtgkceafhagfkhaaDoor.V
open Go.RowKit

theorem retB {a b : Bool} (h : a = b) : Ending.returned (.bool a) = .returned (.bool b) := by rw [h]
theorem retI {a b : Int} {k : IntKind} (h : a = b) : Ending.returned (.int k a) = .returned (.int k b) := by rw [h]
theorem retI2 {a b c d : Int} {k l : IntKind} (h : a = c) (h' : b = d) : Ending.returned (.tuple #[.int k a, .int l b]) = .returned (.tuple #[.int k c, .int l d]) := by rw [h, h']
theorem retP {a b : Int} {p : Int × Int} {k l : IntKind} (h : p = (a, b)) : Ending.returned (.tuple #[.int k a, .int l b]) = .returned (.tuple #[.int k p.1, .int l p.2]) := by rw [h]

set_option maxRecDepth 100000 in
set_option maxHeartbeats 400000 in
theorem isFinite (a : Int) (w : World) : Calls Tryd.prog 63 #[.int .i64 a] w fun e w' => e = .returned (.bool (M.isFin a)) ∧ w = w' := by
  go_enter Tryd.func63, Tryd.ntmps63
  go_wp2
  all_goals
    go_ret
    refine ⟨retB ?_, rfl⟩
    unfold M.isFin
    grind

set_option maxRecDepth 100000 in
set_option maxHeartbeats 400000 in
theorem isValid (a : Int) (w : World) : Calls Tryd.prog 55 #[.int .i64 a] w fun e w' => e = .returned (.bool (M.isVal a)) ∧ w = w' := by
  go_enter Tryd.func55, Tryd.ntmps55
  go_wp2_with (first | (go_at_call 63; refine (isFinite _ _).mono ?_; rintro e w' ⟨rfl, rfl⟩))
  all_goals
    go_ret
    refine ⟨retB ?_, rfl⟩
    unfold M.isVal
    grind

set_option maxRecDepth 100000 in
set_option maxHeartbeats 400000 in
theorem isValue (a : Int) (w : World) : Calls Tryd.prog 41 #[.int .i64 a] w fun e w' => e = .returned (.bool (M.isVal a)) ∧ w = w' := by
  go_enter Tryd.func41, Tryd.ntmps41
  go_wp2_with (first | (go_at_call 55; refine (isValid _ _).mono ?_; rintro e w' ⟨rfl, rfl⟩))
  all_goals
    go_ret
    exact ⟨rfl, rfl⟩

set_option maxRecDepth 100000 in
set_option maxHeartbeats 400000 in
theorem sIn (a b c : Int) (w : World) : Calls Tryd.prog 66 #[.int .i64 a, .int .i64 b, .int .i64 c] w fun e w' => e = .returned (.bool (decide (b ≤ a) && decide (a ≤ c))) ∧ w = w' := by
  go_enter Tryd.func66, Tryd.ntmps66
  go_wp2
  all_goals
    go_ret
    refine ⟨retB ?_, rfl⟩
    grind

set_option maxRecDepth 100000 in
set_option maxHeartbeats 400000 in
theorem sFinite (a : Int) (w : World) : Calls Tryd.prog 65 #[.int .i64 a] w fun e w' => e = .returned (.bool (M.isFin a)) ∧ w = w' := by
  go_enter Tryd.func65, Tryd.ntmps65
  go_wp2_with (first | (go_at_call 66; refine (sIn _ _ _ _).mono ?_; rintro e w' ⟨rfl, rfl⟩))
  all_goals
    go_ret
    exact ⟨retB (by unfold M.isFin; grind), rfl⟩

set_option maxRecDepth 100000 in
set_option maxHeartbeats 400000 in
theorem sIsValue (a : Int) (w : World) : Calls Tryd.prog 79 #[.int .i64 a] w fun e w' => e = .returned (.bool (M.isVal a)) ∧ w = w' := by
  go_enter Tryd.func79, Tryd.ntmps79
  go_wp2_with (first | (go_at_call 65; refine (sFinite _ _).mono ?_; rintro e w' ⟨rfl, rfl⟩))
  all_goals
    go_ret
    refine ⟨retB ?_, rfl⟩
    unfold M.isVal
    grind

end Go.Proofs.YtgkceafhagfkhaaDoor.V

namespace Go.Proofs.YtgkceafhagfkhaaDoor.V
open Go.RowKit

theorem dlen (k : Nat) : ∀ n, n < 10 ^ (k + 1) → (Go.Lib.decDigits n).length ≤ k + 1 := by
  induction k with
  | zero =>
    intro n hn
    rw [Go.Lib.decDigits_one (by simpa using hn)]
    simp
  | succ k ih =>
    intro n hn
    by_cases h : n < 10
    · rw [Go.Lib.decDigits_one h]
      simp
    · rw [Go.Lib.decDigits, dif_neg h, List.length_append]
      have : n / 10 < 10 ^ (k + 1) := by
        rw [Nat.pow_succ] at hn
        omega
      have := ih _ this
      simp
      omega

theorem cv1 (W : World) (z : Int) (h0 : 0 ≤ z) (h1 : z < 256) :
    (convert 22 9 (.slice (some ⟨W.heap.size, 0, none⟩) 1 1)).run Tryd.prog (W.alloc (.cells #[.int .u8 z] 5)) = .ok (.string ⟨#[UInt8.ofNat z.toNat]⟩) (W.alloc (.cells #[.int .u8 z] 5)) := by
  have hz : ((UInt8.ofNat z.toNat).toNat : Int) = z := by
    rw [UInt8.toNat_ofNat']
    omega
  exact run_convert_bytes_back (P := Tryd.prog) (W.alloc (.cells #[.int .u8 z] 5)) 22 9 5 ⟨W.heap.size, 0, none⟩ 1 [UInt8.ofNat z.toNat] Tryd.underlying22 Tryd.underlying5 Tryd.underlying9 (fun j hj => by
    have hj0 : j = 0 := by simp at hj; omega
    subst hj0
    simp [Addr.add, hz]
    omega)

theorem cvB {w w1 : World} {z : Int} {k : Nat} (hk : z = (k : Int)) (h1 : k < 256) (hb : Below (w.alloc (.cells #[.int .u8 z] 5)).drew.heap.size (w.alloc (.cells #[.int .u8 z] 5)).drew w1) :
    (convert 22 9 (.slice (some ⟨w.heap.size, 0, none⟩) 1 1)).run Tryd.prog w1 = .ok (.string ⟨#[UInt8.ofNat k]⟩) w1 := by
  have hz : ((UInt8.ofNat k).toNat : Int) = z := by
    rw [UInt8.toNat_ofNat']
    omega
  exact run_convert_bytes_back (P := Tryd.prog) w1 22 9 5 ⟨w.heap.size, 0, none⟩ 1 [UInt8.ofNat k] Tryd.underlying22 Tryd.underlying5 Tryd.underlying9 (fun j hj => by
    have hj0 : j = 0 := by simp at hj; omega
    subst hj0
    have hc := hb.cell (p := ⟨w.heap.size, 0, none⟩) (by simp)
    have h2 : ((⟨w.heap.size, 0, none⟩ : Addr).add 0) = ⟨w.heap.size, 0, none⟩ := rfl
    rw [h2, hc]
    show (w.alloc (.cells #[.int .u8 z] 5)).cell? ⟨w.heap.size, 0, none⟩ = some (.int .u8 ((UInt8.ofNat k).toNat : Int))
    rw [hz]
    have e : (w.alloc (.cells #[.int .u8 z] 5)).heap[w.heap.size]? = some (.cells #[.int .u8 z] 5 (0, 0)) := by
      show (w.heap.push _)[w.heap.size]? = _
      simp
    simp only [World.cell?, e]
    simp)

/-- What a numeral is. -/
def DecPost (n : Nat) (w : World) (e : Ending) (w' : World) : Prop :=
  ∃ s : ByteArray, e = .returned (.string s) ∧ s.data.toList = Go.Lib.decDigits n ∧ s.size ≤ 19 ∧ Below w.heap.size w w'

theorem toArray_eq {s : ByteArray} {l : List UInt8} (h : s.data.toList = l) : s = ⟨l.toArray⟩ := by
  cases s with
  | mk d => simp at h; subst h; simp

theorem dec_fin {n : Nat} {w w' : World} {s : ByteArray} (h63 : n ≤ 1000000000000000000) (hs : s.data.toList = Go.Lib.decDigits (n / 10)) (hd : Go.Lib.decDigits n = Go.Lib.decDigits (n / 10) ++ [UInt8.ofNat (48 + n % 10)]) (hb : Below w.heap.size w w') :
    DecPost n w (.returned (.string (s ++ ⟨#[48 + UInt8.ofNat (n % 10)]⟩))) w' := by
  have hl : (s ++ (⟨#[48 + UInt8.ofNat (n % 10)]⟩ : ByteArray)).data.toList = Go.Lib.decDigits n := by
    rw [hd, ← hs]
    simp [ByteArray.data_append]
  refine ⟨_, rfl, hl, ?_, hb⟩
  have h2 := dlen 18 n (by omega)
  rw [← hl, Array.length_toList] at h2
  exact h2

set_option maxRecDepth 100000 in
set_option maxHeartbeats 1000000 in
set_option maxRecDepth 100000 in
theorem sDec (n : Nat) (w : World) (h63 : n ≤ 1000000000000000000) : Calls Tryd.prog 80 #[.int .i64 n] w (DecPost n w) := by
  induction n using Nat.strongRecOn generalizing w with
  | ind n ih =>
    by_cases h : n < 10
    · have hi : (n : Int) < 10 := by omega
      have hdd := Go.Lib.decDigits_one h
      have HD := Lib.hid hdd
      clear ih hdd
      go_enter Tryd.func80, Tryd.ntmps80
      go_wp2_with fail
      rw [cv1 _ _ (by omega) (by omega)]
      go_wp2
      go_ret
      exact ⟨_, rfl, by rw [HD.out]; show [UInt8.ofNat (48 + (n : Int)).toNat] = _; rw [show (48 + (n : Int)).toNat = 48 + n from by omega], by simp [ByteArray.size], (Below.refl _ _).alloc (Nat.le_refl _) _⟩
    · have hi : ¬ (n : Int) < 10 := by omega
      have HD : Hid (Go.Lib.decDigits n = Go.Lib.decDigits (n / 10) ++ [UInt8.ofNat (48 + n % 10)]) := by
        show _ = _
        rw [Go.Lib.decDigits, dif_neg h]
      have ih2 : ∀ w, Calls Tryd.prog 80 #[.int .i64 ((n : Int) / 10)] w (DecPost (n / 10) w) := fun w => by
        have := ih (n / 10) (by omega) w (by omega)
        rwa [show ((n / 10 : Nat) : Int) = (n : Int) / 10 from by omega] at this
      have IH := Lib.hid ih2
      clear ih ih2
      have hm : (n : Int).tmod 10 = ((n % 10 : Nat) : Int) := by rw [Int.tmod_eq_emod_of_nonneg (by omega)]; omega
      have hz : IntKind.u8.wrap (IntKind.i64.wrap (48 + (n : Int).tmod 10)) = 48 + (n : Int).tmod 10 := by
        rw [IntWalk.i64_in _ (by omega), IntWalk.u8_in _ (by omega)]
      have hcv : ∀ W : World, (convert 22 9 (.slice (some ⟨W.heap.size, 0, none⟩) 1 1)).run Tryd.prog (W.alloc (.cells #[.int .u8 (IntKind.u8.wrap (IntKind.i64.wrap (48 + (n : Int).tmod 10)))] 5))
          = .ok (.string ⟨#[UInt8.ofNat (48 + n % 10)]⟩) (W.alloc (.cells #[.int .u8 (IntKind.u8.wrap (IntKind.i64.wrap (48 + (n : Int).tmod 10)))] 5)) := fun W => by
        rw [hz, cv1 W _ (by omega) (by omega), show (48 + (n : Int).tmod 10).toNat = 48 + n % 10 from by omega]
      have hw1 : IntKind.i64.wrap ((n : Int) / 10) = (n : Int) / 10 := IntWalk.i64_in _ (by omega)
      have hzk : IntKind.u8.wrap (IntKind.i64.wrap (48 + (n : Int).tmod 10)) = ((48 + n % 10 : Nat) : Int) := by rw [hz]; omega
      have HZK := Lib.hid hzk
      have hcv2 : ∀ W : World, _ := fun W => cvB (w := W) hzk (by omega) (Below.refl _ _)
      clear hz hm hzk
      go_enter Tryd.func80, Tryd.ntmps80
      go_wp2_with fail
      go_region_with (first | (go_at_call 80; refine (IH.out _).mono ?_; rintro e w1 ⟨s, rfl, hs, hsz, hb⟩; have HS := Lib.hid hs; have HBW := Lib.hid hb; (try have hcv1 := cvB HZK.out (by omega) hb); clear hs hb))
      all_goals
        go_wp2
        go_ret
      · exact dec_fin h63 HS.out HD.out ((Below.trans (Below.drew (Below.refl _ _)) HBW.out).alloc HBW.out.size _)
      · exact dec_fin h63 HS.out HD.out (Below.trans ((Below.alloc (Below.refl _ _) (Nat.le_refl _) _).drew) (HBW.out.mono (by simp)))
      · exact dec_fin h63 HS.out HD.out (Below.trans ((Below.alloc (Below.refl _ _) (Nat.le_refl _) _).drew) (HBW.out.mono (by simp)))
end Go.Proofs.YtgkceafhagfkhaaDoor.V

namespace Go.Proofs.YtgkceafhagfkhaaDoor.V
open Go.RowKit

theorem dval_lt (l : List UInt8) (a : Nat) (h : M.isDigs l = true) : l.foldl (fun a c => 10 * a + (c.toNat - 48)) a < (a + 1) * 10 ^ l.length := by
  induction l generalizing a with
  | nil => simp
  | cons c t ih =>
    simp only [M.isDigs, List.all_cons, Bool.and_eq_true, decide_eq_true_eq] at h
    have h2 := ih (10 * a + (c.toNat - 48)) (by simp only [M.isDigs]; exact h.2)
    simp only [List.foldl_cons, List.length_cons, Nat.pow_succ]
    refine Nat.lt_of_lt_of_le h2 ?_
    have : 10 * a + (c.toNat - 48) + 1 ≤ (a + 1) * 10 := by omega
    calc (10 * a + (c.toNat - 48) + 1) * 10 ^ t.length ≤ ((a + 1) * 10) * 10 ^ t.length := Nat.mul_le_mul_right _ this
      _ = (a + 1) * (10 ^ t.length * 10) := by rw [Nat.mul_assoc, Nat.mul_comm 10]
theorem dval_bd (l : List UInt8) (h : M.isDigs l = true) (hl : l.length ≤ 10) : M.dval l ≤ 9999999999 := by
  have h1 := dval_lt l 0 h
  have h2 : 10 ^ l.length ≤ 10000000000 := Nat.pow_le_pow_right (n := 10) (by omega) hl
  unfold M.dval
  omega
theorem isDigs_snoc (l : List UInt8) (c : UInt8) : M.isDigs (l ++ [c]) = (M.isDigs l && (decide (48 ≤ c.toNat) && decide (c.toNat ≤ 57))) := by simp [M.isDigs]
theorem bytes_snoc (s : ByteArray) (k : Nat) (h : k < s.size) : s.data.toList.take (k + 1) = s.data.toList.take k ++ [s[k]] := by
  rw [List.take_succ_eq_append_getElem (by simpa using h)]; rfl

theorem digRet {r : Int × Bool} {a : Int} {b : Bool} (h : r = (a, b)) : Ending.returned (.tuple #[.int .i64 a, .bool b]) = .returned (.tuple #[.int .i64 r.1, .bool r.2]) := by rw [h]
theorem str_eq {t s : ByteArray} {l : List UInt8} (h : t.data.toList = l) : (t.toList == s.toList) = decide (l = s.data.toList) := by
  rw [ByteArray.toList_eq, ByteArray.toList_eq, h, Bool.eq_iff_iff]
  simp
theorem digM_bd (l : List UInt8) : 0 ≤ (M.digM l).1 ∧ (M.digM l).1 ≤ 9999999999 := by
  unfold M.digM
  split
  · simp
  · split
    · have := dval_bd l (by assumption) (by omega)
      show 0 ≤ (M.dval l : Int) ∧ (M.dval l : Int) ≤ 9999999999
      omega
    · simp
def DigPost (r : Int × Bool) (w : World) (e : Ending) (w' : World) : Prop := e = .returned (.tuple #[.int .i64 r.1, .bool r.2]) ∧ Below w.heap.size w w'

set_option maxRecDepth 100000 in
set_option maxHeartbeats 1000000 in
set_option maxRecDepth 100000 in
theorem sDigits (s : ByteArray) (w : World) (hs : s.size ≤ maxLen) : Calls Tryd.prog 78 #[.string s] w (DigPost (M.digM s.data.toList) w) := by
  unfold maxLen at hs
  have hlen : s.data.toList.length = s.size := Array.length_toList
  have HLEN := Lib.hid hlen
  clear hlen
  by_cases h1 : s.size < 1
  · have HR : Hid (M.digM s.data.toList = (0, false)) := by show _ = _; rw [M.digM, if_pos (by have := HLEN.out; omega)]
    go_enter Tryd.func78, Tryd.ntmps78
    go_wp2
    go_ret2
    exact ⟨digRet HR.out, Below.refl _ _⟩
  · by_cases h2 : 10 < s.size
    · have HR : Hid (M.digM s.data.toList = (0, false)) := by show _ = _; rw [M.digM, if_pos (by have := HLEN.out; omega)]
      go_enter Tryd.func78, Tryd.ntmps78
      go_wp2
      go_ret2
      exact ⟨digRet HR.out, Below.refl _ _⟩
    · go_enter Tryd.func78, Tryd.ntmps78
      go_wp2
      go_loop [4, 5] (fun n i => ∃ k : Nat, k ≤ s.size ∧ i = .int .i64 k ∧ n = .int .i64 (M.dval (s.data.toList.take k)) ∧ Hid (M.isDigs (s.data.toList.take k) = true)) (fun _ i => s.size - (intOf i).toNat)
      case atStart => exact ⟨0, Nat.zero_le _, rfl, rfl, rfl⟩
      case round =>
        obtain ⟨k, hk, rfl, rfl, HA⟩ := hrel
        have hbd := dval_bd _ HA.out (by simp; omega)
        obtain ⟨v, hv⟩ : ∃ v, v = M.dval (s.data.toList.take k) := ⟨_, rfl⟩
        rw [← hv] at hbd ⊢
        have HV := Lib.hid hv
        clear hv
        by_cases hlt : k < s.size
        · have HS : Hid (s.data.toList.take (k + 1) = s.data.toList.take k ++ [s[k]]) := bytes_snoc s k hlt
          by_cases hd : 48 ≤ s[k].toNat ∧ s[k].toNat ≤ 57
          · obtain ⟨d1, d2⟩ := hd
            have HA2 : Hid (M.isDigs (s.data.toList.take (k + 1)) = true) := by show _ = _; rw [HS.out, isDigs_snoc, HA.out]; simp [d1, d2]
            have HV2 : Hid ((M.dval (s.data.toList.take (k + 1)) : Int) = 10 * (v : Int) + ((s[k].toNat : Int) - 48)) := by show _ = _; rw [HS.out, M.dval_snoc, ← HV.out]; omega
            have d1' : (48 : Int) ≤ (s[k].toNat : Int) := by omega
            have d2' : (s[k].toNat : Int) ≤ 57 := by omega
            go_wp2
            go_round
            case rel => exact ⟨k + 1, by omega, by go_num, by rw [HV2.out], HA2⟩
            case measure => simp [intOf]; omega
          · have HF : Hid (M.isDigs s.data.toList = false) := by
              show _ = _
              rw [M.isDigs, List.all_eq_false]
              refine ⟨s[k], Array.mem_toList_iff.2 (Array.getElem_mem (xs := s.data) hlt), ?_⟩
              simp only [Bool.and_eq_true, decide_eq_true_eq]
              exact hd
            have HR : Hid (M.digM s.data.toList = (0, false)) := by show _ = _; rw [M.digM, if_neg (by have := HLEN.out; omega), HF.out]; rfl
            by_cases hlo : (s[k].toNat : Int) < 48
            · go_wp2
              go_ret2
              exact ⟨digRet HR.out, Below.refl _ _⟩
            · have hhi : (57 : Int) < (s[k].toNat : Int) := by omega
              go_wp2
              go_ret2
              exact ⟨digRet HR.out, Below.refl _ _⟩
        · have hkn : k = s.size := by omega
          have HT : Hid (s.data.toList.take k = s.data.toList) := List.take_of_length_le (by have := HLEN.out; omega)
          have HD : Hid (M.isDigs s.data.toList = true) := by show _ = _; rw [← HT.out]; exact HA.out
          have HR : Hid (M.digM s.data.toList = ((v : Int), decide (Go.Lib.decDigits v = s.data.toList))) := by
            show _ = _
            rw [M.digM, if_neg (by have := HLEN.out; omega), if_pos HD.out, HV.out, HT.out]
          subst hkn
          go_wp2_with fail
          refine (sDec v _ (by omega)).mono ?_
          rintro e w1 ⟨t, rfl, ht, htz, hb⟩
          have HTT := Lib.hid ht
          clear ht
          go_wp2
          go_ret2
          exact ⟨digRet (by rw [HR.out]; exact congrArg (Prod.mk (v : Int)) (str_eq HTT.out).symm), hb⟩

set_option maxRecDepth 100000 in
set_option maxHeartbeats 1000000 in
set_option maxRecDepth 100000 in
theorem sSigned (s : ByteArray) (w : World) (hs : s.size ≤ maxLen) : Calls Tryd.prog 64 #[.string s] w (DigPost (M.sgnM s.data.toList) w) := by
  have hs' := hs
  unfold maxLen at hs
  have HM := Lib.hid hs'
  clear hs'
  by_cases h1 : s.size = 0
  · have HR : Hid (M.sgnM s.data.toList = M.digM s.data.toList) := by
      show _ = _
      have : s.data.toList = [] := List.length_eq_zero_iff.1 (by rw [Array.length_toList]; exact h1)
      rw [this]
      rfl
    have h1' : s.size < 1 := by omega
    clear h1
    go_enter Tryd.func64, Tryd.ntmps64
    go_wp2_with fail
    refine (sDigits s _ HM.out).mono ?_
    rintro e w1 ⟨rfl, hb⟩
    go_wp2
    go_ret2
    exact ⟨digRet (by rw [HR.out]), hb⟩
  · have hk : 0 < s.size := by omega
    have hcr : s.data.toList = s[0] :: s.data.toList.drop 1 := by
      have h := bytes_snoc s 0 hk
      have h2 := List.take_append_drop 1 s.data.toList
      rw [← h2]
      simp only [Nat.zero_add, List.take_zero, List.nil_append] at h
      rw [h]
      simp
    have HCR := Lib.hid hcr
    clear hcr h1
    by_cases h45 : s[0].toNat = 45
    · have HR : Hid (M.sgnM s.data.toList = (-(M.digM (s.data.toList.drop 1)).1, (M.digM (s.data.toList.drop 1)).2 && decide (0 < (M.digM (s.data.toList.drop 1)).1))) := by
        show _ = _
        rw [HCR.out]
        simp only [M.sgnM, h45, if_true]
        simp
      have h45' : (s[0].toNat == 45) = true := by simpa using h45
      have h45z : ((s[0].toNat : Int) == 45) = true := by simp; omega
      go_enter Tryd.func64, Tryd.ntmps64
      go_wp2_with fail
      have hd := sDigits (s.extract 1 s.size) w (by have := HM.out; simp [ByteArray.size_extract]; omega)
      rw [Go.Lib.extract_to_end] at hd
      have hb1 := digM_bd (s.data.toList.drop 1)
      obtain ⟨D, hD⟩ : ∃ D, D = M.digM (s.data.toList.drop 1) := ⟨_, rfl⟩
      rw [← hD] at hd hb1
      have HR2 : Hid (M.sgnM s.data.toList = (-D.1, D.2 && decide (0 < D.1))) := by show _ = _; rw [hD]; exact HR.out
      obtain ⟨n, ok⟩ := D
      obtain ⟨n1, n2⟩ := hb1
      clear hD HR
      refine hd.mono ?_
      rintro e w1 ⟨rfl, hb⟩
      clear hd
      cases ok
      · go_wp2
        go_ret2
        exact ⟨digRet (by rw [HR2.out]; rfl), hb⟩
      · by_cases hn : 0 < n
        · go_wp2
          go_ret2
          exact ⟨digRet (by rw [HR2.out]; simp [hn]), hb⟩
        · go_wp2
          go_ret2
          exact ⟨digRet (by rw [HR2.out]; simp [hn]), hb⟩
    · have HR : Hid (M.sgnM s.data.toList = M.digM s.data.toList) := by
        show _ = _
        have : M.sgnM (s[0] :: s.data.toList.drop 1) = M.digM (s[0] :: s.data.toList.drop 1) := by simp only [M.sgnM, h45, if_false]
        rw [← HCR.out] at this
        exact this
      have h45z : ((s[0].toNat : Int) == 45) = false := by simp; omega
      go_enter Tryd.func64, Tryd.ntmps64
      go_wp2_with fail
      refine (sDigits s _ HM.out).mono ?_
      rintro e w1 ⟨rfl, hb⟩
      go_wp2
      go_ret2
      exact ⟨digRet (by rw [HR.out]), hb⟩
end Go.Proofs.YtgkceafhagfkhaaDoor.V
