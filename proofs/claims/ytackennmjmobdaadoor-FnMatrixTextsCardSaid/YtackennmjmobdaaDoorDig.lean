/- The model's readers of numerals: contracts of l01Digits and l01Signed. -/
import Derived.Test.YtackennmjmobdaaDoorRows
import Derived.Test.YtackennmjmobdaaDoorMath1
import Derived.Test.YtackennmjmobdaaDoorRead
import Derived.Test.YtackennmjmobdaaDoorVals0
import Derived.Test.YtackennmjmobdaaDoorDec
import Derived.WalkKit
import Derived.ProofKit
import Derived.WalkSmall
import Derived.Deep.QuietTactic
import Derived.BigQuiet
import Derived.Deep.Draws
import Derived.Lib.Hide
import Derived.Lib.IndexBytes
namespace Go.Proofs.YtackennmjmobdaaDoor.V
open Go.RowKit

theorem dval_lt (l : List UInt8) (a : Nat) (h : M.isDigs l = true) : l.foldl (fun a c => 10 * a + (c.toNat - 48)) a < (a + 1) * 10 ^ l.length := by
  induction l generalizing a with
  | nil => simp
  | cons c t ih =>
    simp only [M.isDigs, List.all_cons, Bool.and_eq_true, decide_eq_true_eq] at h
    have h2 := ih (10 * a + (c.toNat - 48)) (by simp only [M.isDigs]; exact h.2)
    simp only [List.foldl_cons, List.length_cons, Nat.pow_succ]
    refine Nat.lt_of_lt_of_le h2 ?_
    have : 10 * a + (c.toNat - 48) + 1 ≤ (a + 1) * 10 := by omega
    calc (10 * a + (c.toNat - 48) + 1) * 10 ^ t.length ≤ ((a + 1) * 10) * 10 ^ t.length := Nat.mul_le_mul_right _ this
      _ = (a + 1) * (10 ^ t.length * 10) := by rw [Nat.mul_assoc, Nat.mul_comm 10]
theorem dval_bd (l : List UInt8) (h : M.isDigs l = true) (hl : l.length ≤ 10) : M.dval l ≤ 9999999999 := by
  have h1 := dval_lt l 0 h
  have h2 : 10 ^ l.length ≤ 10000000000 := Nat.pow_le_pow_right (n := 10) (by omega) hl
  unfold M.dval
  omega
theorem isDigs_snoc (l : List UInt8) (c : UInt8) : M.isDigs (l ++ [c]) = (M.isDigs l && (decide (48 ≤ c.toNat) && decide (c.toNat ≤ 57))) := by simp [M.isDigs]
theorem bytes_snoc (s : ByteArray) (k : Nat) (h : k < s.size) : s.data.toList.take (k + 1) = s.data.toList.take k ++ [s[k]] := by
  rw [List.take_succ_eq_append_getElem (by simpa using h)]; rfl

theorem digRet {r : Int × Bool} {a : Int} {b : Bool} (h : r = (a, b)) : Ending.returned (.tuple #[.int .i64 a, .bool b]) = .returned (.tuple #[.int .i64 r.1, .bool r.2]) := by rw [h]
theorem str_eq {t s : ByteArray} {l : List UInt8} (h : t.data.toList = l) : (t.toList == s.toList) = decide (l = s.data.toList) := by
  rw [ByteArray.toList_eq, ByteArray.toList_eq, h, Bool.eq_iff_iff]
  simp
theorem digM_bd (l : List UInt8) : 0 ≤ (M.digM l).1 ∧ (M.digM l).1 ≤ 9999999999 := by
  unfold M.digM
  split
  · simp
  · split
    · have := dval_bd l (by assumption) (by omega)
      show 0 ≤ (M.dval l : Int) ∧ (M.dval l : Int) ≤ 9999999999
      omega
    · simp
def DigPost (r : Int × Bool) (w : World) (e : Ending) (w' : World) : Prop := e = .returned (.tuple #[.int .i64 r.1, .bool r.2]) ∧ Below w.heap.size w w'

set_option maxRecDepth 100000 in
set_option maxHeartbeats 1000000 in
set_option maxRecDepth 100000 in
theorem sDigits (s : ByteArray) (w : World) (hs : s.size ≤ maxLen) : Calls Tryd.prog 77 #[.string s] w (DigPost (M.digM s.data.toList) w) := by
  unfold maxLen at hs
  have hlen : s.data.toList.length = s.size := Array.length_toList
  have HLEN := Lib.hid hlen
  clear hlen
  by_cases h1 : s.size < 1
  · have HR : Hid (M.digM s.data.toList = (0, false)) := by show _ = _; rw [M.digM, if_pos (by have := HLEN.out; omega)]
    go_enter Tryd.func77, Tryd.ntmps77
    go_wp2
    go_ret2
    exact ⟨digRet HR.out, Below.refl _ _⟩
  · by_cases h2 : 10 < s.size
    · have HR : Hid (M.digM s.data.toList = (0, false)) := by show _ = _; rw [M.digM, if_pos (by have := HLEN.out; omega)]
      go_enter Tryd.func77, Tryd.ntmps77
      go_wp2
      go_ret2
      exact ⟨digRet HR.out, Below.refl _ _⟩
    · go_enter Tryd.func77, Tryd.ntmps77
      go_wp2
      go_loop [4, 5] (fun n i => ∃ k : Nat, k ≤ s.size ∧ i = .int .i64 k ∧ n = .int .i64 (M.dval (s.data.toList.take k)) ∧ Hid (M.isDigs (s.data.toList.take k) = true)) (fun _ i => s.size - (intOf i).toNat)
      case atStart => exact ⟨0, Nat.zero_le _, rfl, rfl, rfl⟩
      case round =>
        obtain ⟨k, hk, rfl, rfl, HA⟩ := hrel
        have hbd := dval_bd _ HA.out (by simp; omega)
        obtain ⟨v, hv⟩ : ∃ v, v = M.dval (s.data.toList.take k) := ⟨_, rfl⟩
        rw [← hv] at hbd ⊢
        have HV := Lib.hid hv
        clear hv
        by_cases hlt : k < s.size
        · have HS : Hid (s.data.toList.take (k + 1) = s.data.toList.take k ++ [s[k]]) := bytes_snoc s k hlt
          by_cases hd : 48 ≤ s[k].toNat ∧ s[k].toNat ≤ 57
          · obtain ⟨d1, d2⟩ := hd
            have HA2 : Hid (M.isDigs (s.data.toList.take (k + 1)) = true) := by show _ = _; rw [HS.out, isDigs_snoc, HA.out]; simp [d1, d2]
            have HV2 : Hid ((M.dval (s.data.toList.take (k + 1)) : Int) = 10 * (v : Int) + ((s[k].toNat : Int) - 48)) := by show _ = _; rw [HS.out, M.dval_snoc, ← HV.out]; omega
            have d1' : (48 : Int) ≤ (s[k].toNat : Int) := by omega
            have d2' : (s[k].toNat : Int) ≤ 57 := by omega
            go_wp2
            go_round
            case rel => exact ⟨k + 1, by omega, by go_num, by rw [HV2.out], HA2⟩
            case measure => simp [intOf]; omega
          · have HF : Hid (M.isDigs s.data.toList = false) := by
              show _ = _
              rw [M.isDigs, List.all_eq_false]
              refine ⟨s[k], Array.mem_toList_iff.2 (Array.getElem_mem (xs := s.data) hlt), ?_⟩
              simp only [Bool.and_eq_true, decide_eq_true_eq]
              exact hd
            have HR : Hid (M.digM s.data.toList = (0, false)) := by show _ = _; rw [M.digM, if_neg (by have := HLEN.out; omega), HF.out]; rfl
            by_cases hlo : (s[k].toNat : Int) < 48
            · go_wp2
              go_ret2
              exact ⟨digRet HR.out, Below.refl _ _⟩
            · have hhi : (57 : Int) < (s[k].toNat : Int) := by omega
              go_wp2
              go_ret2
              exact ⟨digRet HR.out, Below.refl _ _⟩
        · have hkn : k = s.size := by omega
          have HT : Hid (s.data.toList.take k = s.data.toList) := List.take_of_length_le (by have := HLEN.out; omega)
          have HD : Hid (M.isDigs s.data.toList = true) := by show _ = _; rw [← HT.out]; exact HA.out
          have HR : Hid (M.digM s.data.toList = ((v : Int), decide (Go.Lib.decDigits v = s.data.toList))) := by
            show _ = _
            rw [M.digM, if_neg (by have := HLEN.out; omega), if_pos HD.out, HV.out, HT.out]
          subst hkn
          go_wp2_with fail
          refine (sDec v _ (by omega)).mono ?_
          rintro e w1 ⟨t, rfl, ht, htz, hb⟩
          have HTT := Lib.hid ht
          clear ht
          go_wp2
          go_ret2
          exact ⟨digRet (by rw [HR.out]; exact congrArg (Prod.mk (v : Int)) (str_eq HTT.out).symm), hb⟩

set_option maxRecDepth 100000 in
set_option maxHeartbeats 1000000 in
set_option maxRecDepth 100000 in
theorem sSigned (s : ByteArray) (w : World) (hs : s.size ≤ maxLen) : Calls Tryd.prog 63 #[.string s] w (DigPost (M.sgnM s.data.toList) w) := by
  have hs' := hs
  unfold maxLen at hs
  have HM := Lib.hid hs'
  clear hs'
  by_cases h1 : s.size = 0
  · have HR : Hid (M.sgnM s.data.toList = M.digM s.data.toList) := by
      show _ = _
      have : s.data.toList = [] := List.length_eq_zero_iff.1 (by rw [Array.length_toList]; exact h1)
      rw [this]
      rfl
    have h1' : s.size < 1 := by omega
    clear h1
    go_enter Tryd.func63, Tryd.ntmps63
    go_wp2_with fail
    refine (sDigits s _ HM.out).mono ?_
    rintro e w1 ⟨rfl, hb⟩
    go_wp2
    go_ret2
    exact ⟨digRet (by rw [HR.out]), hb⟩
  · have hk : 0 < s.size := by omega
    have hcr : s.data.toList = s[0] :: s.data.toList.drop 1 := by
      have h := bytes_snoc s 0 hk
      have h2 := List.take_append_drop 1 s.data.toList
      rw [← h2]
      simp only [Nat.zero_add, List.take_zero, List.nil_append] at h
      rw [h]
      simp
    have HCR := Lib.hid hcr
    clear hcr h1
    by_cases h45 : s[0].toNat = 45
    · have HR : Hid (M.sgnM s.data.toList = (-(M.digM (s.data.toList.drop 1)).1, (M.digM (s.data.toList.drop 1)).2 && decide (0 < (M.digM (s.data.toList.drop 1)).1))) := by
        show _ = _
        rw [HCR.out]
        simp only [M.sgnM, h45, if_true]
        simp
      have h45' : (s[0].toNat == 45) = true := by simpa using h45
      have h45z : ((s[0].toNat : Int) == 45) = true := by simp; omega
      go_enter Tryd.func63, Tryd.ntmps63
      go_wp2_with fail
      have hd := sDigits (s.extract 1 s.size) w (by have := HM.out; simp [ByteArray.size_extract]; omega)
      rw [Go.Lib.extract_to_end] at hd
      have hb1 := digM_bd (s.data.toList.drop 1)
      obtain ⟨D, hD⟩ : ∃ D, D = M.digM (s.data.toList.drop 1) := ⟨_, rfl⟩
      rw [← hD] at hd hb1
      have HR2 : Hid (M.sgnM s.data.toList = (-D.1, D.2 && decide (0 < D.1))) := by show _ = _; rw [hD]; exact HR.out
      obtain ⟨n, ok⟩ := D
      obtain ⟨n1, n2⟩ := hb1
      clear hD HR
      refine hd.mono ?_
      rintro e w1 ⟨rfl, hb⟩
      clear hd
      cases ok
      · go_wp2
        go_ret2
        exact ⟨digRet (by rw [HR2.out]; rfl), hb⟩
      · by_cases hn : 0 < n
        · go_wp2
          go_ret2
          exact ⟨digRet (by rw [HR2.out]; simp [hn]), hb⟩
        · go_wp2
          go_ret2
          exact ⟨digRet (by rw [HR2.out]; simp [hn]), hb⟩
    · have HR : Hid (M.sgnM s.data.toList = M.digM s.data.toList) := by
        show _ = _
        have : M.sgnM (s[0] :: s.data.toList.drop 1) = M.digM (s[0] :: s.data.toList.drop 1) := by simp only [M.sgnM, h45, if_false]
        rw [← HCR.out] at this
        exact this
      have h45z : ((s[0].toNat : Int) == 45) = false := by simp; omega
      go_enter Tryd.func63, Tryd.ntmps63
      go_wp2_with fail
      refine (sDigits s _ HM.out).mono ?_
      rintro e w1 ⟨rfl, hb⟩
      go_wp2
      go_ret2
      exact ⟨digRet (by rw [HR.out]), hb⟩
end Go.Proofs.YtackennmjmobdaaDoor.V
