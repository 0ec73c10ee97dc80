/- ReadValue on both sides: the contracts. -/
import Derived.Test.YtackennmjmobdaaDoorRows
import Derived.Test.YtackennmjmobdaaDoorMath1
import Derived.Test.YtackennmjmobdaaDoorRead
import Derived.Test.YtackennmjmobdaaDoorVals0
import Derived.Test.YtackennmjmobdaaDoorDec
import Derived.Test.YtackennmjmobdaaDoorTxt
import Derived.Test.YtackennmjmobdaaDoorDig
import Derived.Test.YtackennmjmobdaaDoorParse
import Derived.WalkKit
import Derived.ProofKit
import Derived.WalkSmall
import Derived.Deep.QuietTactic
import Derived.BigQuiet
import Derived.Deep.Draws
import Derived.Lib.Hide
import Derived.Lib.IndexBytes
import Derived.Lib.SmallJoins
namespace Go.Proofs.YtackennmjmobdaaDoor.V
open Go.RowKit

set_option maxRecDepth 100000 in
set_option maxHeartbeats 1000000 in
set_option maxRecDepth 100000 in
theorem sReadValue (s : ByteArray) (w : World) (hs : s.size ≤ maxLen) : Calls Tryd.prog 48 #[.string s] w (DigPost (M.readM s.data.toList) w) := by
  have HM := Lib.hid hs
  clear hs
  by_cases hd : s.data.toList = [46]
  · have hq : (s.toList == [46]) = true := by rw [ByteArray.toList_eq, hd]; rfl
    have HR : Hid (M.readM s.data.toList = (-1000000000000000, true)) := by show _ = _; rw [M.readM, if_pos hd]
    clear hd
    go_enter Tryd.func48, Tryd.ntmps48
    go_wp2_with fail
    go_ret2
    exact ⟨digRet (by rw [HR.out]), Below.refl _ _⟩
  · have hq : (s.toList == [46]) = false := by rw [ByteArray.toList_eq]; simpa using hd
    have HR : Hid (M.readM s.data.toList = if (M.sgnM s.data.toList).2 && M.isFin (M.sgnM s.data.toList).1 then ((M.sgnM s.data.toList).1, true) else (0, false)) := by show _ = _; rw [M.readM, if_neg hd]
    clear hd
    go_enter Tryd.func48, Tryd.ntmps48
    go_wp2_with fail
    have hd := sSigned s w HM.out
    obtain ⟨D, hD⟩ : ∃ D, D = M.sgnM s.data.toList := ⟨_, rfl⟩
    rw [← hD] at hd
    have HR2 : Hid (M.readM s.data.toList = if D.2 && M.isFin D.1 then (D.1, true) else (0, false)) := by show _ = _; rw [hD]; exact HR.out
    obtain ⟨n, ok⟩ := D
    clear hD HR
    refine hd.mono ?_
    rintro e w1 ⟨rfl, hb⟩
    clear hd
    cases ok
    · go_wp2_with fail
      go_ret2
      exact ⟨digRet (by rw [HR2.out]; rfl), hb⟩
    · by_cases hf : M.isFin n = true
      · go_wp2_with (go_at_call 64; refine (sFinite _ _).mono ?_; rintro e w' ⟨rfl, rfl⟩)
        go_ret2
        exact ⟨digRet (by rw [HR2.out]; simp [hf]), hb⟩
      · simp only [Bool.not_eq_true] at hf
        go_wp2_with (go_at_call 64; refine (sFinite _ _).mono ?_; rintro e w' ⟨rfl, rfl⟩)
        go_ret2
        exact ⟨digRet (by rw [HR2.out]; simp [hf]), hb⟩

theorem below_bytes (w : World) (e : TypeId) (t : ByteArray) : Below w.heap.size w (Lib.bytesWorld w e t) := Go.Joins.below_bytesWorld _ _ _ _ (Nat.le_refl _)

/-- The two sentinels that ParseInt hands on. -/
def Sent (w : World) : Prop := (∃ tp p, w.var? Tryd.prog "strconv.ErrSyntax" = some #[.iface tp p]) ∧ (∃ tp p, w.var? Tryd.prog "strconv.ErrRange" = some #[.iface tp p])

set_option maxRecDepth 100000 in
set_option maxHeartbeats 1000000 in
set_option maxRecDepth 100000 in
theorem readValue (s : ByteArray) (w : World) (hs : s.size ≤ 1048576) (htab : ∀ w', Below w.heap.size w w' → Lib.TabIs Tryd.prog w' "internal/strconv.uint64pow10" .u64 Lib.pow10Tab) (hsent : ∀ w', Below w.heap.size w w' → Sent w') :
    Calls Tryd.prog 47 #[.string s] w (DigPost (M.readI s.data.toList) w) := by
  have HT := Lib.hid htab
  have HN := Lib.hid hsent
  clear htab hsent
  by_cases hd : s.data.toList = [46]
  · have hq : (s.toList == txt (-1000000000000000)) = true := by rw [ByteArray.toList_eq, hd]; rfl
    have HR : Hid (M.readI s.data.toList = (-1000000000000000, true)) := by show _ = _; rw [M.readI, if_pos hd]
    clear hd
    go_enter Tryd.func47, Tryd.ntmps47
    go_wp2_with fail
    refine (text _ _ M.bot_val (HT.out _ (Below.refl _ _))).mono ?_
    rintro e w1 ⟨t, rfl, rfl, hb⟩
    have HB := Lib.hid hb
    clear hb
    go_wp2_with fail
    go_ret2
    exact ⟨digRet (by rw [HR.out]), HB.out⟩
  · have hq : (s.toList == txt (-1000000000000000)) = false := by
      rw [ByteArray.toList_eq]
      show (s.data.toList == [46]) = false
      simpa using hd
    have HD := Lib.hid hd
    clear hd
    match hp : Lib.parseIntB 64 s.data.toList with
    | .syntax =>
      have HR : Hid (M.readI s.data.toList = (0, false)) := by show _ = _; rw [M.readI, if_neg HD.out, hp]
      have HP := Lib.hid hp
      clear hp
      go_enter Tryd.func47, Tryd.ntmps47
      go_wp2_with fail
      refine (text _ _ M.bot_val (HT.out _ (Below.refl _ _))).mono ?_
      rintro e w1 ⟨t, rfl, rfl, hb⟩
      have HB := Lib.hid hb
      clear hb
      obtain ⟨⟨tp, p, hv⟩, -⟩ := HN.out _ HB.out
      have HV := Lib.hid hv
      clear hv
      go_wp2_with fail
      refine (Go.Proofs.Tryd.strconv_ParseInt_10_at64_syntax_var s (by omega) HP.out tp p _ (by exact HV.out)).mono ?_
      rintro e w2 ⟨N, rfl, hN, hc, hb2⟩
      have HB2 := Lib.hid (HB.out.trans (hb2.mono HB.out.size))
      clear hc hb2
      go_wp2_with fail
      go_ret2
      exact ⟨digRet (by rw [HR.out]), HB2.out⟩
    | .range =>
      have HR : Hid (M.readI s.data.toList = (0, false)) := by show _ = _; rw [M.readI, if_neg HD.out, hp]
      have HP := Lib.hid hp
      clear hp
      go_enter Tryd.func47, Tryd.ntmps47
      go_wp2_with fail
      refine (text _ _ M.bot_val (HT.out _ (Below.refl _ _))).mono ?_
      rintro e w1 ⟨t, rfl, rfl, hb⟩
      have HB := Lib.hid hb
      clear hb
      obtain ⟨-, ⟨tp, p, hv⟩⟩ := HN.out _ HB.out
      have HV := Lib.hid hv
      clear hv
      go_wp2_with fail
      refine (Go.Proofs.Tryd.strconv_ParseInt_10_at64_range_var s (by omega) HP.out tp p _ (by exact HV.out)).mono ?_
      rintro e w2 ⟨N, rfl, hN, hc, hb2⟩
      have HB2 := Lib.hid (HB.out.trans (hb2.mono HB.out.size))
      clear hc hb2
      go_wp2_with fail
      go_ret2
      exact ⟨digRet (by rw [HR.out]), HB2.out⟩
    | .ok v =>
      have HR : Hid (M.readI s.data.toList = if M.isFin v && decide (Go.Lib.itoa v = s.data.toList) then (v, true) else (0, false)) := by show _ = _; rw [M.readI, if_neg HD.out, hp]
      have HP := Lib.hid hp
      clear hp
      go_enter Tryd.func47, Tryd.ntmps47
      go_wp2_with fail
      refine (text _ _ M.bot_val (HT.out _ (Below.refl _ _))).mono ?_
      rintro e w1 ⟨t, rfl, rfl, hb⟩
      have HB := Lib.hid hb
      clear hb
      go_wp2_with fail
      refine (Go.Proofs.Tryd.strconv_ParseInt_10_at64_ok s (by omega) v HP.out _).mono ?_
      rintro e w2 ⟨rfl, hw⟩
      have HB2 : Hid (Below w.heap.size w w2) := by
        rcases hw with rfl | ⟨t, rfl⟩
        · exact HB.out
        · exact HB.out.trans ((below_bytes w1 5 t).mono HB.out.size)
      clear hw
      by_cases hf : M.isFin v = true
      · have hvb : ¬ v = -1000000000000000 := by have := M.isFin_t hf; omega
        have htx : txt v = Go.Lib.itoa v := by rw [txt, if_neg hvb]
        have HX := Lib.hid htx
        have hvv := M.isVal_of_fin hf
        clear hvb htx
        by_cases he : Go.Lib.itoa v = s.data.toList
        · have hq2 : (txt v == s.toList) = true := by rw [HX.out, ByteArray.toList_eq, he]; simp
          have HE := Lib.hid he
          clear he
          go_wp2_with (go_at_call 62; refine (isFinite _ _).mono ?_; rintro e w' ⟨rfl, rfl⟩)
          refine (text _ _ hvv (HT.out _ HB2.out)).mono ?_
          rintro e w3 ⟨t, rfl, rfl, hb3⟩
          go_wp2_with fail
          go_ret2
          exact ⟨digRet (by rw [HR.out, hf, HE.out]; simp), HB2.out.trans (hb3.mono HB2.out.size)⟩
        · have hq2 : (txt v == s.toList) = false := by rw [HX.out, ByteArray.toList_eq]; simpa using he
          have HE := Lib.hid he
          clear he
          go_wp2_with (go_at_call 62; refine (isFinite _ _).mono ?_; rintro e w' ⟨rfl, rfl⟩)
          refine (text _ _ hvv (HT.out _ HB2.out)).mono ?_
          rintro e w3 ⟨t, rfl, rfl, hb3⟩
          go_wp2_with fail
          go_ret2
          exact ⟨digRet (by rw [HR.out, decide_eq_false HE.out]; simp), HB2.out.trans (hb3.mono HB2.out.size)⟩
      · simp only [Bool.not_eq_true] at hf
        go_wp2_with (go_at_call 62; refine (isFinite _ _).mono ?_; rintro e w' ⟨rfl, rfl⟩)
        go_ret2
        exact ⟨digRet (by rw [HR.out, hf]; simp), HB2.out⟩
end Go.Proofs.YtackennmjmobdaaDoor.V
