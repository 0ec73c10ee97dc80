/- The text of a matrix, in the model. -/
import Derived.Test.YtackennmjmobdaaDoorRows
import Derived.Test.YtackennmjmobdaaDoorMath1
import Derived.Test.YtackennmjmobdaaDoorList
import Derived.Test.YtackennmjmobdaaDoorMatM
import Derived.Test.YtackennmjmobdaaDoorHelp
import Derived.Test.YtackennmjmobdaaDoorRows0
import Derived.Test.YtackennmjmobdaaDoorOwn
import Derived.Test.YtackennmjmobdaaDoorMat0
import Derived.WalkKit
import Derived.ProofKit
import Derived.WalkSmall
import Derived.Deep.QuietTactic
import Derived.BigQuiet
import Derived.BigRegion
import Derived.Deep.Draws
import Derived.Lib.Hide
import Derived.OpenShut
import Derived.Deep.OwnRows
import Derived.Test.YtackennmjmobdaaDoorVals0
import Derived.Test.YtackennmjmobdaaDoorIsMat
import Derived.Test.YtackennmjmobdaaDoorTxt
import Derived.Test.YtackennmjmobdaaDoorTm0
import Derived.Test.YtackennmjmobdaaDoorTm1
namespace Go.Proofs.YtackennmjmobdaaDoor.V
open Go.RowKit

theorem join_snoc (L : List (List UInt8)) (x sep : List UInt8) (h : L ≠ []) : Lib.join (L ++ [x]) sep = Lib.join L sep ++ sep ++ x := by
  cases L with
  | nil => exact absurd rfl h
  | cons y r =>
    rw [List.cons_append, Lib.join_cons, Lib.join_cons, Lib.joinTail, Lib.joinTail, List.map_append, List.flatten_append]
    simp
theorem take_snoc {α : Type} (l : List α) (d : α) (k : Nat) (h : k < l.length) : l.take (k + 1) = l.take k ++ [l.getD k d] := by
  rw [List.take_add_one, List.getElem?_eq_getElem h]
  simp [h]
theorem join_take {α : Type} (f : α → List UInt8) (l : List α) (d : α) (sep : List UInt8) (k : Nat) (h : k < l.length) (h0 : 0 < k) :
    Lib.join ((l.take (k + 1)).map f) sep = Lib.join ((l.take k).map f) sep ++ sep ++ f (l.getD k d) := by
  rw [take_snoc l d k h, List.map_append, List.map_singleton, join_snoc]
  intro e
  have := congrArg List.length e
  simp at this
  rcases this with this | this
  · omega
  · subst this; simp at h
theorem join_take0 {α : Type} (f : α → List UInt8) (l : List α) (d : α) (sep : List UInt8) (h : 0 < l.length) :
    Lib.join ((l.take (0 + 1)).map f) sep = f (l.getD 0 d) := by
  rw [take_snoc l d 0 h]
  simp [Lib.join_one]
theorem app_eq {s t : ByteArray} {l m : List UInt8} (hs : s = ⟨l.toArray⟩) (ht : t = ⟨m.toArray⟩) : s ++ t = ⟨(l ++ m).toArray⟩ := by
  subst hs ht
  exact toArray_eq (by simp [ByteArray.data_append])

set_option maxRecDepth 100000 in
set_option maxHeartbeats 4000000 in
theorem sRow (a : Option Addr) (n cap : Nat) (l : List Int) (w : World) (h : Ints .i64 w a n l) (hn : n ≤ 10) (hv : ∀ j, j < n → M.isVal (l.getD j 0) = true) :
    Calls Tryd.prog 31 #[.slice a n cap] w (TxtPost (rtxt l) w) := by
  have HA := Lib.hid h
  have HV := Lib.hid hv
  have HL := Lib.hid h.1
  clear h hv
  go_enter Tryd.func31, Tryd.ntmps31
  go_wp2
  go_loopw [3, 4] (fun o i wr => ∃ (k : Nat) (s : ByteArray), k ≤ n ∧ i = .int .i64 k ∧ o = .string s ∧ Hid (s = ⟨(Lib.join ((l.take k).map vtxt) [44]).toArray⟩) ∧ s.size ≤ 21 * k ∧ Below w.heap.size w wr) (fun _ i _ => n - (intOf i).toNat)
  case atStart => exact ⟨0, ⟨#[]⟩, Nat.zero_le _, rfl, rfl, rfl, (by decide), Below.refl _ _⟩
  case round =>
    obtain ⟨k, s, hk, rfl, rfl, HS, hsz, hb⟩ := hrel
    have HB := Lib.hid hb
    clear hb
    by_cases hlt : k < n
    · have hki : (k : Int) < (n : Int) := by omega
      have hvk := Lib.hid (HV.out k hlt)
      have hlk : k < l.length := by rw [HL.out]; exact hlt
      obtain ⟨d, od, x, rfl, -, hx, hcx⟩ := (HA.out.below HB.out).at k hlt
      have HX := Lib.hid hx
      clear hx
      have HVX : Hid (M.isVal x = true) := by show _ = _; rw [HX.out]; exact hvk.out
      clear hvk
      by_cases h0 : k = 0
      · subst h0
        rw [Nat.add_zero] at hcx
        go_wp2_with fail
        refine (sText x _ HVX.out).mono ?_
        rintro e w1 ⟨t, rfl, ht, hb1⟩
        have HT : Hid (t = ⟨(vtxt x).toArray⟩) := by show _ = _; rw [ht, vtxt, if_pos HVX.out]
        have htz : t.size ≤ 20 := by rw [HT.out]; have := vtxt_len x; simpa [ByteArray.size] using this
        clear ht
        have HB1 := Lib.hid (bnext HB.out hb1)
        clear hb1
        go_wp2
        go_roundw
        case rel =>
          refine ⟨0 + 1, s ++ t, by omega, by go_num, by first | rfl | trivial, ?_, by rw [ByteArray.size_append]; omega, HB1.out⟩
          show _ = _
          rw [app_eq HS.out HT.out, join_take0 vtxt l 0 [44] hlk, ← HX.out]
          simp [Lib.join_nil]
        case measure => simp [intOf]; omega
      · have h0i : (0 : Int) < (k : Int) := by omega
        have h0n : 0 < k := by omega
        go_wp2_with fail
        refine (sText x _ HVX.out).mono ?_
        rintro e w1 ⟨t, rfl, ht, hb1⟩
        have HT : Hid (t = ⟨(vtxt x).toArray⟩) := by show _ = _; rw [ht, vtxt, if_pos HVX.out]
        have htz : t.size ≤ 20 := by rw [HT.out]; have := vtxt_len x; simpa [ByteArray.size] using this
        clear ht
        have HB1 := Lib.hid (bnext HB.out hb1)
        clear hb1
        go_wp2
        go_roundw
        case rel =>
          refine ⟨k + 1, s ++ ⟨#[44]⟩ ++ t, by omega, by go_num, by first | rfl | trivial, ?_, ?_, HB1.out⟩
          · show _ = _
            rw [app_eq (app_eq HS.out (show (⟨#[44]⟩ : ByteArray) = ⟨([44] : List UInt8).toArray⟩ from rfl)) HT.out, join_take vtxt l 0 [44] k hlk h0n, ← HX.out]
          · rw [ByteArray.size_append, ByteArray.size_append]
            have : (⟨#[44]⟩ : ByteArray).size = 1 := rfl
            omega
        case measure => simp [intOf]; omega
    · obtain rfl : k = n := by omega
      go_wp2
      go_ret
      refine ⟨_, rfl, ?_, HB.out⟩
      have := HS.out
      rw [List.take_of_length_le (by rw [HL.out]; exact Nat.le_refl _)] at this
      exact this

set_option maxRecDepth 100000 in
set_option maxHeartbeats 4000000 in
theorem sMatrixText (a : Option Addr) (n cap : Nat) (R : List (List Int)) (w : World) (h : Mat w a n R) :
    Calls Tryd.prog 12 #[.slice a n cap] w (TxtPost (mtxt R) w) := by
  have HA := Lib.hid h
  by_cases hm : M.isMat R = true
  · have hr := rect_mat hm
    have hln : R.length = n := h.1
    obtain ⟨q1, q2, q3, q4, -, -⟩ := M.isMat_t hm
    rw [hln] at hr q1 q2
    have HR := Lib.hid hr
    obtain ⟨L, hL⟩ : ∃ L, L = M.wid R := ⟨_, rfl⟩
    rw [← hL] at HR q3 q4
    have HV : Hid (∀ i j, i < R.length → j < L → M.isVal ((R.getD i []).getD j 0) = true) := fun i j hi hj => M.isMat_val hm hi (by rw [← hL]; exact hj)
    have HM := Lib.hid hm
    have HLN := Lib.hid hln
    obtain ⟨b, off, -, -, rfl, -, -⟩ := h.rect_first HR.out (by omega)
    clear h hr hm hL hln
    go_enter Tryd.func12, Tryd.ntmps12
    go_wp2_with (go_at_call 30; refine (sIsMatrixB_b _ _ _ _ _ _ HM.out HA.out).mono ?_; rintro e wm ⟨rfl, hbm⟩)
    have HBm := Lib.hid hbm
    clear hbm
    go_loopw [3, 4] (fun o i wr => ∃ (k : Nat) (s : ByteArray), k ≤ n ∧ i = .int .i64 k ∧ o = .string s ∧ Hid (s = ⟨(Lib.join ((R.take k).map rtxt) [59]).toArray⟩) ∧ s.size ≤ 211 * k ∧ Below w.heap.size w wr) (fun _ i _ => n - (intOf i).toNat)
    case atStart => exact ⟨0, ⟨#[]⟩, Nat.zero_le _, rfl, rfl, rfl, (by decide), HBm.out⟩
    case round =>
      obtain ⟨k, s, hk, rfl, rfl, HS, hsz, hb⟩ := hrel
      have HB := Lib.hid hb
      clear hb
      by_cases hlt : k < n
      · have hki : (k : Int) < (n : Int) := by omega
        have hlk : k < R.length := by rw [HLN.out]; exact hlt
        obtain ⟨d, od, rr, rcr, hdd, hbr, hcr, hIr⟩ := (HA.out.below HB.out).rect_at HR.out k hlt
        injection hdd with hdd
        injection hdd with e1 e2
        subst e1 e2
        obtain ⟨l, hl⟩ : ∃ l, l = R.getD k [] := ⟨_, rfl⟩
        rw [← hl] at hIr
        have HVL : Hid (∀ j, j < L → M.isVal (l.getD j 0) = true) := fun j hj => by rw [hl]; exact HV.out k j hlk hj
        have HLL : Hid (l.length = L) := hIr.1
        have HL := Lib.hid hl
        have HIR := Lib.hid hIr
        clear hIr hl
        by_cases h0 : k = 0
        · subst h0
          rw [Nat.add_zero] at hcr
          go_wp2_with fail
          refine (sRow _ _ _ _ _ HIR.out (by omega) HVL.out).mono ?_
          rintro e w1 ⟨t, rfl, ht, hb1⟩
          have HT := Lib.hid ht
          have htz : t.size ≤ 210 := by
            rw [ht]; have := rtxt_len l; rw [HLL.out] at this
            have e : (⟨(rtxt l).toArray⟩ : ByteArray).size = (rtxt l).length := by simp [ByteArray.size]
            omega
          clear ht
          have HB1 := Lib.hid (bnext HB.out hb1)
          clear hb1
          go_wp2
          go_roundw
          case rel =>
            refine ⟨0 + 1, s ++ t, by omega, by go_num, by first | rfl | trivial, ?_, by rw [ByteArray.size_append]; omega, HB1.out⟩
            show _ = _
            rw [app_eq HS.out HT.out, join_take0 rtxt R [] [59] hlk, ← HL.out]
            simp [Lib.join_nil]
          case measure => simp [intOf]; omega
        · have h0i : (0 : Int) < (k : Int) := by omega
          have h0n : 0 < k := by omega
          go_wp2_with fail
          refine (sRow _ _ _ _ _ HIR.out (by omega) HVL.out).mono ?_
          rintro e w1 ⟨t, rfl, ht, hb1⟩
          have HT := Lib.hid ht
          have htz : t.size ≤ 210 := by
            rw [ht]; have := rtxt_len l; rw [HLL.out] at this
            have e : (⟨(rtxt l).toArray⟩ : ByteArray).size = (rtxt l).length := by simp [ByteArray.size]
            omega
          clear ht
          have HB1 := Lib.hid (bnext HB.out hb1)
          clear hb1
          go_wp2
          go_roundw
          case rel =>
            refine ⟨k + 1, s ++ ⟨#[59]⟩ ++ t, by omega, by go_num, by first | rfl | trivial, ?_, ?_, HB1.out⟩
            · show _ = _
              rw [app_eq (app_eq HS.out (show (⟨#[59]⟩ : ByteArray) = ⟨([59] : List UInt8).toArray⟩ from rfl)) HT.out, join_take rtxt R [] [59] k hlk h0n, ← HL.out]
            · rw [ByteArray.size_append, ByteArray.size_append]
              have : (⟨#[59]⟩ : ByteArray).size = 1 := rfl
              omega
          case measure => simp [intOf]; omega
      · obtain rfl : k = n := by omega
        go_wp2
        go_ret
        refine ⟨_, rfl, ?_, HB.out⟩
        have := HS.out
        rw [List.take_of_length_le (by rw [HLN.out]; exact Nat.le_refl _)] at this
        rw [mtxt, if_pos HM.out]
        exact this
  · simp only [Bool.not_eq_true] at hm
    have HM := Lib.hid hm
    clear h hm
    go_enter Tryd.func12, Tryd.ntmps12
    go_wp2_with (go_at_call 30; refine (sIsMatrixB_b _ _ _ _ _ _ HM.out HA.out).mono ?_; rintro e wm ⟨rfl, hbm⟩)
    go_ret
    exact ⟨_, rfl, by rw [mtxt, if_neg (by rw [HM.out]; exact Bool.false_ne_true)], hbm⟩
end Go.Proofs.YtackennmjmobdaaDoor.V
