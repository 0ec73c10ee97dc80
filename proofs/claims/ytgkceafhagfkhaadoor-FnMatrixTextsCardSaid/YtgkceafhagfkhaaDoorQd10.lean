/- Texts laid together: Rv, Tm1, Tm2, SplC. -/
import Derived.Test.YtgkceafhagfkhaaDoorRows
import Derived.Test.YtgkceafhagfkhaaDoorQd1
import Derived.Test.YtgkceafhagfkhaaDoorQd2
import Derived.Test.YtgkceafhagfkhaaDoorQd3
import Derived.Test.YtgkceafhagfkhaaDoorQd9
import Derived.WalkKit
import Derived.ProofKit
import Derived.WalkSmall
import Derived.Deep.QuietTactic
import Derived.BigQuiet
import Derived.Deep.Draws
import Derived.Lib.Hide
import Derived.Lib.IndexBytes
import Derived.Lib.SmallJoins
import Derived.Test.YtgkceafhagfkhaaDoorQd4
import Derived.Test.YtgkceafhagfkhaaDoorQd5
import Derived.BigRegion
import Derived.OpenShut
import Derived.Deep.OwnRows
import Derived.Test.YtgkceafhagfkhaaDoorQd7
import Derived.Shelf.LaysM
import Derived.Shelf.Strings.SplitShaped
import Derived.Test.YtgkceafhagfkhaaDoorProg
set_option linter.unusedSimpArgs false
set_option linter.unusedVariables false
set_option linter.unusedSectionVars false
namespace Go.Proofs.YtgkceafhagfkhaaDoor.V
open Go.RowKit

set_option maxRecDepth 100000 in
set_option maxHeartbeats 1000000 in
set_option maxRecDepth 100000 in
theorem sReadValue (s : ByteArray) (w : World) (hs : s.size ≤ maxLen) : Calls Tryd.prog 48 #[.string s] w (DigPost (M.readM s.data.toList) w) := by
  have HM := Lib.hid hs
  clear hs
  by_cases hd : s.data.toList = [46]
  · have hq : (s.toList == [46]) = true := by rw [ByteArray.toList_eq, hd]; rfl
    have HR : Hid (M.readM s.data.toList = (-1000000000000000, true)) := by show _ = _; rw [M.readM, if_pos hd]
    clear hd
    go_enter Tryd.func48, Tryd.ntmps48
    go_wp2_with fail
    go_ret2
    exact ⟨digRet (by rw [HR.out]), Below.refl _ _⟩
  · have hq : (s.toList == [46]) = false := by rw [ByteArray.toList_eq]; simpa using hd
    have HR : Hid (M.readM s.data.toList = if (M.sgnM s.data.toList).2 && M.isFin (M.sgnM s.data.toList).1 then ((M.sgnM s.data.toList).1, true) else (0, false)) := by show _ = _; rw [M.readM, if_neg hd]
    clear hd
    go_enter Tryd.func48, Tryd.ntmps48
    go_wp2_with fail
    have hd := sSigned s w HM.out
    obtain ⟨D, hD⟩ : ∃ D, D = M.sgnM s.data.toList := ⟨_, rfl⟩
    rw [← hD] at hd
    have HR2 : Hid (M.readM s.data.toList = if D.2 && M.isFin D.1 then (D.1, true) else (0, false)) := by show _ = _; rw [hD]; exact HR.out
    obtain ⟨n, ok⟩ := D
    clear hD HR
    refine hd.mono ?_
    rintro e w1 ⟨rfl, hb⟩
    clear hd
    cases ok
    · go_wp2_with fail
      go_ret2
      exact ⟨digRet (by rw [HR2.out]; rfl), hb⟩
    · by_cases hf : M.isFin n = true
      · go_wp2_with (go_at_call 65; refine (sFinite _ _).mono ?_; rintro e w' ⟨rfl, rfl⟩)
        go_ret2
        exact ⟨digRet (by rw [HR2.out]; simp [hf]), hb⟩
      · simp only [Bool.not_eq_true] at hf
        go_wp2_with (go_at_call 65; refine (sFinite _ _).mono ?_; rintro e w' ⟨rfl, rfl⟩)
        go_ret2
        exact ⟨digRet (by rw [HR2.out]; simp [hf]), hb⟩

theorem below_bytes (w : World) (e : TypeId) (t : ByteArray) : Below w.heap.size w (Lib.bytesWorld w e t) := Go.Joins.below_bytesWorld _ _ _ _ (Nat.le_refl _)

/-- The two sentinels that ParseInt hands on. -/
def Sent (w : World) : Prop := (∃ tp p, w.var? Tryd.prog "strconv.ErrSyntax" = some #[.iface tp p]) ∧ (∃ tp p, w.var? Tryd.prog "strconv.ErrRange" = some #[.iface tp p])

set_option maxRecDepth 100000 in
set_option maxHeartbeats 1000000 in
set_option maxRecDepth 100000 in
theorem readValue (s : ByteArray) (w : World) (hs : s.size ≤ 1048576) (htab : ∀ w', Below w.heap.size w w' → Lib.TabIs Tryd.prog w' "internal/strconv.uint64pow10" .u64 Lib.pow10Tab) (hsent : ∀ w', Below w.heap.size w w' → Sent w') :
    Calls Tryd.prog 47 #[.string s] w (DigPost (M.readI s.data.toList) w) := by
  have HT := Lib.hid htab
  have HN := Lib.hid hsent
  clear htab hsent
  by_cases hd : s.data.toList = [46]
  · have hq : (s.toList == txt (-1000000000000000)) = true := by rw [ByteArray.toList_eq, hd]; rfl
    have HR : Hid (M.readI s.data.toList = (-1000000000000000, true)) := by show _ = _; rw [M.readI, if_pos hd]
    clear hd
    go_enter Tryd.func47, Tryd.ntmps47
    go_wp2_with fail
    refine (text _ _ M.bot_val (HT.out _ (Below.refl _ _))).mono ?_
    rintro e w1 ⟨t, rfl, rfl, hb⟩
    have HB := Lib.hid hb
    clear hb
    go_wp2_with fail
    go_ret2
    exact ⟨digRet (by rw [HR.out]), HB.out⟩
  · have hq : (s.toList == txt (-1000000000000000)) = false := by
      rw [ByteArray.toList_eq]
      show (s.data.toList == [46]) = false
      simpa using hd
    have HD := Lib.hid hd
    clear hd
    match hp : Lib.parseIntB 64 s.data.toList with
    | .syntax =>
      have HR : Hid (M.readI s.data.toList = (0, false)) := by show _ = _; rw [M.readI, if_neg HD.out, hp]
      have HP := Lib.hid hp
      clear hp
      go_enter Tryd.func47, Tryd.ntmps47
      go_wp2_with fail
      refine (text _ _ M.bot_val (HT.out _ (Below.refl _ _))).mono ?_
      rintro e w1 ⟨t, rfl, rfl, hb⟩
      have HB := Lib.hid hb
      clear hb
      obtain ⟨⟨tp, p, hv⟩, -⟩ := HN.out _ HB.out
      have HV := Lib.hid hv
      clear hv
      go_wp2_with fail
      refine (Go.Proofs.Tryd.strconv_ParseInt_10_at64_syntax_var s (by omega) HP.out tp p _ (by exact HV.out)).mono ?_
      rintro e w2 ⟨N, rfl, hN, hc, hb2⟩
      have HB2 := Lib.hid (HB.out.trans (hb2.mono HB.out.size))
      clear hc hb2
      go_wp2_with fail
      go_ret2
      exact ⟨digRet (by rw [HR.out]), HB2.out⟩
    | .range =>
      have HR : Hid (M.readI s.data.toList = (0, false)) := by show _ = _; rw [M.readI, if_neg HD.out, hp]
      have HP := Lib.hid hp
      clear hp
      go_enter Tryd.func47, Tryd.ntmps47
      go_wp2_with fail
      refine (text _ _ M.bot_val (HT.out _ (Below.refl _ _))).mono ?_
      rintro e w1 ⟨t, rfl, rfl, hb⟩
      have HB := Lib.hid hb
      clear hb
      obtain ⟨-, ⟨tp, p, hv⟩⟩ := HN.out _ HB.out
      have HV := Lib.hid hv
      clear hv
      go_wp2_with fail
      refine (Go.Proofs.Tryd.strconv_ParseInt_10_at64_range_var s (by omega) HP.out tp p _ (by exact HV.out)).mono ?_
      rintro e w2 ⟨N, rfl, hN, hc, hb2⟩
      have HB2 := Lib.hid (HB.out.trans (hb2.mono HB.out.size))
      clear hc hb2
      go_wp2_with fail
      go_ret2
      exact ⟨digRet (by rw [HR.out]), HB2.out⟩
    | .ok v =>
      have HR : Hid (M.readI s.data.toList = if M.isFin v && decide (Go.Lib.itoa v = s.data.toList) then (v, true) else (0, false)) := by show _ = _; rw [M.readI, if_neg HD.out, hp]
      have HP := Lib.hid hp
      clear hp
      go_enter Tryd.func47, Tryd.ntmps47
      go_wp2_with fail
      refine (text _ _ M.bot_val (HT.out _ (Below.refl _ _))).mono ?_
      rintro e w1 ⟨t, rfl, rfl, hb⟩
      have HB := Lib.hid hb
      clear hb
      go_wp2_with fail
      refine (Go.Proofs.Tryd.strconv_ParseInt_10_at64_ok s (by omega) v HP.out _).mono ?_
      rintro e w2 ⟨rfl, hw⟩
      have HB2 : Hid (Below w.heap.size w w2) := by
        rcases hw with rfl | ⟨t, rfl⟩
        · exact HB.out
        · exact HB.out.trans ((below_bytes w1 5 t).mono HB.out.size)
      clear hw
      by_cases hf : M.isFin v = true
      · have hvb : ¬ v = -1000000000000000 := by have := M.isFin_t hf; omega
        have htx : txt v = Go.Lib.itoa v := by rw [txt, if_neg hvb]
        have HX := Lib.hid htx
        have hvv := M.isVal_of_fin hf
        clear hvb htx
        by_cases he : Go.Lib.itoa v = s.data.toList
        · have hq2 : (txt v == s.toList) = true := by rw [HX.out, ByteArray.toList_eq, he]; simp
          have HE := Lib.hid he
          clear he
          go_wp2_with (go_at_call 63; refine (isFinite _ _).mono ?_; rintro e w' ⟨rfl, rfl⟩)
          refine (text _ _ hvv (HT.out _ HB2.out)).mono ?_
          rintro e w3 ⟨t, rfl, rfl, hb3⟩
          go_wp2_with fail
          go_ret2
          exact ⟨digRet (by rw [HR.out, hf, HE.out]; simp), HB2.out.trans (hb3.mono HB2.out.size)⟩
        · have hq2 : (txt v == s.toList) = false := by rw [HX.out, ByteArray.toList_eq]; simpa using he
          have HE := Lib.hid he
          clear he
          go_wp2_with (go_at_call 63; refine (isFinite _ _).mono ?_; rintro e w' ⟨rfl, rfl⟩)
          refine (text _ _ hvv (HT.out _ HB2.out)).mono ?_
          rintro e w3 ⟨t, rfl, rfl, hb3⟩
          go_wp2_with fail
          go_ret2
          exact ⟨digRet (by rw [HR.out, decide_eq_false HE.out]; simp), HB2.out.trans (hb3.mono HB2.out.size)⟩
      · simp only [Bool.not_eq_true] at hf
        go_wp2_with (go_at_call 63; refine (isFinite _ _).mono ?_; rintro e w' ⟨rfl, rfl⟩)
        go_ret2
        exact ⟨digRet (by rw [HR.out, hf]; simp), HB2.out⟩
end Go.Proofs.YtgkceafhagfkhaaDoor.V

namespace Go.Proofs.YtgkceafhagfkhaaDoor.V
open Go.RowKit

/-- The text of a row, and of a matrix. -/
def rtxt (l : List Int) : List UInt8 := Lib.join (l.map vtxt) [44]
def mtxt (R : List (List Int)) : List UInt8 := if M.isMat R then Lib.join (R.map rtxt) [59] else []
theorem rtxt_len (l : List Int) : (rtxt l).length ≤ 21 * l.length := by
  have := joinT_len (l.map vtxt) [44] 20 (fun x hx => by
    obtain ⟨a, _, rfl⟩ := List.mem_map.1 hx
    exact vtxt_len a)
  simpa [rtxt] using this
theorem range_map_getD {α β : Type} (l : List α) (d : α) (f : α → β) : (List.range l.length).map (fun j => f (l.getD j d)) = l.map f := by
  apply List.ext_getElem
  · simp
  · intro i h1 h2
    simp only [List.length_map, List.length_range] at h1
    simp [h1]

set_option maxRecDepth 100000 in
set_option maxHeartbeats 4000000 in
theorem matrixText (a : Option Addr) (n cap : Nat) (R : List (List Int)) (w : World) (h : Mat w a n R) (htab : ∀ W, Below w.heap.size w W → Lib.TabIs Tryd.prog W "internal/strconv.uint64pow10" .u64 Lib.pow10Tab) :
    Calls Tryd.prog 8 #[.slice a n cap] w (TxtPost (mtxt R) w) := by
  have HA := Lib.hid h
  have HT := Lib.hid htab
  clear htab
  by_cases hm : M.isMat R = true
  · have hr := rect_mat hm
    have hln : R.length = n := h.1
    obtain ⟨q1, q2, q3, q4, -, -⟩ := M.isMat_t hm
    rw [hln] at hr q1 q2
    have HR := Lib.hid hr
    obtain ⟨L, hL⟩ : ∃ L, L = M.wid R := ⟨_, rfl⟩
    rw [← hL] at HR q3 q4
    have HM := Lib.hid hm
    have HLN := Lib.hid hln
    obtain ⟨b, off, -, -, rfl, -, -⟩ := h.rect_first HR.out (by omega)
    have hmk := run_make_row' (P := Tryd.prog) 38 9 (.string ⟨#[]⟩) 16 Tryd.underlying38 infoT rfl .i64 .i64 n (by omega) (by omega)
    have hmk2 := run_make_row' (P := Tryd.prog) 38 9 (.string ⟨#[]⟩) 16 Tryd.underlying38 infoT rfl .i64 .i64 L (by omega) (by omega)
    have hO0 : Hid (OwnT (w.alloc (.cells (madeCells #[.string ⟨#[]⟩] n) 9)) w.heap.size (.slice (some ⟨w.heap.size, 0, none⟩) n n) (fillT (fun i => rtxt (R.getD i [])) n 0)) := by
      rw [fillT_zero]; exact ownT_made w _ n (Nat.le_refl _) (by unfold maxLen; omega)
    have HB0 : Hid (Below w.heap.size w (w.alloc (.cells (madeCells #[.string ⟨#[]⟩] n) 9))) := b_alloc w _
    clear h hr hm hL hln
    go_enter Tryd.func8, Tryd.ntmps8
    go_wp2_with (go_at_call 21; refine (isMatrix_b _ _ _ _ _ _ HM.out HA.out).mono ?_; rintro e w' ⟨rfl, rfl⟩)
    go_loopw [4, 5, 6, 7, 8, 17] (fun _ _ _ _ _ i wr => ∃ k : Nat, k ≤ n ∧ i = .int .i64 k ∧ OwnT wr w.heap.size (.slice (some ⟨w.heap.size, 0, none⟩) n n) (fillT (fun i => rtxt (R.getD i [])) n k) ∧ Below w.heap.size w wr) (fun _ _ _ _ _ i _ => n - (intOf i).toNat)
    case atStart => exact ⟨0, Nat.zero_le _, rfl, hO0.out, HB0.out⟩
    case round =>
      obtain ⟨k, hk, rfl, hO, hb⟩ := hrel
      obtain ⟨wo, rfl⟩ : ∃ x, x = wr := ⟨_, rfl⟩
      have HO := Lib.hid hO
      have HB := Lib.hid hb
      clear hO hb hO0 HB0
      by_cases hlt : k < n
      · have hki : (k : Int) < (n : Int) := by omega
        obtain ⟨d, od, rr, rcr, hdd, hbr, hcr, hIr⟩ := (HA.out.below HB.out).rect_at HR.out k hlt
        injection hdd with hdd
        injection hdd with e1 e2
        subst e1 e2
        obtain ⟨l, hl⟩ : ∃ l, l = R.getD k [] := ⟨_, rfl⟩
        rw [← hl] at hIr
        have HL := Lib.hid hl
        clear hl
        have hll : l.length = L := hIr.1
        have HLL := Lib.hid hll
        clear hll
        obtain ⟨rb, ro, -, rfl, -, -, -⟩ := hIr.at 0 (by omega)
        have HIR := Lib.hid hIr
        clear hIr
        have hI0 : Hid (OwnT (wo.alloc (.cells (madeCells #[.string ⟨#[]⟩] L) 9)) wo.heap.size (.slice (some ⟨wo.heap.size, 0, none⟩) L L) (fillT (fun j => vtxt (l.getD j 0)) L 0)) := by
          rw [fillT_zero]; exact ownT_made wo _ L (Nat.le_refl _) (by unfold maxLen; omega)
        have HI0 : Hid (Below wo.heap.size wo (wo.alloc (.cells (madeCells #[.string ⟨#[]⟩] L) 9))) := b_alloc wo _
        go_wp2
        go_loopw [7, 8, 27] (fun _ _ j wr => ∃ t : Nat, t ≤ L ∧ j = .int .i64 t ∧ OwnT wr wo.heap.size (.slice (some ⟨wo.heap.size, 0, none⟩) L L) (fillT (fun j => vtxt (l.getD j 0)) L t) ∧ Below wo.heap.size wo wr) (fun _ _ j _ => L - (intOf j).toNat)
        case atStart => exact ⟨0, Nat.zero_le _, rfl, hI0.out, HI0.out⟩
        case round =>
          obtain ⟨t, ht, rfl, hO, hb⟩ := hrel
          have HOi := Lib.hid hO
          have HBi := Lib.hid hb
          clear hO hb hI0 HI0
          by_cases htl : t < L
          · have hti : (t : Int) < (L : Int) := by omega
            obtain ⟨d2, od2, x, hdd2, -, hx, hcx⟩ := (HIR.out.below HBi.out).at t htl
            injection hdd2 with hdd2
            injection hdd2 with e1 e2
            subst e1 e2
            have HX := Lib.hid hx
            clear hx
            go_wp2_with fail
            refine (valueText x _ (HT.out _ (bnext HB.out HBi.out))).mono ?_
            rintro e w1 ⟨s, rfl, hs, hb1⟩
            have HS := Lib.hid hs
            clear hs
            have HB1 := Lib.hid hb1
            have HO1 := Lib.hid (HOi.out.below hb1)
            clear hb1
            have hc1 := HO1.out.cellAt t htl
            have hf1 := HO1.out.frozenAt t
            have HN : Hid (OwnT (w1.setCell ⟨wo.heap.size, t, none⟩ (.string s)) wo.heap.size (.slice (some ⟨wo.heap.size, 0, none⟩) L L) (fillT (fun j => vtxt (l.getD j 0)) L (t + 1))) := by
              have := HO1.out.set t (vtxt x)
              rw [HX.out, fillT_set (fun j => vtxt (l.getD j 0))] at this
              rw [HS.out, HX.out]
              exact this
            go_wp2
            go_roundw
            case rel => exact ⟨t + 1, by omega, by go_num, HN.out, (bnext HBi.out HB1.out).setCell (Nat.le_refl _) _⟩
            case measure => simp [intOf]; omega
          · obtain rfl : t = L := by omega
            have hO2 := HOi.out
            rw [fillT_all] at hO2
            have HO2 := Lib.hid hO2
            clear hO2
            have hj : Lib.join ((List.range t).map fun j => vtxt (l.getD j 0)) [44] = rtxt l := by
              rw [← HLL.out, range_map_getD]; rfl
            have HJ := Lib.hid hj
            clear hj
            have hjl := rtxt_len l
            rw [HLL.out] at hjl
            go_wp2_with fail
            refine (joinT _ _ _ _ _ _ [44] HO2.out (Nat.le_refl _) (by omega) (by rw [HJ.out]; omega)).mono ?_
            rintro e w1 ⟨s, rfl, hs, hb1⟩
            rw [HJ.out] at hs
            have HS := Lib.hid hs
            clear hs
            have HB1 := Lib.hid (bnext HBi.out hb1)
            clear hb1
            have HO1 := Lib.hid (HO.out.below HB1.out)
            have hc1 := HO1.out.cellAt k hlt
            have hf1 := HO1.out.frozenAt k
            have HN : Hid (OwnT (w1.setCell ⟨w.heap.size, k, none⟩ (.string s)) w.heap.size (.slice (some ⟨w.heap.size, 0, none⟩) n n) (fillT (fun i => rtxt (R.getD i [])) n (k + 1))) := by
              have := HO1.out.set k (rtxt l)
              rw [HL.out, fillT_set (fun i => rtxt (R.getD i []))] at this
              rw [HS.out, HL.out]
              exact this
            go_wp2
            go_roundw
            case rel => exact ⟨k + 1, by omega, by go_num, HN.out, (bnext HB.out HB1.out).setCell (Nat.le_refl _) _⟩
            case measure => simp [intOf]; omega
      · obtain rfl : k = n := by omega
        have hO2 := HO.out
        rw [fillT_all] at hO2
        have HO2 := Lib.hid hO2
        clear hO2
        have hj : Lib.join ((List.range k).map fun i => rtxt (R.getD i [])) [59] = mtxt R := by
          rw [← HLN.out, range_map_getD, mtxt, if_pos HM.out]
        have HJ := Lib.hid hj
        clear hj
        have hjl : (Lib.join ((List.range k).map fun i => rtxt (R.getD i [])) [59]).length ≤ 211 * k := by
          have := joinT_len ((List.range k).map fun i => rtxt (R.getD i [])) [59] 210 (fun x hx => by
            obtain ⟨i, hi, rfl⟩ := List.mem_map.1 hx
            have h1 := rtxt_len (R.getD i [])
            rw [HR.out.2 i (List.mem_range.1 hi)] at h1
            omega)
          simpa using this
        have HJL := Lib.hid hjl
        clear hjl
        go_wp2_with fail
        refine (joinT _ _ _ _ _ _ [59] HO2.out (Nat.le_refl _) (by omega) (by have := HJL.out; omega)).mono ?_
        rintro e w1 ⟨s, rfl, hs, hb1⟩
        rw [HJ.out] at hs
        have HS := Lib.hid hs
        clear hs
        have HB1 := Lib.hid (bnext HB.out hb1)
        clear hb1
        go_wp2
        go_ret
        exact ⟨_, rfl, HS.out, HB1.out⟩
  · simp only [Bool.not_eq_true] at hm
    have HM := Lib.hid hm
    clear h hm
    go_enter Tryd.func8, Tryd.ntmps8
    go_wp2_with (go_at_call 21; refine (isMatrix_b _ _ _ _ _ _ HM.out HA.out).mono ?_; rintro e w' ⟨rfl, rfl⟩)
    go_ret
    exact ⟨_, rfl, by rw [mtxt, if_neg (by rw [HM.out]; exact Bool.false_ne_true)], Below.refl _ _⟩
end Go.Proofs.YtgkceafhagfkhaaDoor.V

namespace Go.Proofs.YtgkceafhagfkhaaDoor.V
open Go.RowKit

theorem join_snoc (L : List (List UInt8)) (x sep : List UInt8) (h : L ≠ []) : Lib.join (L ++ [x]) sep = Lib.join L sep ++ sep ++ x := by
  cases L with
  | nil => exact absurd rfl h
  | cons y r =>
    rw [List.cons_append, Lib.join_cons, Lib.join_cons, Lib.joinTail, Lib.joinTail, List.map_append, List.flatten_append]
    simp
theorem take_snoc {α : Type} (l : List α) (d : α) (k : Nat) (h : k < l.length) : l.take (k + 1) = l.take k ++ [l.getD k d] := by
  rw [List.take_add_one, List.getElem?_eq_getElem h]
  simp [h]
theorem join_take {α : Type} (f : α → List UInt8) (l : List α) (d : α) (sep : List UInt8) (k : Nat) (h : k < l.length) (h0 : 0 < k) :
    Lib.join ((l.take (k + 1)).map f) sep = Lib.join ((l.take k).map f) sep ++ sep ++ f (l.getD k d) := by
  rw [take_snoc l d k h, List.map_append, List.map_singleton, join_snoc]
  intro e
  have := congrArg List.length e
  simp at this
  rcases this with this | this
  · omega
  · subst this; simp at h
theorem join_take0 {α : Type} (f : α → List UInt8) (l : List α) (d : α) (sep : List UInt8) (h : 0 < l.length) :
    Lib.join ((l.take (0 + 1)).map f) sep = f (l.getD 0 d) := by
  rw [take_snoc l d 0 h]
  simp [Lib.join_one]
theorem app_eq {s t : ByteArray} {l m : List UInt8} (hs : s = ⟨l.toArray⟩) (ht : t = ⟨m.toArray⟩) : s ++ t = ⟨(l ++ m).toArray⟩ := by
  subst hs ht
  exact toArray_eq (by simp [ByteArray.data_append])

set_option maxRecDepth 100000 in
set_option maxHeartbeats 4000000 in
theorem sRow (a : Option Addr) (n cap : Nat) (l : List Int) (w : World) (h : Ints .i64 w a n l) (hn : n ≤ 10) (hv : ∀ j, j < n → M.isVal (l.getD j 0) = true) :
    Calls Tryd.prog 31 #[.slice a n cap] w (TxtPost (rtxt l) w) := by
  have HA := Lib.hid h
  have HV := Lib.hid hv
  have HL := Lib.hid h.1
  clear h hv
  go_enter Tryd.func31, Tryd.ntmps31
  go_wp2
  go_loopw [3, 4] (fun o i wr => ∃ (k : Nat) (s : ByteArray), k ≤ n ∧ i = .int .i64 k ∧ o = .string s ∧ Hid (s = ⟨(Lib.join ((l.take k).map vtxt) [44]).toArray⟩) ∧ s.size ≤ 21 * k ∧ Below w.heap.size w wr) (fun _ i _ => n - (intOf i).toNat)
  case atStart => exact ⟨0, ⟨#[]⟩, Nat.zero_le _, rfl, rfl, rfl, (by decide), Below.refl _ _⟩
  case round =>
    obtain ⟨k, s, hk, rfl, rfl, HS, hsz, hb⟩ := hrel
    have HB := Lib.hid hb
    clear hb
    by_cases hlt : k < n
    · have hki : (k : Int) < (n : Int) := by omega
      have hvk := Lib.hid (HV.out k hlt)
      have hlk : k < l.length := by rw [HL.out]; exact hlt
      obtain ⟨d, od, x, rfl, -, hx, hcx⟩ := (HA.out.below HB.out).at k hlt
      have HX := Lib.hid hx
      clear hx
      have HVX : Hid (M.isVal x = true) := by show _ = _; rw [HX.out]; exact hvk.out
      clear hvk
      by_cases h0 : k = 0
      · subst h0
        rw [Nat.add_zero] at hcx
        go_wp2_with fail
        refine (sText x _ HVX.out).mono ?_
        rintro e w1 ⟨t, rfl, ht, hb1⟩
        have HT : Hid (t = ⟨(vtxt x).toArray⟩) := by show _ = _; rw [ht, vtxt, if_pos HVX.out]
        have htz : t.size ≤ 20 := by rw [HT.out]; have := vtxt_len x; simpa [ByteArray.size] using this
        clear ht
        have HB1 := Lib.hid (bnext HB.out hb1)
        clear hb1
        go_wp2
        go_roundw
        case rel =>
          refine ⟨0 + 1, s ++ t, by omega, by go_num, by first | rfl | trivial, ?_, by rw [ByteArray.size_append]; omega, HB1.out⟩
          show _ = _
          rw [app_eq HS.out HT.out, join_take0 vtxt l 0 [44] hlk, ← HX.out]
          simp [Lib.join_nil]
        case measure => simp [intOf]; omega
      · have h0i : (0 : Int) < (k : Int) := by omega
        have h0n : 0 < k := by omega
        go_wp2_with fail
        refine (sText x _ HVX.out).mono ?_
        rintro e w1 ⟨t, rfl, ht, hb1⟩
        have HT : Hid (t = ⟨(vtxt x).toArray⟩) := by show _ = _; rw [ht, vtxt, if_pos HVX.out]
        have htz : t.size ≤ 20 := by rw [HT.out]; have := vtxt_len x; simpa [ByteArray.size] using this
        clear ht
        have HB1 := Lib.hid (bnext HB.out hb1)
        clear hb1
        go_wp2
        go_roundw
        case rel =>
          refine ⟨k + 1, s ++ ⟨#[44]⟩ ++ t, by omega, by go_num, by first | rfl | trivial, ?_, ?_, HB1.out⟩
          · show _ = _
            rw [app_eq (app_eq HS.out (show (⟨#[44]⟩ : ByteArray) = ⟨([44] : List UInt8).toArray⟩ from rfl)) HT.out, join_take vtxt l 0 [44] k hlk h0n, ← HX.out]
          · rw [ByteArray.size_append, ByteArray.size_append]
            have : (⟨#[44]⟩ : ByteArray).size = 1 := rfl
            omega
        case measure => simp [intOf]; omega
    · obtain rfl : k = n := by omega
      go_wp2
      go_ret
      refine ⟨_, rfl, ?_, HB.out⟩
      have := HS.out
      rw [List.take_of_length_le (by rw [HL.out]; exact Nat.le_refl _)] at this
      exact this

set_option maxRecDepth 100000 in
set_option maxHeartbeats 4000000 in
theorem sMatrixText (a : Option Addr) (n cap : Nat) (R : List (List Int)) (w : World) (h : Mat w a n R) :
    Calls Tryd.prog 12 #[.slice a n cap] w (TxtPost (mtxt R) w) := by
  have HA := Lib.hid h
  by_cases hm : M.isMat R = true
  · have hr := rect_mat hm
    have hln : R.length = n := h.1
    obtain ⟨q1, q2, q3, q4, -, -⟩ := M.isMat_t hm
    rw [hln] at hr q1 q2
    have HR := Lib.hid hr
    obtain ⟨L, hL⟩ : ∃ L, L = M.wid R := ⟨_, rfl⟩
    rw [← hL] at HR q3 q4
    have HV : Hid (∀ i j, i < R.length → j < L → M.isVal ((R.getD i []).getD j 0) = true) := fun i j hi hj => M.isMat_val hm hi (by rw [← hL]; exact hj)
    have HM := Lib.hid hm
    have HLN := Lib.hid hln
    obtain ⟨b, off, -, -, rfl, -, -⟩ := h.rect_first HR.out (by omega)
    clear h hr hm hL hln
    go_enter Tryd.func12, Tryd.ntmps12
    go_wp2_with (go_at_call 30; refine (sIsMatrixB_b _ _ _ _ _ _ HM.out HA.out).mono ?_; rintro e wm ⟨rfl, hbm⟩)
    have HBm := Lib.hid hbm
    clear hbm
    go_loopw [3, 4] (fun o i wr => ∃ (k : Nat) (s : ByteArray), k ≤ n ∧ i = .int .i64 k ∧ o = .string s ∧ Hid (s = ⟨(Lib.join ((R.take k).map rtxt) [59]).toArray⟩) ∧ s.size ≤ 211 * k ∧ Below w.heap.size w wr) (fun _ i _ => n - (intOf i).toNat)
    case atStart => exact ⟨0, ⟨#[]⟩, Nat.zero_le _, rfl, rfl, rfl, (by decide), HBm.out⟩
    case round =>
      obtain ⟨k, s, hk, rfl, rfl, HS, hsz, hb⟩ := hrel
      have HB := Lib.hid hb
      clear hb
      by_cases hlt : k < n
      · have hki : (k : Int) < (n : Int) := by omega
        have hlk : k < R.length := by rw [HLN.out]; exact hlt
        obtain ⟨d, od, rr, rcr, hdd, hbr, hcr, hIr⟩ := (HA.out.below HB.out).rect_at HR.out k hlt
        injection hdd with hdd
        injection hdd with e1 e2
        subst e1 e2
        obtain ⟨l, hl⟩ : ∃ l, l = R.getD k [] := ⟨_, rfl⟩
        rw [← hl] at hIr
        have HVL : Hid (∀ j, j < L → M.isVal (l.getD j 0) = true) := fun j hj => by rw [hl]; exact HV.out k j hlk hj
        have HLL : Hid (l.length = L) := hIr.1
        have HL := Lib.hid hl
        have HIR := Lib.hid hIr
        clear hIr hl
        by_cases h0 : k = 0
        · subst h0
          rw [Nat.add_zero] at hcr
          go_wp2_with fail
          refine (sRow _ _ _ _ _ HIR.out (by omega) HVL.out).mono ?_
          rintro e w1 ⟨t, rfl, ht, hb1⟩
          have HT := Lib.hid ht
          have htz : t.size ≤ 210 := by
            rw [ht]; have := rtxt_len l; rw [HLL.out] at this
            have e : (⟨(rtxt l).toArray⟩ : ByteArray).size = (rtxt l).length := by simp [ByteArray.size]
            omega
          clear ht
          have HB1 := Lib.hid (bnext HB.out hb1)
          clear hb1
          go_wp2
          go_roundw
          case rel =>
            refine ⟨0 + 1, s ++ t, by omega, by go_num, by first | rfl | trivial, ?_, by rw [ByteArray.size_append]; omega, HB1.out⟩
            show _ = _
            rw [app_eq HS.out HT.out, join_take0 rtxt R [] [59] hlk, ← HL.out]
            simp [Lib.join_nil]
          case measure => simp [intOf]; omega
        · have h0i : (0 : Int) < (k : Int) := by omega
          have h0n : 0 < k := by omega
          go_wp2_with fail
          refine (sRow _ _ _ _ _ HIR.out (by omega) HVL.out).mono ?_
          rintro e w1 ⟨t, rfl, ht, hb1⟩
          have HT := Lib.hid ht
          have htz : t.size ≤ 210 := by
            rw [ht]; have := rtxt_len l; rw [HLL.out] at this
            have e : (⟨(rtxt l).toArray⟩ : ByteArray).size = (rtxt l).length := by simp [ByteArray.size]
            omega
          clear ht
          have HB1 := Lib.hid (bnext HB.out hb1)
          clear hb1
          go_wp2
          go_roundw
          case rel =>
            refine ⟨k + 1, s ++ ⟨#[59]⟩ ++ t, by omega, by go_num, by first | rfl | trivial, ?_, ?_, HB1.out⟩
            · show _ = _
              rw [app_eq (app_eq HS.out (show (⟨#[59]⟩ : ByteArray) = ⟨([59] : List UInt8).toArray⟩ from rfl)) HT.out, join_take rtxt R [] [59] k hlk h0n, ← HL.out]
            · rw [ByteArray.size_append, ByteArray.size_append]
              have : (⟨#[59]⟩ : ByteArray).size = 1 := rfl
              omega
          case measure => simp [intOf]; omega
      · obtain rfl : k = n := by omega
        go_wp2
        go_ret
        refine ⟨_, rfl, ?_, HB.out⟩
        have := HS.out
        rw [List.take_of_length_le (by rw [HLN.out]; exact Nat.le_refl _)] at this
        rw [mtxt, if_pos HM.out]
        exact this
  · simp only [Bool.not_eq_true] at hm
    have HM := Lib.hid hm
    clear h hm
    go_enter Tryd.func12, Tryd.ntmps12
    go_wp2_with (go_at_call 30; refine (sIsMatrixB_b _ _ _ _ _ _ HM.out HA.out).mono ?_; rintro e wm ⟨rfl, hbm⟩)
    go_ret
    exact ⟨_, rfl, by rw [mtxt, if_neg (by rw [HM.out]; exact Bool.false_ne_true)], hbm⟩
end Go.Proofs.YtgkceafhagfkhaaDoor.V

namespace Go.Proofs
open Go.Shelf
def Tryd.laysM147_ren : Go.Shelf.Ren := ⟨fun | 147 => 24 | 221 => 46 | 268 => 59 | 138 => 60 | 143 => 61 | 195 => 72 | 197 => 73 | 218 => 74 | 219 => 75 | 260 => 85 | 217 => 86 | 225 => 87 | 224 => 88 | 267 => 89 | 266 => 100 | 314 => 101 | n => n, fun | 9 => 9 | 3 => 3 | 31 => 38 | 4 => 4 | 0 => 0 | 105 => 86 | 21 => 21 | 5 => 5 | 46 => 98 | 119 => 111 | 139 => 114 | 138 => 113 | 146 => 115 | 51 => 107 | n => n, fun | 1 => 0 | 3 => 2 | 4 => 3 | n => n⟩
theorem Tryd.laysM147 : Go.Proofs.LaysM.n147 Tryd.prog Tryd.laysM147_ren := {
  mixed := by kernel_rfl
  f138 := Tryd.func60.trans (congrArg some (by kernel_rfl))
  f143 := Tryd.func61.trans (congrArg some (by kernel_rfl))
  f147 := Tryd.func24.trans (congrArg some (by kernel_rfl))
  f195 := Tryd.func72.trans (congrArg some (by kernel_rfl))
  f197 := Tryd.func73.trans (congrArg some (by kernel_rfl))
  f217 := Tryd.func86.trans (congrArg some (by kernel_rfl))
  f218 := Tryd.func74.trans (congrArg some (by kernel_rfl))
  f219 := Tryd.func75.trans (congrArg some (by kernel_rfl))
  f221 := Tryd.func46.trans (congrArg some (by kernel_rfl))
  f224 := Tryd.func88.trans (congrArg some (by kernel_rfl))
  f225 := Tryd.func87.trans (congrArg some (by kernel_rfl))
  f260 := Tryd.func85.trans (congrArg some (by kernel_rfl))
  f266 := Tryd.func100.trans (congrArg some (by kernel_rfl))
  f267 := Tryd.func89.trans (congrArg some (by kernel_rfl))
  f268 := Tryd.func59.trans (congrArg some (by kernel_rfl))
  f314 := Tryd.func101.trans (congrArg some (by kernel_rfl))
  t0 := Tryd.underlying0
  a0 := Tryd.isAgg0
  z0 := Tryd.sizeOf0
  v0 := Tryd.zeroValue0
  t3 := Tryd.underlying3
  a3 := Tryd.isAgg3
  z3 := Tryd.sizeOf3
  v3 := Tryd.zeroValue3
  t4 := Tryd.underlying4
  a4 := Tryd.isAgg4
  z4 := Tryd.sizeOf4
  v4 := Tryd.zeroValue4
  t5 := Tryd.underlying5
  a5 := Tryd.isAgg5
  z5 := Tryd.sizeOf5
  v5 := Tryd.zeroValue5
  t9 := Tryd.underlying9
  a9 := Tryd.isAgg9
  z9 := Tryd.sizeOf9
  v9 := Tryd.zeroValue9
  t21 := Tryd.underlying21
  a21 := Tryd.isAgg21
  z21 := Tryd.sizeOf21
  v21 := Tryd.zeroValue21
  t31 := Tryd.underlying38
  a31 := Tryd.isAgg38
  z31 := Tryd.sizeOf38
  v31 := Tryd.zeroValue38
  t46 := Tryd.underlying98
  a46 := Tryd.isAgg98
  z46 := Tryd.sizeOf98
  v46 := Tryd.zeroValue98
  t51 := Tryd.underlying107
  a51 := Tryd.isAgg107
  z51 := Tryd.sizeOf107
  v51 := Tryd.zeroValue107
  t105 := Tryd.underlying86
  a105 := Tryd.isAgg86
  z105 := Tryd.sizeOf86
  v105 := Tryd.zeroValue86
  t119 := Tryd.underlying111
  a119 := Tryd.isAgg111
  z119 := Tryd.sizeOf111
  t138 := Tryd.underlying113
  a138 := Tryd.isAgg113
  z138 := Tryd.sizeOf113
  v138 := Tryd.zeroValue113
  t139 := Tryd.underlying114
  a139 := Tryd.isAgg114
  z139 := Tryd.sizeOf114
  v139 := Tryd.zeroValue114
  t146 := Tryd.underlying115
  a146 := Tryd.isAgg115
  z146 := Tryd.sizeOf115
  v146 := Tryd.zeroValue115
  g1 := by kernel_rfl
  g3 := by kernel_rfl
  g4 := by kernel_rfl
  i0 := by kernel_rfl
  i3 := by kernel_rfl
  i4 := by kernel_rfl
  i5 := by kernel_rfl
  i9 := by kernel_rfl
  i21 := by kernel_rfl
  i31 := by kernel_rfl
  i46 := by kernel_rfl
  i51 := by kernel_rfl
  i105 := by kernel_rfl
  i138 := by kernel_rfl
  i139 := by kernel_rfl
  i146 := by kernel_rfl
  m1 := by kernel_rfl
  s1_3 := fun w h => Go.Proofs.cell_of_shapedOpen_int (zero := #[.int .i64 0]) (t := 3) h (of_decide_eq_true (by kernel_rfl)) (by kernel_rfl) rfl (by kernel_rfl) (by kernel_rfl) Tryd.underlying3
  m3 := by kernel_rfl
  m4 := by kernel_rfl }
end Go.Proofs
