/- The text of a matrix, in the program. -/
import Derived.Test.YtackennmjmobdaaDoorRows
import Derived.Test.YtackennmjmobdaaDoorMath1
import Derived.Test.YtackennmjmobdaaDoorList
import Derived.Test.YtackennmjmobdaaDoorMatM
import Derived.Test.YtackennmjmobdaaDoorHelp
import Derived.Test.YtackennmjmobdaaDoorRows0
import Derived.Test.YtackennmjmobdaaDoorOwn
import Derived.Test.YtackennmjmobdaaDoorMat0
import Derived.WalkKit
import Derived.ProofKit
import Derived.WalkSmall
import Derived.Deep.QuietTactic
import Derived.BigQuiet
import Derived.BigRegion
import Derived.Deep.Draws
import Derived.Lib.Hide
import Derived.OpenShut
import Derived.Deep.OwnRows
import Derived.Test.YtackennmjmobdaaDoorVals0
import Derived.Test.YtackennmjmobdaaDoorIsMat
import Derived.Test.YtackennmjmobdaaDoorTxt
import Derived.Test.YtackennmjmobdaaDoorTm0
namespace Go.Proofs.YtackennmjmobdaaDoor.V
open Go.RowKit

/-- The text of a row, and of a matrix. -/
def rtxt (l : List Int) : List UInt8 := Lib.join (l.map vtxt) [44]
def mtxt (R : List (List Int)) : List UInt8 := if M.isMat R then Lib.join (R.map rtxt) [59] else []
theorem rtxt_len (l : List Int) : (rtxt l).length ≤ 21 * l.length := by
  have := joinT_len (l.map vtxt) [44] 20 (fun x hx => by
    obtain ⟨a, _, rfl⟩ := List.mem_map.1 hx
    exact vtxt_len a)
  simpa [rtxt] using this
theorem range_map_getD {α β : Type} (l : List α) (d : α) (f : α → β) : (List.range l.length).map (fun j => f (l.getD j d)) = l.map f := by
  apply List.ext_getElem
  · simp
  · intro i h1 h2
    simp only [List.length_map, List.length_range] at h1
    simp [h1]

set_option maxRecDepth 100000 in
set_option maxHeartbeats 4000000 in
theorem matrixText (a : Option Addr) (n cap : Nat) (R : List (List Int)) (w : World) (h : Mat w a n R) (htab : ∀ W, Below w.heap.size w W → Lib.TabIs Tryd.prog W "internal/strconv.uint64pow10" .u64 Lib.pow10Tab) :
    Calls Tryd.prog 8 #[.slice a n cap] w (TxtPost (mtxt R) w) := by
  have HA := Lib.hid h
  have HT := Lib.hid htab
  clear htab
  by_cases hm : M.isMat R = true
  · have hr := rect_mat hm
    have hln : R.length = n := h.1
    obtain ⟨q1, q2, q3, q4, -, -⟩ := M.isMat_t hm
    rw [hln] at hr q1 q2
    have HR := Lib.hid hr
    obtain ⟨L, hL⟩ : ∃ L, L = M.wid R := ⟨_, rfl⟩
    rw [← hL] at HR q3 q4
    have HM := Lib.hid hm
    have HLN := Lib.hid hln
    obtain ⟨b, off, -, -, rfl, -, -⟩ := h.rect_first HR.out (by omega)
    have hmk := run_make_row' (P := Tryd.prog) 38 9 (.string ⟨#[]⟩) 16 Tryd.underlying38 infoT rfl .i64 .i64 n (by omega) (by omega)
    have hmk2 := run_make_row' (P := Tryd.prog) 38 9 (.string ⟨#[]⟩) 16 Tryd.underlying38 infoT rfl .i64 .i64 L (by omega) (by omega)
    have hO0 : Hid (OwnT (w.alloc (.cells (madeCells #[.string ⟨#[]⟩] n) 9)) w.heap.size (.slice (some ⟨w.heap.size, 0, none⟩) n n) (fillT (fun i => rtxt (R.getD i [])) n 0)) := by
      rw [fillT_zero]; exact ownT_made w _ n (Nat.le_refl _) (by unfold maxLen; omega)
    have HB0 : Hid (Below w.heap.size w (w.alloc (.cells (madeCells #[.string ⟨#[]⟩] n) 9))) := b_alloc w _
    clear h hr hm hL hln
    go_enter Tryd.func8, Tryd.ntmps8
    go_wp2_with (go_at_call 21; refine (isMatrix_b _ _ _ _ _ _ HM.out HA.out).mono ?_; rintro e w' ⟨rfl, rfl⟩)
    go_loopw [4, 5, 6, 7, 8, 17] (fun _ _ _ _ _ i wr => ∃ k : Nat, k ≤ n ∧ i = .int .i64 k ∧ OwnT wr w.heap.size (.slice (some ⟨w.heap.size, 0, none⟩) n n) (fillT (fun i => rtxt (R.getD i [])) n k) ∧ Below w.heap.size w wr) (fun _ _ _ _ _ i _ => n - (intOf i).toNat)
    case atStart => exact ⟨0, Nat.zero_le _, rfl, hO0.out, HB0.out⟩
    case round =>
      obtain ⟨k, hk, rfl, hO, hb⟩ := hrel
      obtain ⟨wo, rfl⟩ : ∃ x, x = wr := ⟨_, rfl⟩
      have HO := Lib.hid hO
      have HB := Lib.hid hb
      clear hO hb hO0 HB0
      by_cases hlt : k < n
      · have hki : (k : Int) < (n : Int) := by omega
        obtain ⟨d, od, rr, rcr, hdd, hbr, hcr, hIr⟩ := (HA.out.below HB.out).rect_at HR.out k hlt
        injection hdd with hdd
        injection hdd with e1 e2
        subst e1 e2
        obtain ⟨l, hl⟩ : ∃ l, l = R.getD k [] := ⟨_, rfl⟩
        rw [← hl] at hIr
        have HL := Lib.hid hl
        clear hl
        have hll : l.length = L := hIr.1
        have HLL := Lib.hid hll
        clear hll
        obtain ⟨rb, ro, -, rfl, -, -, -⟩ := hIr.at 0 (by omega)
        have HIR := Lib.hid hIr
        clear hIr
        have hI0 : Hid (OwnT (wo.alloc (.cells (madeCells #[.string ⟨#[]⟩] L) 9)) wo.heap.size (.slice (some ⟨wo.heap.size, 0, none⟩) L L) (fillT (fun j => vtxt (l.getD j 0)) L 0)) := by
          rw [fillT_zero]; exact ownT_made wo _ L (Nat.le_refl _) (by unfold maxLen; omega)
        have HI0 : Hid (Below wo.heap.size wo (wo.alloc (.cells (madeCells #[.string ⟨#[]⟩] L) 9))) := b_alloc wo _
        go_wp2
        go_loopw [7, 8, 27] (fun _ _ j wr => ∃ t : Nat, t ≤ L ∧ j = .int .i64 t ∧ OwnT wr wo.heap.size (.slice (some ⟨wo.heap.size, 0, none⟩) L L) (fillT (fun j => vtxt (l.getD j 0)) L t) ∧ Below wo.heap.size wo wr) (fun _ _ j _ => L - (intOf j).toNat)
        case atStart => exact ⟨0, Nat.zero_le _, rfl, hI0.out, HI0.out⟩
        case round =>
          obtain ⟨t, ht, rfl, hO, hb⟩ := hrel
          have HOi := Lib.hid hO
          have HBi := Lib.hid hb
          clear hO hb hI0 HI0
          by_cases htl : t < L
          · have hti : (t : Int) < (L : Int) := by omega
            obtain ⟨d2, od2, x, hdd2, -, hx, hcx⟩ := (HIR.out.below HBi.out).at t htl
            injection hdd2 with hdd2
            injection hdd2 with e1 e2
            subst e1 e2
            have HX := Lib.hid hx
            clear hx
            go_wp2_with fail
            refine (valueText x _ (HT.out _ (bnext HB.out HBi.out))).mono ?_
            rintro e w1 ⟨s, rfl, hs, hb1⟩
            have HS := Lib.hid hs
            clear hs
            have HB1 := Lib.hid hb1
            have HO1 := Lib.hid (HOi.out.below hb1)
            clear hb1
            have hc1 := HO1.out.cellAt t htl
            have hf1 := HO1.out.frozenAt t
            have HN : Hid (OwnT (w1.setCell ⟨wo.heap.size, t, none⟩ (.string s)) wo.heap.size (.slice (some ⟨wo.heap.size, 0, none⟩) L L) (fillT (fun j => vtxt (l.getD j 0)) L (t + 1))) := by
              have := HO1.out.set t (vtxt x)
              rw [HX.out, fillT_set (fun j => vtxt (l.getD j 0))] at this
              rw [HS.out, HX.out]
              exact this
            go_wp2
            go_roundw
            case rel => exact ⟨t + 1, by omega, by go_num, HN.out, (bnext HBi.out HB1.out).setCell (Nat.le_refl _) _⟩
            case measure => simp [intOf]; omega
          · obtain rfl : t = L := by omega
            have hO2 := HOi.out
            rw [fillT_all] at hO2
            have HO2 := Lib.hid hO2
            clear hO2
            have hj : Lib.join ((List.range t).map fun j => vtxt (l.getD j 0)) [44] = rtxt l := by
              rw [← HLL.out, range_map_getD]; rfl
            have HJ := Lib.hid hj
            clear hj
            have hjl := rtxt_len l
            rw [HLL.out] at hjl
            go_wp2_with fail
            refine (joinT _ _ _ _ _ _ [44] HO2.out (Nat.le_refl _) (by omega) (by rw [HJ.out]; omega)).mono ?_
            rintro e w1 ⟨s, rfl, hs, hb1⟩
            rw [HJ.out] at hs
            have HS := Lib.hid hs
            clear hs
            have HB1 := Lib.hid (bnext HBi.out hb1)
            clear hb1
            have HO1 := Lib.hid (HO.out.below HB1.out)
            have hc1 := HO1.out.cellAt k hlt
            have hf1 := HO1.out.frozenAt k
            have HN : Hid (OwnT (w1.setCell ⟨w.heap.size, k, none⟩ (.string s)) w.heap.size (.slice (some ⟨w.heap.size, 0, none⟩) n n) (fillT (fun i => rtxt (R.getD i [])) n (k + 1))) := by
              have := HO1.out.set k (rtxt l)
              rw [HL.out, fillT_set (fun i => rtxt (R.getD i []))] at this
              rw [HS.out, HL.out]
              exact this
            go_wp2
            go_roundw
            case rel => exact ⟨k + 1, by omega, by go_num, HN.out, (bnext HB.out HB1.out).setCell (Nat.le_refl _) _⟩
            case measure => simp [intOf]; omega
      · obtain rfl : k = n := by omega
        have hO2 := HO.out
        rw [fillT_all] at hO2
        have HO2 := Lib.hid hO2
        clear hO2
        have hj : Lib.join ((List.range k).map fun i => rtxt (R.getD i [])) [59] = mtxt R := by
          rw [← HLN.out, range_map_getD, mtxt, if_pos HM.out]
        have HJ := Lib.hid hj
        clear hj
        have hjl : (Lib.join ((List.range k).map fun i => rtxt (R.getD i [])) [59]).length ≤ 211 * k := by
          have := joinT_len ((List.range k).map fun i => rtxt (R.getD i [])) [59] 210 (fun x hx => by
            obtain ⟨i, hi, rfl⟩ := List.mem_map.1 hx
            have h1 := rtxt_len (R.getD i [])
            rw [HR.out.2 i (List.mem_range.1 hi)] at h1
            omega)
          simpa using this
        have HJL := Lib.hid hjl
        clear hjl
        go_wp2_with fail
        refine (joinT _ _ _ _ _ _ [59] HO2.out (Nat.le_refl _) (by omega) (by have := HJL.out; omega)).mono ?_
        rintro e w1 ⟨s, rfl, hs, hb1⟩
        rw [HJ.out] at hs
        have HS := Lib.hid hs
        clear hs
        have HB1 := Lib.hid (bnext HB.out hb1)
        clear hb1
        go_wp2
        go_ret
        exact ⟨_, rfl, HS.out, HB1.out⟩
  · simp only [Bool.not_eq_true] at hm
    have HM := Lib.hid hm
    clear h hm
    go_enter Tryd.func8, Tryd.ntmps8
    go_wp2_with (go_at_call 21; refine (isMatrix_b _ _ _ _ _ _ HM.out HA.out).mono ?_; rintro e w' ⟨rfl, rfl⟩)
    go_ret
    exact ⟨_, rfl, by rw [mtxt, if_neg (by rw [HM.out]; exact Bool.false_ne_true)], Below.refl _ _⟩
end Go.Proofs.YtackennmjmobdaaDoor.V
