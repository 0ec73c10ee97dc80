/- The walk through the law: it returns true and writes nothing that was there. For every code: values are recovered from their texts. -/
import Derived.Test.YtokhcpiicfmaeaaDoorRows
import Derived.Test.YtokhcpiicfmaeaaDoorMath1
import Derived.Test.YtokhcpiicfmaeaaDoorRead
import Derived.Test.YtokhcpiicfmaeaaDoorVals0
import Derived.Test.YtokhcpiicfmaeaaDoorDec
import Derived.Test.YtokhcpiicfmaeaaDoorFmt
import Derived.Test.YtokhcpiicfmaeaaDoorTxt
import Derived.Test.YtokhcpiicfmaeaaDoorDig
import Derived.Test.YtokhcpiicfmaeaaDoorParse
import Derived.Test.YtokhcpiicfmaeaaDoorRv
import Derived.Test.YtokhcpiicfmaeaaDoorLike
import Derived.Test.YtokhcpiicfmaeaaDoorDraw2
import Derived.Test.YtokhcpiicfmaeaaDoorDmg
import Derived.WalkKit
import Derived.ProofKit
import Derived.OpenShut
import Derived.ShutString
import Derived.ChangeOld
import Derived.Below
import Derived.Lib.SmallJoins
import Derived.Lib.Hide
import Derived.Lib.LaidTab
import Derived.WalkSmall
import Derived.Deep.Draws
import Derived.Deep.QuietTactic
import Derived.BigQuiet
import Derived.Deep.OwnRows
import Derived.Deep.DeepHandedRow
import Derived.Stop.LaidErr
namespace Go.Proofs.YtokhcpiicfmaeaaDoor.fnValueTexts
open Go.ChangeShapes Go.WideShapes Go.ChangeAt Go.RowKit
open Go.ChangeMaps (open_string shut_string)
set_option linter.unusedVariables false

theorem itoa_ne {a : Int} (h : M.isFin a = true) : Go.Lib.itoa a ≠ [] ∧ Go.Lib.itoa a ≠ [46] := by
  have hs := M.sgn_itoa h
  constructor
  · intro e
    rw [e] at hs
    have := congrArg Prod.snd hs
    simp [M.sgnM, M.digM] at this
  · intro e
    rw [e] at hs
    have := congrArg Prod.snd hs
    simp [M.sgnM, M.digM, M.isDigs] at this
theorem rd_fin {a : Int} (h : M.isFin a = true) : M.readI (Go.Lib.itoa a) = (a, true) := by
  rw [M.readI, if_neg (itoa_ne h).2, M.parse_itoa h]
  simp [h]
theorem rd_t (a : Int) (t : ByteArray) (h : t = ⟨(V.vtxt a).toArray⟩) : (M.readI t.data.toList = (a, true) ∧ (t.toList == []) = false) ∨ (∃ x, M.readI t.data.toList = (x, false) ∧ (t.toList == []) = true) := by
  subst h
  rw [ByteArray.toList_eq]
  show (M.readI (V.vtxt a) = (a, true) ∧ (V.vtxt a == []) = false) ∨ (∃ x, M.readI (V.vtxt a) = (x, false) ∧ (V.vtxt a == []) = true)
  by_cases hv : M.isVal a = true
  · left
    rw [V.vtxt, if_pos hv, V.txt]
    by_cases hb : a = -1000000000000000
    · rw [if_pos hb, hb]
      exact ⟨by rw [M.readI, if_pos rfl], rfl⟩
    · have hf : M.isFin a = true := by
        rcases M.isVal_t hv with h | h
        · exact absurd h hb
        · simp [M.isFin, h]
      rw [if_neg hb]
      refine ⟨rd_fin hf, ?_⟩
      have := (itoa_ne hf).1
      simpa using this
  · right
    rw [V.vtxt, if_neg hv]
    refine ⟨0, ?_, rfl⟩
    rw [M.read_eq]
    simp [M.readM, M.sgnM, M.digM]
theorem rd_s (l : List UInt8) : ∃ y one, M.readI l = (y, one) ∧ M.readM l = (y, one) ∧ (one = true → V.vtxt y = l) := by
  refine ⟨(M.readI l).1, (M.readI l).2, rfl, (M.read_eq l).symm, ?_⟩
  rw [M.readI]
  by_cases hl : l = [46]
  · rw [if_pos hl]
    intro _
    show V.vtxt (-1000000000000000) = l
    rw [V.vtxt, if_pos M.bot_val, V.txt, if_pos rfl, hl]
  · rw [if_neg hl]
    cases hp : Go.Lib.parseIntB 64 l
    next n =>
      by_cases hc : (M.isFin n && decide (Go.Lib.itoa n = l)) = true
      · simp only [hc, if_true]
        intro _
        simp only [Bool.and_eq_true, decide_eq_true_eq] at hc
        have hne : ¬ n = -1000000000000000 := by have := M.isFin_t hc.1; omega
        rw [V.vtxt, if_pos (M.isVal_of_fin hc.1), V.txt, if_neg hne, hc.2]
      · simp only [Bool.not_eq_true] at hc
        simp [hc]
    · simp
    · simp

set_option maxRecDepth 100000 in
set_option maxHeartbeats 1000000 in
theorem walk (a0 : Option Addr) (len0 cap0 : Nat) (z0 : List Int) (w : World) (w0 : V.IsRow .u8 w a0 len0 cap0 z0) (htab : ∀ w', Below w.heap.size w w' → Lib.TabIs Tryd.prog w' "internal/strconv.uint64pow10" .u64 Lib.pow10Tab) (hsent : ∀ w', Below w.heap.size w w' → V.Sent w') :
    Calls Tryd.prog 3 #[.slice a0 len0 cap0] w fun e w' => e = .returned (.bool true) ∧ Below w.heap.size w w' := by
  have hB := w0.bytes
  have hm := hB.1
  by_cases hbig : 4096 < len0
  · have hd : decide (4096 < len0) = true := by simpa using hbig
    clear hB w0 htab hsent
    go_enter Tryd.func3, Tryd.ntmps3
    go_wp2_with (first | (go_at_call 7; refine (V.big _ _ _ _ hm).mono ?_; rintro e w' ⟨rfl, rfl⟩))
    go_ret
    exact ⟨rfl, Below.refl _ _⟩
  · have hd : decide (4096 < len0) = false := by simpa using hbig
    clear w0
    have HB := Lib.hid hB
    have HT := Lib.hid htab
    have HN := Lib.hid hsent
    clear hB htab hsent
    go_enter Tryd.func3, Tryd.ntmps3
    go_wp2_with (go_at_call 7; refine (V.big _ _ _ _ hm).mono ?_; rintro e w' ⟨rfl, rfl⟩)
    refine (V.drawValueText _ _ _ _ HB.out).mono ?_
    rintro e w1 ⟨a, rfl, ha, hb⟩
    have HB1 := Lib.hid hb
    clear hb
    go_wp2_with fail
    refine (V.valueText a w1 (HT.out _ HB1.out)).mono ?_
    rintro e w2 ⟨t, rfl, ht, hb⟩
    have HB2 := Lib.hid (HB1.out.trans (hb.mono HB1.out.size))
    have htl : t.size ≤ 900 := V.vtxt_len ht
    have HTT := Lib.hid ht
    have hrd := rd_t a t ht
    clear hb ht
    go_wp2_with fail
    have hx : ∀ x ok, M.readI t.data.toList = (x, ok) → Calls Tryd.prog 10 #[.string t] w2 (V.DigPost (x, ok) w2) := fun x ok h => h ▸ V.readValue t w2 (by omega) (fun w' h => HT.out w' (HB2.out.trans (h.mono HB2.out.size))) (fun w' h => HN.out w' (HB2.out.trans (h.mono HB2.out.size)))
    obtain ⟨x, ok, hr, hok, hq⟩ : ∃ x ok, M.readI t.data.toList = (x, ok) ∧ (ok = true → x = a) ∧ (t.toList == []) = !ok := by
      rcases hrd with ⟨h1, h2⟩ | ⟨x, h1, h2⟩
      · exact ⟨a, true, h1, fun _ => rfl, h2⟩
      · exact ⟨x, false, h1, (fun h => Bool.noConfusion h), h2⟩
    have hx' := hx x ok hr
    clear hx hr hrd
    refine hx'.mono ?_
    rintro e w3 ⟨rfl, hb⟩
    have HB3 := Lib.hid (HB2.out.trans (hb.mono HB2.out.size))
    clear hb hx'
    go_wp2_with fail
    refine (V.drawReadValue _ _ _ _ (HB.out.below HB3.out)).mono ?_
    rintro e w4 ⟨s, rfl, hs, hb⟩
    have HB4 := Lib.hid (HB3.out.trans (hb.mono HB3.out.size))
    clear hb
    obtain ⟨y, one, hy, hz, hone⟩ := rd_s s.data.toList
    have hx : Calls Tryd.prog 10 #[.string s] w4 (V.DigPost (y, one) w4) := hy ▸ V.readValue s w4 (by omega) (fun w' h => HT.out w' (HB4.out.trans (h.mono HB4.out.size))) (fun w' h => HN.out w' (HB4.out.trans (h.mono HB4.out.size)))
    have hx2 : ∀ w, Calls Tryd.prog 12 #[.string s] w (V.DigPost (y, one) w) := fun w => hz ▸ V.sReadValue s w (by unfold maxLen; omega)
    have HX := Lib.hid hx
    have HX2 := Lib.hid hx2
    have HONE := Lib.hid hone
    have HOK := Lib.hid hok
    clear hx hx2 hy hz hone hok
    go_wp2_with fail
    refine HX.out.mono ?_
    rintro e w5 ⟨rfl, hb⟩
    have HB5 := Lib.hid (HB4.out.trans (hb.mono HB4.out.size))
    clear hb HX
    go_wp2_with fail
    refine (HX2.out w5).mono ?_
    rintro e w6 ⟨rfl, hb⟩
    have HB6 := Lib.hid (HB5.out.trans (hb.mono HB5.out.size))
    clear hb HX2
    go_wp2_with fail
    refine (V.sValueText a w6).mono ?_
    rintro e w7 ⟨t2, rfl, ht2, hb⟩
    have HB7 := Lib.hid (HB6.out.trans (hb.mono HB6.out.size))
    obtain rfl : t2 = t := ht2.trans HTT.out.symm
    clear hb ht2
    cases ok
    · cases one
      · go_wp2_with fail
        go_ret
        exact ⟨rfl, HB7.out⟩
      · go_wp2_with fail
        refine (V.valueText y w7 (HT.out _ HB7.out)).mono ?_
        rintro e w8 ⟨u, rfl, hu, hb⟩
        have HB8 := Lib.hid (HB7.out.trans (hb.mono HB7.out.size))
        obtain rfl : u = s := by rw [hu, HONE.out (by simp)]
        clear hb
        go_wp2_with fail
        go_ret
        exact ⟨rfl, HB8.out⟩
    · obtain rfl : x = a := HOK.out (by simp)
      cases one
      · go_wp2_with fail
        go_ret
        exact ⟨rfl, HB7.out⟩
      · go_wp2_with fail
        refine (V.valueText y w7 (HT.out _ HB7.out)).mono ?_
        rintro e w8 ⟨u, rfl, hu, hb⟩
        have HB8 := Lib.hid (HB7.out.trans (hb.mono HB7.out.size))
        obtain rfl : u = s := by rw [hu, HONE.out (by simp)]
        clear hb
        go_wp2_with fail
        go_ret
        exact ⟨rfl, HB8.out⟩
end Go.Proofs.YtokhcpiicfmaeaaDoor.fnValueTexts
