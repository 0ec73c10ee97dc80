/- The walk through the law: it returns true and writes nothing that was there. For every code: matrices are recovered from their texts. -/
import Derived.Test.YtlcjmcoljclpgaaDoorRows
import Derived.Test.YtlcjmcoljclpgaaDoorQd1
import Derived.Test.YtlcjmcoljclpgaaDoorQd4
import Derived.Test.YtlcjmcoljclpgaaDoorQd3
import Derived.Test.YtlcjmcoljclpgaaDoorQd2
import Derived.Test.YtlcjmcoljclpgaaDoorQd5
import Derived.Test.YtlcjmcoljclpgaaDoorQd6
import Derived.Test.YtlcjmcoljclpgaaDoorQd8
import Derived.Test.YtlcjmcoljclpgaaDoorQd7
import Derived.WalkKit
import Derived.ProofKit
import Derived.OpenShut
import Derived.ShutString
import Derived.ChangeOld
import Derived.Below
import Derived.Lib.SmallJoins
import Derived.Lib.Hide
import Derived.Lib.LaidTab
import Derived.WalkSmall
import Derived.Deep.Draws
import Derived.Deep.QuietTactic
import Derived.BigQuiet
import Derived.Deep.OwnRows
import Derived.Deep.DeepHandedRow
import Derived.Stop.LaidErr
set_option linter.unusedSimpArgs false
set_option linter.unusedVariables false
set_option linter.unusedSectionVars false
namespace Go.Proofs.YtlcjmcoljclpgaaDoor.fnMatrixTexts
open Go.ChangeShapes Go.WideShapes Go.ChangeAt Go.RowKit
open Go.ChangeMaps (open_string shut_string)
set_option linter.unusedVariables false

theorem rm_t (R : List (List Int)) (t : ByteArray) (h : t = ⟨(V.mtxt R).toArray⟩) : (M.readMI t.data.toList = (R, true) ∧ (t.toList == []) = false) ∨ (M.readMI t.data.toList = ([], false) ∧ (t.toList == []) = true) := by
  subst h
  rw [ByteArray.toList_eq]
  show (M.readMI (V.mtxt R) = (R, true) ∧ (V.mtxt R == []) = false) ∨ (M.readMI (V.mtxt R) = ([], false) ∧ (V.mtxt R == []) = true)
  rw [M.readM_eq]
  by_cases hv : M.isMat R = true
  · obtain ⟨h1, h2⟩ := V.readS_t hv
    exact .inl ⟨h1, by rw [beq_eq_false_iff_ne]; exact h2⟩
  · right
    rw [V.mtxt, if_neg hv]
    exact ⟨V.readS_nil, rfl⟩

set_option maxRecDepth 100000 in
set_option maxHeartbeats 1000000 in
theorem walk (a0 : Option Addr) (len0 cap0 : Nat) (z0 : List Int) (w : World) (w0 : V.IsRow .u8 w a0 len0 cap0 z0) (htab : ∀ w', Below w.heap.size w w' → Lib.TabIs Tryd.prog w' "internal/strconv.uint64pow10" .u64 Lib.pow10Tab) (hsent : ∀ w', Below w.heap.size w w' → V.Sent w') (hmax : V.MaxC w) :
    Calls Tryd.prog 5 #[.slice a0 len0 cap0] w fun e w' => e = .returned (.bool true) ∧ Below w.heap.size w w' := by
  have hB := w0.bytes
  have hm := hB.1
  by_cases hbig : 4096 < len0
  · have hd : decide (4096 < len0) = true := by simpa using hbig
    clear hB w0 htab hsent hmax
    go_enter Tryd.func5, Tryd.ntmps5
    go_wp2_with (first | (go_at_call 16; refine (V.big _ _ _ _ hm).mono ?_; rintro e w' ⟨rfl, rfl⟩))
    go_ret
    exact ⟨rfl, Below.refl _ _⟩
  have hd : decide (4096 < len0) = false := by simpa using hbig
  clear w0
  have HB := Lib.hid hB
  have HT := Lib.hid htab
  have HN := Lib.hid hsent
  have HX0 := Lib.hid hmax
  clear hB htab hsent hmax
  go_enter Tryd.func5, Tryd.ntmps5
  go_wp2_with (go_at_call 16; refine (V.big _ _ _ _ hm).mono ?_; rintro e w' ⟨rfl, rfl⟩)
  refine (V.drawMatrixText _ _ _ _ HB.out).mono ?_
  rintro e w1 ⟨a, n, cap, R, rfl, hA, hb⟩
  have HA := Lib.hid hA
  have HB1 := Lib.hid hb
  clear hb hA
  go_wp2_with fail
  refine (V.matrixText _ _ _ R w1 HA.out (fun w' h => HT.out w' (HB1.out.trans (h.mono HB1.out.size)))).mono ?_
  rintro e w2 ⟨t, rfl, ht, hb⟩
  have HB2 := Lib.hid (V.bnext HB1.out hb)
  have HA2 := Lib.hid (HA.out.below hb)
  have htl : t.size ≤ 2110 := by
    rw [ht]
    have := V.mtxt_len R
    simpa [ByteArray.size] using this
  have HTT := Lib.hid ht
  have hrd := rm_t R t ht
  clear hb ht HA
  obtain ⟨X, ok, hr, hok, hq⟩ : ∃ X ok, M.readMI t.data.toList = (X, ok) ∧ (ok = true → X = R) ∧ (t.toList == []) = !ok := by
    rcases hrd with ⟨h1, h2⟩ | ⟨h1, h2⟩
    · exact ⟨R, true, h1, fun _ => rfl, h2⟩
    · exact ⟨[], false, h1, (fun h => Bool.noConfusion h), h2⟩
  have HRR := Lib.hid hr
  have HOK := Lib.hid hok
  clear hr hok hrd
  go_wp2_with fail
  refine (V.iReadMatrix t w2 (by omega) (HX0.out.below HB2.out) (fun w' h => HT.out w' (HB2.out.trans (h.mono HB2.out.size))) (fun w' h => HN.out w' (HB2.out.trans (h.mono HB2.out.size)))).mono ?_
  rw [HRR.out]
  rintro e w3 ⟨xa, xc, rfl, ho, hb⟩
  have HXm := Lib.hid ho.mat
  have HB3 := Lib.hid (V.bnext HB2.out hb)
  have HA3 := Lib.hid (HA2.out.below hb)
  clear hb ho HA2
  go_wp2_with fail
  refine (V.drawReadMatrix _ _ _ _ (HB.out.below HB3.out)).mono ?_
  rintro e w4 ⟨s, rfl, hs, hb⟩
  have HB4 := Lib.hid (V.bnext HB3.out hb)
  have HA4 := Lib.hid (HA3.out.below hb)
  have HXm4 := Lib.hid (HXm.out.below hb)
  clear hb HA3 HXm
  obtain ⟨Y, one, hy⟩ : ∃ Y one, M.readS s.data.toList = (Y, one) := ⟨_, _, rfl⟩
  have hone : one = true → V.mtxt Y = s.data.toList := fun h => by
    have := V.readS_s (l := s.data.toList) (by rw [hy]; exact h)
    rw [hy] at this
    exact this
  have hyi : M.readMI s.data.toList = (Y, one) := by rw [M.readM_eq]; exact hy
  have HY := Lib.hid hy
  have HYI := Lib.hid hyi
  have HONE := Lib.hid hone
  clear hy hyi hone
  go_wp2_with fail
  refine (V.iReadMatrix s w4 (by omega) (HX0.out.below HB4.out) (fun w' h => HT.out w' (HB4.out.trans (h.mono HB4.out.size))) (fun w' h => HN.out w' (HB4.out.trans (h.mono HB4.out.size)))).mono ?_
  rw [HYI.out]
  rintro e w5 ⟨ya, yc, rfl, ho, hb⟩
  have HYm := Lib.hid ho.mat
  have HB5 := Lib.hid (V.bnext HB4.out hb)
  have HA5 := Lib.hid (HA4.out.below hb)
  have HXm5 := Lib.hid (HXm4.out.below hb)
  clear hb ho HA4 HXm4
  go_wp2_with fail
  refine (V.sReadMatrix s w5 (by omega)).mono ?_
  rw [HY.out]
  rintro e w6 ⟨za, zc, rfl, ho, hb⟩
  have HZm := Lib.hid ho.mat
  have HB6 := Lib.hid (V.bnext HB5.out hb)
  have HA6 := Lib.hid (HA5.out.below hb)
  have HXm6 := Lib.hid (HXm5.out.below hb)
  have HYm6 := Lib.hid (HYm.out.below hb)
  clear hb ho HA5 HXm5 HYm
  go_wp2_with fail
  refine (V.sMatrixText _ _ _ R w6 HA6.out).mono ?_
  rintro e w7 ⟨t2, rfl, ht2, hb⟩
  obtain rfl : t2 = t := ht2.trans HTT.out.symm
  have HB7 := Lib.hid (V.bnext HB6.out hb)
  have HA7 := Lib.hid (HA6.out.below hb)
  have HXm7 := Lib.hid (HXm6.out.below hb)
  have HYm7 := Lib.hid (HYm6.out.below hb)
  have HZm7 := Lib.hid (HZm.out.below hb)
  clear hb ht2 HA6 HXm6 HYm6 HZm
  cases ok
  · go_wp2_with fail
    refine (V.likeM _ _ _ Y _ _ _ _ HYm7.out HZm7.out).mono ?_
    rintro e w8 ⟨rfl, hb⟩
    have HB8 := Lib.hid (V.bnext HB7.out hb)
    have HYm8 := Lib.hid (HYm7.out.below hb)
    clear hb
    cases one
    · go_wp2_with fail
      go_ret
      exact ⟨rfl, HB8.out⟩
    · go_wp2_with fail
      refine (V.matrixText _ _ _ Y w8 HYm8.out (fun w' h => HT.out w' (HB8.out.trans (h.mono HB8.out.size)))).mono ?_
      rintro e w9 ⟨u, rfl, hu, hb⟩
      have HB9 := Lib.hid (V.bnext HB8.out hb)
      obtain rfl : u = s := by rw [hu, HONE.out (by simp)]
      clear hb
      go_wp2_with fail
      go_ret
      exact ⟨rfl, HB9.out⟩
  · obtain rfl : X = R := HOK.out rfl
    go_wp2_with fail
    refine (V.likeM _ _ _ X _ _ _ _ HXm7.out HA7.out).mono ?_
    rintro e w8 ⟨rfl, hb⟩
    have HB8 := Lib.hid (V.bnext HB7.out hb)
    have HYm8 := Lib.hid (HYm7.out.below hb)
    have HZm8 := Lib.hid (HZm7.out.below hb)
    clear hb
    go_wp2_with fail
    refine (V.likeM _ _ _ Y _ _ _ _ HYm8.out HZm8.out).mono ?_
    rintro e w9 ⟨rfl, hb⟩
    have HB9 := Lib.hid (V.bnext HB8.out hb)
    have HYm9 := Lib.hid (HYm8.out.below hb)
    clear hb
    cases one
    · go_wp2_with fail
      go_ret
      exact ⟨rfl, HB9.out⟩
    · go_wp2_with fail
      refine (V.matrixText _ _ _ Y w9 HYm9.out (fun w' h => HT.out w' (HB9.out.trans (h.mono HB9.out.size)))).mono ?_
      rintro e w10 ⟨u, rfl, hu, hb⟩
      have HB10 := Lib.hid (V.bnext HB9.out hb)
      obtain rfl : u = s := by rw [hu, HONE.out (by simp)]
      clear hb
      go_wp2_with fail
      go_ret
      exact ⟨rfl, HB10.out⟩
end Go.Proofs.YtlcjmcoljclpgaaDoor.fnMatrixTexts
