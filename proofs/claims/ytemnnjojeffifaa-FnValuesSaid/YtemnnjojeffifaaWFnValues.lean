/- The walk through the law: it returns true and writes nothing that was there. For every code: products distribute over sums, Bottom and 0 are neutral, and ProductOf, SumOf and IsValue answer as their models. -/
import Derived.Test.YtemnnjojeffifaaRows
import Derived.Test.YtemnnjojeffifaaMath1
import Derived.Test.YtemnnjojeffifaaMath3
import Derived.Test.YtemnnjojeffifaaList
import Derived.Test.YtemnnjojeffifaaVals
import Derived.Test.YtemnnjojeffifaaVals2
import Derived.Test.YtemnnjojeffifaaHelp
import Derived.Test.YtemnnjojeffifaaRows1
import Derived.Test.YtemnnjojeffifaaDraw1
import Derived.Test.YtemnnjojeffifaaDraw2
import Derived.Test.YtemnnjojeffifaaDrawP
import Derived.Test.YtemnnjojeffifaaDrawS
import Derived.WalkKit
import Derived.ProofKit
import Derived.OpenShut
import Derived.ShutString
import Derived.ChangeOld
import Derived.Below
import Derived.Lib.SmallJoins
import Derived.Lib.Hide
import Derived.WalkSmall
import Derived.Deep.Draws
import Derived.Deep.QuietTactic
import Derived.BigQuiet
import Derived.Deep.OwnRows
import Derived.Deep.RegionWith
import Derived.Deep.RegionHeld3
namespace Go.Proofs.Ytemnnjojeffifaa.fnValues
open Go.ChangeShapes Go.WideShapes Go.ChangeAt Go.RowKit
open Go.ChangeMaps (open_string shut_string)
set_option linter.unusedVariables false

set_option maxRecDepth 100000 in
set_option maxHeartbeats 4000000 in
theorem walk (a0 : Option Addr) (len0 cap0 : Nat) (z0 : List Int) (w : World) (w0 : V.IsRow .u8 w a0 len0 cap0 z0) :
    Calls Try.prog 3 #[.slice a0 len0 cap0] w fun e w' => e = .returned (.bool true) ∧ Below w.heap.size w w' := by
  have hB := w0.bytes
  have hm := hB.1
  by_cases hbig : 4096 < len0
  · have hd : decide (4096 < len0) = true := by simpa using hbig
    clear hB w0
    go_enter Try.func3, Try.ntmps3
    go_wp2_with (first | (go_at_call 15; refine (V.big _ _ _ _ hm).mono ?_; rintro e w' ⟨rfl, rfl⟩))
    go_ret
    exact ⟨rfl, Below.refl _ _⟩
  · have hd : decide (4096 < len0) = false := by simpa using hbig
    clear w0
    have HB := Lib.hid hB
    clear hB
    go_enter Try.func3, Try.ntmps3
    go_wp2_with (go_at_call 15; refine (V.big _ _ _ _ hm).mono ?_; rintro e w' ⟨rfl, rfl⟩)
    refine (V.drawProductOf _ _ _ _ HB.out).mono ?_
    rintro e w1 ⟨a, b, rfl, ha, hb, hb1⟩
    have HB1 := Lib.hid hb1
    have HY1 := Lib.hid (HB.out.below hb1)
    clear hb1 HB
    go_wp2_with fail
    refine (V.productOf _ _ _).mono ?_
    rintro e w' ⟨rfl, rfl⟩
    go_wp2_with fail
    refine (V.sProductOf _ _ _).mono ?_
    rintro e w' ⟨rfl, rfl⟩
    go_wp2_with fail
    refine (V.drawSumOf _ _ _ _ HY1.out).mono ?_
    rintro e w2 ⟨la, ln, lc, l, rfl, hl, hln, hb2⟩
    have HL2 := Lib.hid hl
    have HB2 := Lib.hid (V.bnext HB1.out hb2)
    clear hl hb2 HB1 HY1
    go_wp2_with fail
    refine (V.sumOf _ _ _ l _ HL2.out).mono ?_
    rintro e w' ⟨rfl, rfl⟩
    go_wp2_with fail
    refine (V.sSumOf _ _ _ l _ HL2.out).mono ?_
    rintro e w' ⟨rfl, rfl⟩
    by_cases hz : (M.sumM l).2 = 0
    · obtain ⟨hl200, hlv, hse⟩ := M.sumM_ok hz
      by_cases hv : M.isVal a = true
      · have HV := Lib.hid hv
        have HLV := Lib.hid hlv
        have hlen := HL2.out.1
        have HLEN := Lib.hid hlen
        have hln200 : ln ≤ 200 := by omega
        clear hlv hz hlen hl200
        go_wp2_with (first | (go_at_call 22; refine (V.isValue _ _).mono ?_; rintro e w' ⟨rfl, rfl⟩) | (go_at_call 23; refine (V.sIsValue _ _).mono ?_; rintro e w' ⟨rfl, rfl⟩))
        obtain ⟨L, hL⟩ : ∃ L, L = l.map (M.times a) := ⟨_, rfl⟩
        have hLl : L.length = ln := by rw [hL]; simpa using HLEN.out
        have HL := Lib.hid hL
        have HLl := Lib.hid hLl
        clear hL hLl
        have HO : Hid (V.Own (w2.alloc (.cells #[] 2)) w2.heap.size (.slice (some ⟨w2.heap.size, 0, none⟩) 0 0) []) := World.ownsRow_lit w2 #[] 0 (Nat.le_refl _) (by decide) rfl
        go_loopw [14, 15] (fun v i wr => ∃ k : Nat, k ≤ ln ∧ i = .int .i64 k ∧ V.Own wr w2.heap.size v (L.take k) ∧ Hid ((L.take k).all M.isVal = true) ∧ Below w2.heap.size w2 wr) (fun _ i _ => ln - (intOf i).toNat)
        case atStart => exact ⟨0, Nat.zero_le _, rfl, by rw [List.take_zero]; exact HO.out, by rw [List.take_zero]; rfl, V.b_alloc _ _⟩
        case round =>
          obtain ⟨k, hk, rfl, ho, HA, hbr⟩ := hrel
          clear HO
          have HOr := Lib.hid ho
          have HBr := Lib.hid hbr
          have HLr := Lib.hid (HL2.out.below hbr)
          have l2 : w2.heap.size ≤ wr.heap.size := hbr.size
          clear ho hbr
          by_cases hlt : k < ln
          · obtain ⟨hl1, hl2, hl3⟩ := HLr.out
            rcases hl3 with h0 | ⟨bb, off, hadr, hbl, hc⟩
            · omega
            have hck := hc k hlt
            have hsn := M.take_snoc l k (by omega)
            have hxv := M.getD_all (k := k) (by omega) HLV.out
            obtain ⟨x, hx⟩ : ∃ x, x = l.getD k 0 := ⟨_, rfl⟩
            rw [← hx] at hck hsn hxv
            have HS := Lib.hid hsn
            have hpe := M.prod_each HV.out hxv
            clear hc hx hsn hxv hl1 hl2
            subst hadr
            have hki : (k : Int) < (ln : Int) := by omega
            by_cases hc : M.isVal (M.times a x) = true
            · have hce := M.chk_val hc
              have HM : Hid (L.take (k + 1) = L.take k ++ [M.times a x]) := by show _ = _; rw [HL.out, ← List.map_take, ← List.map_take, HS.out, M.map_snoc]
              have HA2 : Hid ((L.take (k + 1)).all M.isVal = true) := by show _ = _; rw [HM.out, M.all_snoc, HA.out, hc]; rfl
              have hlk : (L.take k).length ≤ 100000 := by have := HLl.out; simp; omega
              have HLK := Lib.hid hlk
              clear hc hlk
              go_wp2_with (first | (go_at_call 17; refine (V.productOf _ _ _).mono ?_; rintro e w' ⟨rfl, rfl⟩) | (at_builtin; refine V.append1 _ rfl (.tmp 109) (.tmp 111) rfl w2.heap.size _ _ (M.times a x) rfl HOr.out rfl HLK.out l2 ?_))
              intro v' w4 ho4 hb4
              have HO4 := Lib.hid ho4
              have HB4 := Lib.hid (HBr.out.trans hb4)
              clear ho4 hb4 HOr HBr HLr
              go_wp2
              go_roundw
              case rel => exact ⟨k + 1, by omega, by go_num, by rw [HM.out]; exact HO4.out, HA2, HB4.out⟩
              case measure => simp [intOf]; omega
            · simp only [Bool.not_eq_true] at hc
              have hce := M.chk_no hc
              clear hc
              go_wp2_with (first | (go_at_call 17; refine (V.productOf _ _ _).mono ?_; rintro e w' ⟨rfl, rfl⟩))
              go_ret
              exact ⟨rfl, V.bnext HB2.out HBr.out⟩
          · have hkn : k = ln := by omega
            subst hkn
            have HT : Hid (l.take k = l) := M.take_all l k (by have := HLEN.out; omega)
            have hLk : L.take k = L := List.take_of_length_le (by have := HLl.out; omega)
            have hOL := HOr.out
            have hA := HA.out
            rw [hLk] at hOL hA
            obtain ⟨ao, co, hv', hints⟩ := hOL.ints (by have := HLl.out; unfold maxLen; omega)
            subst hv'
            have HI := Lib.hid hints
            have hLL := HLl.out
            rw [HL.out] at hA
            have hp1 := M.end_prod HV.out HLV.out hA
            have hp2 := M.end_zero HV.out
            have hp3 := M.end_more HV.out
            have hsum : M.sumM L = (M.maxL L, 0) := M.sumM_of (by omega) (by rw [HL.out]; exact hA)
            rw [← HL.out] at hp1
            clear hints hA HOr HLr HL2 hLk hOL hLL
            go_wp2_with fail
            refine (V.productOf _ _ _).mono ?_
            rintro e w' ⟨rfl, rfl⟩
            go_wp2_with fail
            refine (V.sumOf _ _ _ L _ (by exact HI.out)).mono ?_
            rintro e w' ⟨rfl, rfl⟩
            go_wp2_with fail
            refine (V.productOf _ _ _).mono ?_
            rintro e w' ⟨rfl, rfl⟩
            go_wp2_with fail
            refine (V.sumOf _ 2 _ [a, -1000000000000000] _ (by exact V.lit_ints _ [a, -1000000000000000] _ _ rfl (by simp))).mono ?_
            rintro e w' ⟨rfl, rfl⟩
            go_wp2
            go_ret
            exact ⟨rfl, (V.bnext HB2.out HBr.out).alloc (V.bnext HB2.out HBr.out).size _⟩
      · simp only [Bool.not_eq_true] at hv
        clear hlv hl200
        go_wp2_with (first | (go_at_call 22; refine (V.isValue _ _).mono ?_; rintro e w' ⟨rfl, rfl⟩) | (go_at_call 23; refine (V.sIsValue _ _).mono ?_; rintro e w' ⟨rfl, rfl⟩))
        go_ret
        exact ⟨rfl, HB2.out⟩
    · have hz' : ((M.sumM l).2 == 0) = false := by simpa using hz
      have hz2 : ((M.sumM l).2 != 0) = true := by simpa using hz
      clear hz
      go_wp2_with (first | (go_at_call 22; refine (V.isValue _ _).mono ?_; rintro e w' ⟨rfl, rfl⟩) | (go_at_call 23; refine (V.sIsValue _ _).mono ?_; rintro e w' ⟨rfl, rfl⟩))
      go_ret
      exact ⟨rfl, HB2.out⟩
end Go.Proofs.Ytemnnjojeffifaa.fnValues
