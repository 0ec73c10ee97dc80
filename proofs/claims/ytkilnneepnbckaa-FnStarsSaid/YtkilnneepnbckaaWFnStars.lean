/- The walk through the law: it returns true and writes nothing that was there. For every code: the star is the unit plus the plus of the matrix, there is either a star or a positive cycle, and StarMatrix, PlusMatrix and PositiveCycle answer as their models. -/
import Derived.Test.YtkilnneepnbckaaRows
import Derived.Test.YtkilnneepnbckaaQd1
import Derived.Test.YtkilnneepnbckaaQd2
import Derived.Test.YtkilnneepnbckaaQd3
import Derived.Test.YtkilnneepnbckaaQd4
import Derived.Test.YtkilnneepnbckaaQd6
import Derived.Test.YtkilnneepnbckaaQd7
import Derived.Test.YtkilnneepnbckaaQd9
import Derived.Test.YtkilnneepnbckaaQd11
import Derived.Test.YtkilnneepnbckaaQd13
import Derived.Test.YtkilnneepnbckaaQd12
import Derived.WalkKit
import Derived.ProofKit
import Derived.OpenShut
import Derived.ShutString
import Derived.ChangeOld
import Derived.Below
import Derived.Lib.SmallJoins
import Derived.Lib.Hide
import Derived.WalkSmall
import Derived.Deep.Draws
import Derived.Deep.QuietTactic
import Derived.BigQuiet
import Derived.Deep.OwnRows
import Derived.Deep.RegionWith
import Derived.Deep.RegionHeld3
set_option linter.unusedSimpArgs false
set_option linter.unusedVariables false
set_option linter.unusedSectionVars false
namespace Go.Proofs.Ytkilnneepnbckaa.fnStars
open Go.ChangeShapes Go.WideShapes Go.ChangeAt Go.RowKit
open Go.ChangeMaps (open_string shut_string)
set_option linter.unusedVariables false

set_option maxRecDepth 100000 in
set_option maxHeartbeats 4000000 in
theorem walk (a0 : Option Addr) (len0 cap0 : Nat) (z0 : List Int) (w : World) (w0 : V.IsRow .u8 w a0 len0 cap0 z0) :
    Calls Try.prog 3 #[.slice a0 len0 cap0] w fun e w' => e = .returned (.bool true) ∧ Below w.heap.size w w' := by
  have hB := w0.bytes
  have hm := hB.1
  by_cases hbig : 4096 < len0
  · have hd : decide (4096 < len0) = true := by simpa using hbig
    clear hB w0
    go_enter Try.func3, Try.ntmps3
    go_wp2_with (first | (go_at_call 15; refine (V.big _ _ _ _ hm).mono ?_; rintro e w' ⟨rfl, rfl⟩))
    go_ret
    exact ⟨rfl, Below.refl _ _⟩
  have hd : decide (4096 < len0) = false := by simpa using hbig
  clear w0
  have HB := Lib.hid hB
  clear hB
  go_enter Try.func3, Try.ntmps3
  go_wp2_with (go_at_call 15; refine (V.big _ _ _ _ hm).mono ?_; rintro e w' ⟨rfl, rfl⟩)
  refine (V.drawStarMatrix _ _ _ _ HB.out).mono ?_
  rintro e w1 ⟨a, n, cap, R, rfl, hA, hb⟩
  have hRn := hA.1
  have HA1 := Lib.hid hA
  have HB1 := Lib.hid hb
  clear hb hA
  have hcs := M.star_cases R
  rw [hRn] at hcs
  obtain ⟨S, hS⟩ : ∃ S, S = M.starRes R := ⟨_, rfl⟩
  obtain ⟨P, hP⟩ : ∃ P, P = M.plusRes R := ⟨_, rfl⟩
  obtain ⟨C, hC⟩ : ∃ C, C = M.posRes R := ⟨_, rfl⟩
  rw [← hS, ← hP, ← hC] at hcs
  have HS := Lib.hid hS
  have HP := Lib.hid hP
  have HC := Lib.hid hC
  have HCS := Lib.hid hcs
  clear hS hP hC hcs hRn
  obtain ⟨Sm, Sc⟩ := S
  obtain ⟨Pm, Pc⟩ := P
  obtain ⟨Cv, Cc⟩ := C
  go_wp2_with fail
  refine (V.starMatrix _ _ _ R _ HA1.out).mono ?_
  rintro e w2 ⟨a2, n2, c2, rfl, ho, hb⟩
  rw [← HS.out] at ho ⊢
  have HX2 := Lib.hid ho.mat
  have HA2 := Lib.hid (HA1.out.below hb)
  have HB2 := Lib.hid (V.bnext HB1.out hb)
  clear hb ho HA1
  go_wp2_with fail
  refine (V.sStarMatrix _ _ _ R _ HA2.out).mono ?_
  rintro e w3 ⟨a3, n3, c3, rfl, ho, hb⟩
  rw [← HS.out] at ho ⊢
  have HY3 := Lib.hid ho.mat
  have HA3 := Lib.hid (HA2.out.below hb)
  have HX3 := Lib.hid (HX2.out.below hb)
  have HB3 := Lib.hid (V.bnext HB2.out hb)
  clear hb ho HA2 HX2
  go_wp2_with fail
  refine (V.plusMatrix _ _ _ R _ HA3.out).mono ?_
  rintro e w4 ⟨a4, n4, c4, rfl, ho, hb⟩
  rw [← HP.out] at ho ⊢
  have HU4 := Lib.hid ho.mat
  have HA4 := Lib.hid (HA3.out.below hb)
  have HX4 := Lib.hid (HX3.out.below hb)
  have HY4 := Lib.hid (HY3.out.below hb)
  have HB4 := Lib.hid (V.bnext HB3.out hb)
  clear hb ho HA3 HX3 HY3
  go_wp2_with fail
  refine (V.sPlusMatrix _ _ _ R _ HA4.out).mono ?_
  rintro e w5 ⟨a5, n5, c5, rfl, ho, hb⟩
  rw [← HP.out] at ho ⊢
  have HV5 := Lib.hid ho.mat
  have HA5 := Lib.hid (HA4.out.below hb)
  have HX5 := Lib.hid (HX4.out.below hb)
  have HY5 := Lib.hid (HY4.out.below hb)
  have HU5 := Lib.hid (HU4.out.below hb)
  have HB5 := Lib.hid (V.bnext HB4.out hb)
  clear hb ho HA4 HX4 HY4 HU4
  go_wp2_with fail
  refine (V.positiveCycle _ _ _ R _ HA5.out).mono ?_
  rintro e w6 ⟨a6, n6, c6, rfl, ho, hb⟩
  rw [← HC.out] at ho ⊢
  have HE6 := Lib.hid ho.ints'
  have HA6 := Lib.hid (HA5.out.below hb)
  have HX6 := Lib.hid (HX5.out.below hb)
  have HY6 := Lib.hid (HY5.out.below hb)
  have HU6 := Lib.hid (HU5.out.below hb)
  have HV6 := Lib.hid (HV5.out.below hb)
  have HB6 := Lib.hid (V.bnext HB5.out hb)
  clear hb ho HA5 HX5 HY5 HU5 HV5
  go_wp2_with fail
  refine (V.sPositiveCycle _ _ _ R _ HA6.out).mono ?_
  rintro e w7 ⟨a7, n7, c7, rfl, ho, hb⟩
  rw [← HC.out] at ho ⊢
  have HF7 := Lib.hid ho.ints'
  have HA7 := Lib.hid (HA6.out.below hb)
  have HX7 := Lib.hid (HX6.out.below hb)
  have HY7 := Lib.hid (HY6.out.below hb)
  have HU7 := Lib.hid (HU6.out.below hb)
  have HV7 := Lib.hid (HV6.out.below hb)
  have HE7 := Lib.hid (HE6.out.below hb)
  have HB7 := Lib.hid (V.bnext HB6.out hb)
  clear hb ho HA6 HX6 HY6 HU6 HV6 HE6
  go_wp2_with fail
  refine (V.likeM _ _ _ Sm _ _ _ _ HX7.out HY7.out).mono ?_
  rintro e w8 ⟨rfl, hb⟩
  have HA8 := Lib.hid (HA7.out.below hb)
  have HX8 := Lib.hid (HX7.out.below hb)
  have HY8 := Lib.hid (HY7.out.below hb)
  have HU8 := Lib.hid (HU7.out.below hb)
  have HV8 := Lib.hid (HV7.out.below hb)
  have HE8 := Lib.hid (HE7.out.below hb)
  have HF8 := Lib.hid (HF7.out.below hb)
  have HB8 := Lib.hid (V.bnext HB7.out hb)
  clear hb HA7 HX7 HY7 HU7 HV7 HE7 HF7
  go_wp2_with fail
  refine (V.likeM _ _ _ Pm _ _ _ _ HU8.out HV8.out).mono ?_
  rintro e w9 ⟨rfl, hb⟩
  have HA9 := Lib.hid (HA8.out.below hb)
  have HX9 := Lib.hid (HX8.out.below hb)
  have HY9 := Lib.hid (HY8.out.below hb)
  have HU9 := Lib.hid (HU8.out.below hb)
  have HV9 := Lib.hid (HV8.out.below hb)
  have HE9 := Lib.hid (HE8.out.below hb)
  have HF9 := Lib.hid (HF8.out.below hb)
  have HB9 := Lib.hid (V.bnext HB8.out hb)
  clear hb HA8 HX8 HY8 HU8 HV8 HE8 HF8
  go_wp2_with fail
  refine (V.likeV _ _ _ Cv _ _ _ _ HE9.out HF9.out).mono ?_
  rintro e w10 ⟨rfl, hb⟩
  have HA10 := Lib.hid (HA9.out.below hb)
  have HX10 := Lib.hid (HX9.out.below hb)
  have HY10 := Lib.hid (HY9.out.below hb)
  have HU10 := Lib.hid (HU9.out.below hb)
  have HV10 := Lib.hid (HV9.out.below hb)
  have HE10 := Lib.hid (HE9.out.below hb)
  have HF10 := Lib.hid (HF9.out.below hb)
  have HB10 := Lib.hid (V.bnext HB9.out hb)
  clear hb HA9 HX9 HY9 HU9 HV9 HE9 HF9
  rcases HCS.out with ⟨h1, h2⟩ | ⟨h1, h2⟩ | ⟨h1, h2⟩ | ⟨h1, h2, h3⟩ | ⟨h1, h2, h3, h4, h5⟩
  · obtain rfl : Sc = 1 := h1
    obtain rfl : Cc = 1 := h2
    go_wp2
    go_ret
    exact ⟨rfl, HB10.out⟩
  · obtain rfl : Sc = 5 := h1
    obtain rfl : Cc = 0 := h2
    go_wp2
    go_ret
    exact ⟨rfl, HB10.out⟩
  · obtain rfl : Sc = 3 := h1
    obtain rfl : Cc = 4 := h2
    go_wp2
    go_ret
    exact ⟨rfl, HB10.out⟩
  · obtain rfl : Sc = 0 := h1
    obtain rfl : Cc = 4 := h2
    obtain rfl : Pc = 3 := h3
    go_wp2
    go_ret
    exact ⟨rfl, HB10.out⟩
  · obtain rfl : Sc = 0 := h1
    obtain rfl : Cc = 4 := h2
    obtain rfl : Pc = 0 := h3
    have HUU := Lib.hid h4
    have HAD := Lib.hid h5
    clear h4 h5
    obtain ⟨Ur, hUr⟩ : ∃ Ur, Ur = M.unitRes n := ⟨_, rfl⟩
    have HUR := Lib.hid hUr
    rw [← hUr] at HAD HUU
    clear hUr
    obtain ⟨Um, Uc⟩ := Ur
    obtain rfl : Uc = 0 := HUU.out
    go_wp2_with fail
    refine (V.unitMatrix n _).mono ?_
    rintro e w11 ⟨ua, un, uc, rfl, ho, hb⟩
    rw [← HUR.out] at ho ⊢
    have HI11 := Lib.hid ho.mat
    have HX11 := Lib.hid (HX10.out.below hb)
    have HU11 := Lib.hid (HU10.out.below hb)
    have HB11 := Lib.hid (V.bnext HB10.out hb)
    clear hb ho
    go_wp2_with fail
    refine (V.addMatrices _ _ _ Um _ _ _ Pm _ HI11.out HU11.out).mono ?_
    rintro e w12 ⟨sa, sn, sc, rfl, ho, hb⟩
    have e5 : M.addRes Um Pm = (Sm, 0) := HAD.out
    rw [e5] at ho ⊢
    have HT12 := Lib.hid ho.mat
    have HX12 := Lib.hid (HX11.out.below hb)
    have HB12 := Lib.hid (V.bnext HB11.out hb)
    clear hb ho e5
    go_wp2_with fail
    refine (V.likeM _ _ _ Sm _ _ _ _ HT12.out HX12.out).mono ?_
    rintro e w13 ⟨rfl, hb⟩
    have HB13 := Lib.hid (V.bnext HB12.out hb)
    clear hb
    go_wp2
    go_ret
    exact ⟨rfl, HB13.out⟩
end Go.Proofs.Ytkilnneepnbckaa.fnStars
