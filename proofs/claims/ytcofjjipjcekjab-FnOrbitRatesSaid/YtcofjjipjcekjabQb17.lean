/- Texts laid together: Pow, Rat4, SumO, OpenM, Thn. -/
import Derived.Test.YtcofjjipjcekjabRows
import Derived.Test.YtcofjjipjcekjabQb1
import Derived.Test.YtcofjjipjcekjabQb2
import Derived.WalkKit
import Derived.ProofKit
import Derived.WalkSmall
import Derived.Deep.QuietTactic
import Derived.BigQuiet
import Derived.BigRegion
import Derived.Deep.Draws
import Derived.Lib.Hide
import Derived.OpenShut
import Derived.Deep.OwnRows
import Derived.Test.YtcofjjipjcekjabQb3
import Derived.StillTailTactics
import Derived.Test.YtcofjjipjcekjabQb7
import Derived.Test.YtcofjjipjcekjabQb6
import Derived.Maps.AppendAt
import Derived.Deep.Onto
import Derived.Deep.Matrix
set_option linter.unusedSimpArgs false
set_option linter.unusedVariables false
set_option linter.unusedSectionVars false
namespace Go.Proofs.Ytcofjjipjcekjab.V
open Go.RowKit

set_option maxRecDepth 100000 in
set_option maxHeartbeats 4000000 in
theorem powerMatrix_ok (a : Option Addr) (n cap : Nat) (R : List (List Int)) (m : Nat) (w : World) (h : Mat w a n R) (hR : M.isMat R = true) (hs : M.wid R = n) (hm : m ≤ 100) :
    Calls Try.prog 31 #[.slice a n cap, .int .i64 m] w (MRes (M.pwRes R m) w) := by
  have HA := Lib.hid h
  have HL := Lib.hid h.1
  have HR := Lib.hid hR
  have HS := Lib.hid hs
  obtain ⟨m1, m2, -, -, -, -⟩ := M.isMat_t hR
  have HT : Hid (Rect R n n) := by
    have := rect_mat hR
    rw [h.1, hs] at this
    exact this
  rw [h.1] at m1 m2
  obtain ⟨b, off, ra, rc, rfl, -, hc⟩ := h.rect_first HT.out (by omega)
  clear h hR hs
  go_enter Try.func31, Try.ntmps31
  go_wp2_with fail
  refine (isMatrix_b _ _ _ R _ true HR.out HA.out).mono ?_
  rintro e w' ⟨rfl, rfl⟩
  go_wp2_with fail
  refine (unitOf n _ m1 m2).mono ?_
  rintro e w1 ⟨a1, cap1, rfl, ho, hb⟩
  have HO0 : Hid (OwnM w1 w.heap.size (.slice a1 n cap1) (M.powN R 0).1) := by
    show OwnM _ _ _ (M.unitM R.length)
    rw [HL.out]; exact ho
  have HB0 := Lib.hid hb
  clear ho hb hc
  go_wp2
  go_loopw [6, 27] (fun p i wr => ∃ (k : Nat) (a2 : Option Addr) (c2 : Nat), k ≤ m ∧ i = .int .i64 k ∧ p = .slice a2 n c2 ∧ OwnM wr w.heap.size (.slice a2 n c2) (M.powN R k).1 ∧ Hid ((M.powN R k).2 = true) ∧ Below w.heap.size w wr) (fun _ i _ => m - (intOf i).toNat)
  case atStart => exact ⟨0, _, _, Nat.zero_le _, rfl, rfl, HO0.out, rfl, HB0.out⟩
  case round =>
    obtain ⟨k, a2, c2, hk, rfl, rfl, hO, HP, hb⟩ := hrel
    have HO := Lib.hid hO
    have HB := Lib.hid hb
    clear hO hb HO0 HB0
    by_cases hlt : k < m
    · have hki : (k : Int) < (m : Int) := by omega
      have HPM : Hid (M.isMat (M.powN R k).1 = true) := M.powN_ok (by rw [HL.out]; exact m1) (by rw [HL.out]; exact m2) k HP.out
      have HPT : Hid (Rect (M.powN R k).1 n n) := by
        have := rect_mat HPM.out
        rw [M.powN_len HP.out, HL.out, M.powN_wid (by rw [HL.out]; exact m1) (by rw [HL.out, HS.out]) HP.out, HL.out] at this
        exact this
      have HST := Lib.hid (M.powN_step HP.out)
      have HF : Hid (M.mulM (M.powN R k).1 R = M.mk n n (fun i j => M.dot (M.powN R k).1 R i j n)) := by
        show _ = _; unfold M.mulM; rw [M.powN_len HP.out, HL.out, HS.out]
      go_wp2_with fail
      refine (maxPlus _).mono ?_
      rintro e w2 ⟨rfl, hb2⟩
      have HB2 := Lib.hid hb2
      have hsz := HB.out.size
      clear hb2
      go_wp2_with fail
      refine (multiplied _ _ _ n (M.powN R k).1 _ _ n R _ (HO.out.below HB2.out).mat (HA.out.below (HB.out.trans (HB2.out.mono hsz))) HPT.out HT.out HPM.out HR.out m1 m2 m1 m2 m1 m2).mono ?_
      rintro e w3 ⟨a3, c3, rfl, ho, hb3⟩
      have HB3 := Lib.hid (bnext (bnext HB.out HB2.out) hb3)
      have HO3 : Hid (OwnM w3 w.heap.size (.slice a3 n c3) (M.mulM (M.powN R k).1 R)) := by
        show OwnM _ _ _ _
        rw [HF.out]
        exact ho.mono (by have := HB2.out.size; omega)
      clear ho hb3
      by_cases hM : M.isMat (M.mulM (M.powN R k).1 R) = true
      · have HM := Lib.hid hM
        have HP2 : Hid ((M.powN R (k + 1)).2 = true) := by show _ = _; rw [HST.out]; exact HM.out
        have HO4 : Hid (OwnM w3 w.heap.size (.slice a3 n c3) (M.powN R (k + 1)).1) := by
          show OwnM _ _ _ _; rw [HST.out]; exact HO3.out
        clear hM
        go_wp2_with fail
        refine (isMatrix_b _ _ _ (M.mulM (M.powN R k).1 R) _ true HM.out HO3.out.mat).mono ?_
        rintro e w' ⟨rfl, rfl⟩
        go_wp2
        go_roundw
        case rel => exact ⟨k + 1, _, _, by omega, by go_num, rfl, HO4.out, HP2, HB3.out⟩
        case measure => simp [intOf]; omega
      · simp only [Bool.not_eq_true] at hM
        have HM := Lib.hid hM
        have HE : Hid (M.pwRes R m = ([], 3)) := by
          show _ = _
          unfold M.pwRes
          rw [M.powN_false (show (M.powN R (k + 1)).2 = false by rw [HST.out]; exact HM.out) (by omega)]
          rfl
        clear hM
        go_wp2_with fail
        refine (isMatrix_b _ _ _ (M.mulM (M.powN R k).1 R) _ false HM.out HO3.out.mat).mono ?_
        rintro e w' ⟨rfl, rfl⟩
        go_wp2
        go_ret2
        exact MRes.nil HE.out HB3.out
    · obtain rfl : k = m := by omega
      have HE : Hid (M.pwRes R k = ((M.powN R k).1, 0)) := by
        show _ = _; unfold M.pwRes; rw [HP.out]; rfl
      go_wp2
      go_ret2
      rw [HE.out]
      exact ⟨_, _, _, rfl, HO.out, HB.out⟩


set_option maxRecDepth 100000 in
set_option maxHeartbeats 1000000 in
theorem powerMatrix (a : Option Addr) (n cap : Nat) (R : List (List Int)) (m : Int) (w : World) (h : Mat w a n R) :
    Calls Try.prog 31 #[.slice a n cap, .int .i64 m] w (MRes (M.powRes R m) w) := by
  by_cases hR : M.isMat R = true
  · by_cases hm : 0 ≤ m ∧ m ≤ 100
    · by_cases hs : M.wid R = n
      · obtain ⟨k, rfl⟩ := Int.eq_ofNat_of_zero_le hm.1
        have e : M.powRes R (k : Int) = M.pwRes R k := by
          unfold M.powRes; rw [if_pos hR, if_pos hm, if_pos (by rw [h.1, hs])]; rfl
        rw [e]
        exact powerMatrix_ok _ _ _ _ _ _ h hR hs (by omega)
      · have HE : Hid (M.powRes R m = ([], 5)) := by
          show _ = _; unfold M.powRes; rw [if_pos hR, if_pos hm, if_neg (by rw [h.1]; exact fun e => hs e.symm)]
        have HA := Lib.hid h
        have HR := Lib.hid hR
        obtain ⟨m1, m2, c1, c2, -, -⟩ := M.isMat_t hR
        rw [h.1] at m1 m2
        obtain ⟨b, off, ra, L, rc, rfl, hL, hc⟩ := h.first (by omega)
        rw [← hL] at hs
        obtain ⟨hm1, hm2⟩ := hm
        have hne : (n == L) = false := by simp; omega
        have hne2 : (n != L) = true := by simp; omega
        have hne3 : ((n : Int) != (L : Int)) = true := by simp; omega
        clear h hR hL
        go_enter Try.func31, Try.ntmps31
        go_wp2_with fail
        refine (isMatrix_b _ _ _ R _ true HR.out HA.out).mono ?_
        rintro e w' ⟨rfl, rfl⟩
        go_wp2
        go_ret2
        exact MRes.nil HE.out (Below.refl _ _)
    · have HE : Hid (M.powRes R m = ([], 2)) := by
        show _ = _; unfold M.powRes; rw [if_pos hR, if_neg hm]
      have HA := Lib.hid h
      have HR := Lib.hid hR
      clear h hR
      by_cases h0 : m < 0
      · go_enter Try.func31, Try.ntmps31
        go_wp2_with fail
        refine (isMatrix_b _ _ _ R _ true HR.out HA.out).mono ?_
        rintro e w' ⟨rfl, rfl⟩
        go_wp2
        go_ret2
        exact MRes.nil HE.out (Below.refl _ _)
      · have h1 : 100 < m := by omega
        go_enter Try.func31, Try.ntmps31
        go_wp2_with fail
        refine (isMatrix_b _ _ _ R _ true HR.out HA.out).mono ?_
        rintro e w' ⟨rfl, rfl⟩
        go_wp2
        go_ret2
        exact MRes.nil HE.out (Below.refl _ _)
  · simp only [Bool.not_eq_true] at hR
    have HE : Hid (M.powRes R m = ([], 1)) := by
      show _ = _; unfold M.powRes; rw [hR, if_neg (by simp)]
    have HA := Lib.hid h
    have HR := Lib.hid hR
    clear h hR
    go_enter Try.func31, Try.ntmps31
    go_wp2_with fail
    refine (isMatrix_b _ _ _ R _ false HR.out HA.out).mono ?_
    rintro e w' ⟨rfl, rfl⟩
    go_wp2
    go_ret2
    exact MRes.nil HE.out (Below.refl _ _)

end Go.Proofs.Ytcofjjipjcekjab.V

namespace Go.Proofs.Ytcofjjipjcekjab.V
open Go.RowKit

set_option maxRecDepth 100000 in
set_option maxHeartbeats 400000 in
theorem eqRatio (a b : Int) (w : World) :
    Calls Try.prog 48 #[.agg #[.int .i64 a, .int .i64 b], .agg #[.int .i64 a, .int .i64 b]] w fun e w' => e = .returned (.bool true) ∧ Below w.heap.size w w' := by
  go_enter Try.func48, Try.ntmps48
  go_wp2
  go_ret
  exact ⟨rfl, b_alloc2 _ _ _⟩
end Go.Proofs.Ytcofjjipjcekjab.V

namespace Go.Proofs.Ytcofjjipjcekjab.V
open Go.RowKit
set_option maxRecDepth 100000 in
set_option maxHeartbeats 400000 in
theorem sumOf (a : Option Addr) (n cap : Nat) (l : List Int) (w : World) (h : Ints .i64 w a n l) :
    Calls Try.prog 26 #[.slice a n cap] w fun e w' => e = .returned (.tuple #[.int .i64 (M.sumM l).1, .int .i64 (M.sumM l).2]) ∧ w = w' := by
  obtain ⟨hl, hm, hr⟩ := h
  unfold maxLen at hm
  have HL := Lib.hid hl
  clear hl
  by_cases hbig : 200 < n
  · clear hr
    go_enter Try.func26, Try.ntmps26
    go_wp2
    go_ret2
    exact ⟨retP (by have := HL.out; simp [M.sumM, this, hbig]), rfl⟩
  · go_enter Try.func26, Try.ntmps26
    go_wp2
    go_loop [4, 12] (fun s i => ∃ k : Nat, k ≤ n ∧ i = .int .i64 k ∧ s = .int .i64 (M.maxL (l.take k)) ∧ Hid ((l.take k).all M.isVal = true)) (fun _ i => n - (intOf i).toNat)
    case atStart => exact ⟨0, Nat.zero_le _, rfl, rfl, rfl⟩
    case round =>
      obtain ⟨k, hk, rfl, rfl, HA⟩ := hrel
      by_cases hlt : k < n
      · rcases hr with h0 | ⟨b, off, rfl, hbl, hc⟩
        · omega
        · have hck := hc k hlt
          have hsn := M.take_snoc l k (by have := HL.out; omega)
          obtain ⟨x, hx⟩ : ∃ x, x = l.getD k 0 := ⟨_, rfl⟩
          rw [← hx] at hck hsn
          have HX := Lib.hid hx
          have HS := Lib.hid hsn
          clear hc hx hsn
          by_cases hv : M.isVal x = true
          · have HM : Hid (M.maxL (l.take (k + 1)) = max (M.maxL (l.take k)) x) := by show _ = _; rw [HS.out, M.maxL_snoc]
            have HA2 : Hid ((l.take (k + 1)).all M.isVal = true) := by show _ = _; rw [HS.out, M.all_snoc, HA.out, hv]; rfl
            go_wp2_with (first | (go_at_call 74; refine (isValue _ _).mono ?_; rintro e w' ⟨rfl, rfl⟩) | (go_at_call 75; refine (plus _ _ _).mono ?_; rintro e w' ⟨rfl, rfl⟩))
            go_round
            case rel => exact ⟨k + 1, by omega, by go_num, by rw [HM.out], HA2⟩
            case measure => simp [intOf]; omega
          · simp only [Bool.not_eq_true] at hv
            have HF : Hid (l.all M.isVal = false) := M.all_false _ l k (by have := HL.out; omega) (by rw [← HX.out]; exact hv)
            go_wp2_with (first | (go_at_call 74; refine (isValue _ _).mono ?_; rintro e w' ⟨rfl, rfl⟩) | (go_at_call 75; refine (plus _ _ _).mono ?_; rintro e w' ⟨rfl, rfl⟩))
            go_ret2
            exact ⟨retP (by have := HL.out; have h2 := HF.out; simp only [M.sumM, h2]; rw [if_neg (by omega)]; rfl), rfl⟩
      · have hkn : k = n := by omega
        subst hkn
        have HT : Hid (l.take k = l) := M.take_all l k (by have := HL.out; omega)
        clear hr
        go_wp2
        go_ret2
        exact ⟨retP (by have := HL.out; have h2 := HA.out; rw [HT.out] at h2; simp only [M.sumM, h2]; rw [if_neg (by omega), HT.out]; rfl), rfl⟩

end Go.Proofs.Ytcofjjipjcekjab.V

namespace Go.Proofs.Ytcofjjipjcekjab.V
open Go.RowKit Go.ChangeShapes Go.WideShapes Go.Deep

theorem mat_open {H : Type} {enc : TypeId × Value → H} {P : Program} {w : World} {base : Nat} {held : Bool} {t e q : TypeId} {fuel : Nat} {cs : List Value} {x : DataW H × List MemPlace} (ht : P.underlying t = some (.slice e)) (he : P.underlying e = some (.slice q)) (hq : P.underlying q = some (.int .i64))
    (ce : P.cellsOf e = 1) (cq : P.cellsOf q = 1) (h : DataW.trod enc P w base (fun _ => true) held fuel t cs = some x) :
    ∃ a len cap R, cs = [.slice a len cap] ∧ Mat w a len R := by
  rcases open_int_rows ht he hq ce cq h with ⟨rfl, -⟩ | ⟨a, len, cap, A, L, C, Z, rfl, hb, hl, hm, -, hr⟩
  · exact ⟨none, 0, 0, [], rfl, rfl, Nat.zero_le _, .inl rfl⟩
  · refine ⟨some a, len, cap, (List.range len).map fun r => (Z r).take (L r), rfl, by simp, by omega, ?_⟩
    by_cases h0 : len = 0
    · exact .inl h0
    · have hsp : a.spot = none := by
        have := (hr 0 (by omega)).1
        simpa [Addr.add] using World.cell?_spot this
      obtain ⟨b, off, spot⟩ := a
      simp only at hsp
      subst hsp
      refine .inr ⟨b, off, rfl, ?_, fun i hi => ?_⟩
      · have := cell_lt (hr 0 (by omega)).1
        simpa [Addr.add] using this
      · obtain ⟨h1, h2, h3, h4, h5, h6, h7⟩ := hr i (by omega)
        have eR : ((List.range len).map fun r => (Z r).take (L r)).getD i [] = (Z i).take (L i) := by simp [hi]
        rw [eR]
        have eL : ((Z i).take (L i)).length = L i := by rw [List.length_take]; omega
        rw [eL]
        refine ⟨A i, C i, by rw [← Go.WideShapes.add_plain]; exact h1, eL, by omega, ?_⟩
        by_cases hL : L i = 0
        · exact .inl hL
        · cases hA : A i with
          | none => have := h6 hA; omega
          | some a' =>
            obtain ⟨-, hc⟩ := h7 a' hA
            obtain ⟨b', off', rfl, hc'⟩ := ints_at (k := .i64) (zs := Z i) (fun j hj => hc j (by omega)) (by omega)
            refine .inr ⟨b', off', rfl, cell_lt (hc' 0 (by omega)), fun j hj => ?_⟩
            rw [hc' j (by omega)]
            simp [List.getD_eq_getElem?_getD, hj]
end Go.Proofs.Ytcofjjipjcekjab.V

namespace Go.Proofs.Ytcofjjipjcekjab.V
open Go.RowKit
theorem thn {a b c : World} (h1 : Below a.heap.size a b) (h2 : Below b.heap.size b c) : Below a.heap.size a c := h1.trans (h2.mono h1.size)
end Go.Proofs.Ytcofjjipjcekjab.V
