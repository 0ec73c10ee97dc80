/- Texts laid together: Dua, Draw1, Draw2, DrawM, DrawM2, DrawPw, DrawV, D3a. -/
import Derived.Test.YtmobcobdpemlnaaQa6
import Derived.Test.YtmobcobdpemlnaaQa12
import Derived.Test.YtmobcobdpemlnaaQa14
import Derived.Test.YtmobcobdpemlnaaRows
import Derived.Test.YtmobcobdpemlnaaQa1
import Derived.Test.YtmobcobdpemlnaaQa2
import Derived.WalkKit
import Derived.ProofKit
import Derived.WalkSmall
import Derived.Deep.QuietTactic
import Derived.BigQuiet
import Derived.BigRegion
import Derived.Deep.Draws
import Derived.Deep.OwnRows
import Derived.Lib.Hide
import Derived.OpenShut
import Derived.Test.YtmobcobdpemlnaaQa7
import Derived.Deep.RegionHeld3
import Derived.Maps.AppendAt
set_option linter.unusedSimpArgs false
set_option linter.unusedVariables false
set_option linter.unusedSectionVars false
namespace Go.Proofs.Ytmobcobdpemlnaa
namespace V
set_option maxRecDepth 100000
open Go.RowKit
set_option maxRecDepth 100000 in
set_option maxHeartbeats 1000000 in
theorem isFiniteList (a : Option Addr) (n cap : Nat) (R : List (List Int)) (a' : Option Addr) (N cap' : Nat) (l : List Int) (b : Bool) (hb : M.finL n l = b) (n1 : 1 ≤ n) (n2 : n ≤ 10) (w : World) (h : Mat w a n R) (h' : Ints .i64 w a' N l) :
    Calls Try.prog 57 #[.slice a n cap, .slice a' N cap'] w fun e w' => e = .returned (.bool b) ∧ w = w' := by
  have HI := Lib.hid h'
  have HL := Lib.hid h'.1
  rw [M.finL_vec n1 n2] at hb
  by_cases hN : N = n
  · have hl : l.length = n := by rw [h'.1, hN]
    rw [decide_eq_true hl, Bool.true_and] at hb
    have hne : ((N : Int) == (n : Int)) = true := by simp; omega
    obtain ⟨c, hc⟩ : ∃ c, c = M.isVec l := ⟨_, rfl⟩
    rw [← hc] at hb
    have HC := Lib.hid hc.symm
    obtain ⟨d, hd⟩ : ∃ d, d = l.any fun v => decide (v = -1000000000000000) := ⟨_, rfl⟩
    have HD : Hid (d = true ↔ (-1000000000000000 : Int) ∈ l) := by
      show _ ↔ _
      rw [hd, List.any_eq_true]
      exact ⟨fun ⟨x, hx, e⟩ => by rw [decide_eq_true_eq] at e; rw [← e]; exact hx, fun h => ⟨_, h, by simp⟩⟩
    rw [← hd] at hb
    have HDm : Hid (d = true → (-1000000000000000 : Int) ∈ l) := fun h => HD.out.1 h
    have HDn : Hid (d = false → ¬ (-1000000000000000 : Int) ∈ l) := fun h h2 => by rw [HD.out.2 h2] at h; cases h
    clear h h' hc hd hl HD
    subst hN
    go_enter Try.func57, Try.ntmps57
    cases c with
    | false =>
      have HB : Hid (b = false) := by show _ = _; rw [← hb]; rfl
      clear hb
      go_wp2_with fail
      refine (isVector_b _ _ _ l _ false HC.out HI.out).mono ?_
      rintro e w' ⟨rfl, rfl⟩
      go_wp2
      go_ret
      exact ⟨retB HB.out.symm, rfl⟩
    | true =>
      have HB : Hid (b = !d) := by show _ = _; rw [← hb]; rfl
      clear hb
      cases d with
      | true =>
        go_wp2_with fail
        refine (isVector_b _ _ _ l _ true HC.out HI.out).mono ?_
        rintro e w' ⟨rfl, rfl⟩
        go_wp2_with fail
        refine (containsI _ _ _ l _ true _ HI.out ⟨fun _ => HDm.out (by first | rfl | trivial), fun _ => rfl⟩).mono ?_
        rintro e w' ⟨rfl, rfl⟩
        go_wp2
        go_ret
        exact ⟨retB HB.out.symm, rfl⟩
      | false =>
        go_wp2_with fail
        refine (isVector_b _ _ _ l _ true HC.out HI.out).mono ?_
        rintro e w' ⟨rfl, rfl⟩
        go_wp2_with fail
        refine (containsI _ _ _ l _ false _ HI.out ⟨fun h => (by cases h), fun h => absurd h (HDn.out (by first | rfl | trivial))⟩).mono ?_
        rintro e w' ⟨rfl, rfl⟩
        go_wp2
        go_ret
        exact ⟨retB HB.out.symm, rfl⟩
  · have hl : ¬ l.length = n := by rw [h'.1]; exact hN
    rw [decide_eq_false hl] at hb
    have HB : Hid (b = false) := by show _ = _; rw [← hb]; rfl
    have hne : ((N : Int) == (n : Int)) = false := by simp; omega
    have hne2 : ((N : Int) != (n : Int)) = true := by simp; omega
    have hne3 : (N == n) = false := by simpa using hN
    clear h h' hb hl
    go_enter Try.func57, Try.ntmps57
    go_wp2
    go_ret
    exact ⟨retB HB.out.symm, rfl⟩
theorem dual_row {w : World} {a : Option Addr} {n i : Nat} {R : List (List Int)} (h : Mat w a n R) (hi : i < n) : ∃ b off q c, a = some ⟨b, off, none⟩ ∧ w.cell? ⟨b, off + i, none⟩ = some (.slice q (R.getD i []).length c) ∧ Ints .i64 w q (R.getD i []).length (R.getD i []) := by
  rcases h.2.2 with h0 | ⟨b, off, rfl, -, hc⟩
  · omega
  · obtain ⟨q, c, h1, h2⟩ := hc i hi
    exact ⟨b, off, q, c, rfl, h1, h2⟩
set_option maxRecDepth 100000 in
set_option maxHeartbeats 2000000 in
theorem isDual (a : Option Addr) (n cap : Nat) (R : List (List Int)) (a' : Option Addr) (N cap' : Nat) (u : List Int) (a2 : Option Addr) (N2 cap2 : Nat) (v : List Int) (w : World) (h : Mat w a n R) (h' : Ints .i64 w a' N u) (h2 : Ints .i64 w a2 N2 v) :
    Calls Try.prog 16 #[.slice a n cap, .slice a' N cap', .slice a2 N2 cap2] w fun e w' => e = .returned (.bool (M.dualB R u v)) ∧ Below w.heap.size w w' := by
  have HA := Lib.hid h
  have HU := Lib.hid h'
  have HV := Lib.hid h2
  by_cases hs : M.sqB R = true
  · obtain ⟨r1, n1, n2, r4⟩ := sq_parts h hs
    have HS := Lib.hid hs
    have hRn : R.length = n := h.1
    have HRn := Lib.hid hRn
    obtain ⟨b1, hb1⟩ : ∃ b, b = M.finL n u := ⟨_, rfl⟩
    have HB1 := Lib.hid hb1.symm
    cases b1 with
    | false =>
      have HE : Hid (M.dualB R u v = false) := M.dual_u (by rw [hRn]; exact hb1.symm)
      clear h h' h2 hs hb1 r1 r4 hRn
      go_enter Try.func16, Try.ntmps16
      go_wp2_with fail
      refine (isSquare_b _ _ _ R _ true HS.out HA.out).mono ?_
      rintro e w' ⟨rfl, rfl⟩
      go_wp2_with fail
      refine (isFiniteList _ _ _ R _ _ _ u false HB1.out n1 n2 _ HA.out HU.out).mono ?_
      rintro e w' ⟨rfl, rfl⟩
      go_wp2
      go_ret
      exact ⟨retB HE.out.symm, Below.refl _ _⟩
    | true =>
      obtain ⟨b2, hb2⟩ : ∃ b, b = M.finL n v := ⟨_, rfl⟩
      have HB2 := Lib.hid hb2.symm
      cases b2 with
      | false =>
        have HE : Hid (M.dualB R u v = false) := M.dual_v (by rw [hRn]; exact hb2.symm)
        clear h h' h2 hs hb1 hb2 r1 r4 hRn
        go_enter Try.func16, Try.ntmps16
        go_wp2_with fail
        refine (isSquare_b _ _ _ R _ true HS.out HA.out).mono ?_
        rintro e w' ⟨rfl, rfl⟩
        go_wp2_with fail
        refine (isFiniteList _ _ _ R _ _ _ u true HB1.out n1 n2 _ HA.out HU.out).mono ?_
        rintro e w' ⟨rfl, rfl⟩
        go_wp2_with fail
        refine (isFiniteList _ _ _ R _ _ _ v false HB2.out n1 n2 _ HA.out HV.out).mono ?_
        rintro e w' ⟨rfl, rfl⟩
        go_wp2
        go_ret
        exact ⟨retB HE.out.symm, Below.refl _ _⟩
      | true =>
        obtain ⟨u1, u2⟩ := M.finL_t hb1.symm
        obtain ⟨v1, v2⟩ := M.finL_t hb2.symm
        have hNu : N = n := by rw [← h'.1, u1]
        have hNv : N2 = n := by rw [← h2.1, v1]
        subst hNu hNv
        have HRow : Hid (∀ i, i < N2 → M.atMostB (R.getD i []) (M.shvL v (u.getD i 0)) = M.rowB R u v i) := fun i hi => M.rowB_most hs (by rw [hRn]; exact hb2.symm) (by rw [hRn]; exact hb1.symm) (by rw [hRn]; exact hi)
        have HF : Hid (∀ i, i < N2 → M.rowB R u v i = false → M.dualB R u v = false) := fun i hi h => M.dual_r (by rw [hRn]; exact hi) h
        have HT : Hid ((∀ i, i < N2 → M.rowB R u v i = true) → M.dualB R u v = true) := fun h => M.dual_t hs (by rw [hRn]; exact hb1.symm) (by rw [hRn]; exact hb2.symm) (fun i hi => h i (by rw [← hRn]; exact hi))
        have HLen : Hid (∀ i, i < N2 → (R.getD i []).length = N2) := fun i hi => by
          obtain ⟨hm, hw⟩ := M.sqB_t hs
          rw [M.isMat_len hm (by rw [hRn]; exact hi), ← hw, hRn]
        have HWv : Hid (∀ k, k < N2 → Wid (v.getD k 0)) := fun k hk => by have := v2 k hk; unfold Wid; omega
        have HWu : Hid (∀ k, k < N2 → Wid (u.getD k 0)) := fun k hk => by have := u2 k hk; unfold Wid; omega
        clear h h' h2 hs hb1 hb2 r1 r4 hRn u1 u2 v1 v2
        go_enter Try.func16, Try.ntmps16
        go_wp2_with fail
        refine (isSquare_b _ _ _ R _ true HS.out HA.out).mono ?_
        rintro e w' ⟨rfl, rfl⟩
        go_wp2_with fail
        refine (isFiniteList _ _ _ R _ _ _ u true HB1.out n1 n2 _ HA.out HU.out).mono ?_
        rintro e w' ⟨rfl, rfl⟩
        go_wp2_with fail
        refine (isFiniteList _ _ _ R _ _ _ v true HB2.out n1 n2 _ HA.out HV.out).mono ?_
        rintro e w' ⟨rfl, rfl⟩
        go_wp2
        go_loopw [7, 8, 26] (fun _ _ i wr => ∃ k : Nat, k ≤ N2 ∧ i = .int .i64 k ∧ Hid (∀ i, i < k → M.rowB R u v i = true) ∧ Hid (Below w.heap.size w wr)) (fun _ _ i _ => N2 - (intOf i).toNat)
        case atStart => exact ⟨0, Nat.zero_le _, rfl, fun i hi => absurd hi (Nat.not_lt_zero i), Below.refl _ _⟩
        case round =>
          obtain ⟨k, hk, rfl, HK, HB⟩ := hrel
          by_cases hlt : k < N2
          · have hki : (k : Int) < (N2 : Int) := by omega
            obtain ⟨b, off, q, c, rfl, hc, hrow⟩ := dual_row (HA.out.below HB.out) hlt
            obtain ⟨b', off', x, rfl, -, hx, hcx⟩ := (HU.out.below HB.out).at k hlt
            obtain ⟨r, hr⟩ : ∃ r, r = R.getD k [] := ⟨_, rfl⟩
            have hlr := HLen.out k hlt
            have hbr := HRow.out k hlt
            rw [← hr] at hc hrow hlr hbr
            rw [hlr] at hc hrow
            have hwx := HWu.out k hlt
            rw [← hx] at hwx hbr
            have HX := Lib.hid hwx
            have HR1 := Lib.hid hrow
            have HBr := Lib.hid hbr
            have hN10 : N2 ≤ 1000 := by omega
            clear hr hlr hx hwx hrow hbr
            go_wp2_with fail
            refine (shiftedList _ _ _ v x _ (HV.out.below HB.out) hN10 HWv.out HX.out).mono ?_
            rintro e w1 ⟨b1, rfl, ho, hb⟩
            have HO1 := Lib.hid ho.ints'
            have HR2 := Lib.hid (HR1.out.below hb)
            have HB2 := Lib.hid (bnext HB.out hb)
            clear ho hb
            go_wp2_with fail
            refine (isAtMost _ _ _ r _ _ (M.shvL v x) _ HR2.out HO1.out hN10).mono ?_
            rintro e w' ⟨rfl, rfl⟩
            rw [HBr.out]
            obtain ⟨z, hz⟩ : ∃ z, z = M.rowB R u v k := ⟨_, rfl⟩
            rw [← hz]
            have HZ := Lib.hid hz.symm
            clear hz
            cases z with
            | false =>
              have HE := Lib.hid (HF.out k hlt HZ.out)
              go_wp2
              go_ret
              exact ⟨retB HE.out.symm, HB2.out⟩
            | true =>
              go_wp2
              go_roundw
              case rel => exact ⟨k + 1, by omega, by go_num, Lib.hid (fun i hi => (if e : i = k then e ▸ HZ.out else HK.out i (by omega))), HB2⟩
              case measure => simp [intOf]; omega
          · obtain rfl : k = N2 := by omega
            have HE := Lib.hid (HT.out HK.out)
            go_wp2
            go_ret
            exact ⟨retB HE.out.symm, HB.out⟩
  · simp only [Bool.not_eq_true] at hs
    have HS := Lib.hid hs
    have HE : Hid (M.dualB R u v = false) := M.dual_s hs
    clear h h' h2 hs
    go_enter Try.func16, Try.ntmps16
    go_wp2_with (go_at_call 56; refine (isSquare_b _ _ _ R _ false HS.out HA.out).mono ?_; rintro e w' ⟨rfl, rfl⟩)
    go_ret
    exact ⟨retB HE.out.symm, Below.refl _ _⟩
theorem dual_two {w : World} {a : Option Addr} {n i j : Nat} {R : List (List Int)} (h : Mat w a n R) (hi : i < n) (hj : j < n) (hl : (R.getD i []).length = n) : ∃ b off q o c x, a = some ⟨b, off, none⟩ ∧ w.cell? ⟨b, off + i, none⟩ = some (.slice (some ⟨q, o, none⟩) n c) ∧ x = M.ent R i j ∧ w.cell? ⟨q, o + j, none⟩ = some (.int .i64 x) := by
  obtain ⟨b, off, q, c, rfl, hc, hr⟩ := dual_row h hi
  rw [hl] at hc hr
  obtain ⟨b', off', x, rfl, -, hx, hcx⟩ := hr.at j hj
  exact ⟨b, off, b', off', c, x, rfl, hc, hx, hcx⟩
set_option maxRecDepth 100000 in
set_option maxHeartbeats 4000000 in
theorem sIsDual (a : Option Addr) (n cap : Nat) (R : List (List Int)) (a' : Option Addr) (N cap' : Nat) (u : List Int) (a2 : Option Addr) (N2 cap2 : Nat) (v : List Int) (w : World) (h : Mat w a n R) (h' : Ints .i64 w a' N u) (h2 : Ints .i64 w a2 N2 v) :
    Calls Try.prog 18 #[.slice a n cap, .slice a' N cap', .slice a2 N2 cap2] w fun e w' => e = .returned (.bool (M.dualB R u v)) ∧ Below w.heap.size w w' := by
  have HA := Lib.hid h
  have HU := Lib.hid h'
  have HV := Lib.hid h2
  by_cases hs : M.sqB R = true
  · obtain ⟨r1, n1, n2, r4⟩ := sq_parts h hs
    have HS := Lib.hid hs
    have hRn : R.length = n := h.1
    have HRn := Lib.hid hRn
    by_cases hNu : N = n
    · subst hNu
      by_cases hNv : N2 = N
      · subst hNv
        obtain ⟨b1, hb1⟩ : ∃ b, b = u.all M.isFin := ⟨_, rfl⟩
        have HB1 := Lib.hid hb1.symm
        cases b1 with
        | false =>
          have HE : Hid (M.dualB R u v = false) := M.dual_u (by unfold M.finL; rw [← hb1]; simp)
          clear h h' h2 hs hb1 r1 r4 hRn
          go_enter Try.func18, Try.ntmps18
          go_wp2_with fail
          refine (sSquare_b _ _ _ R _ true HS.out HA.out).mono ?_
          rintro e w' ⟨rfl, qd, rfl⟩
          go_wp2_with fail
          refine (sAllF_b _ _ _ u false HB1.out _ (HU.out.below (b_draws w qd))).mono ?_
          rintro e w' ⟨rfl, rfl⟩
          go_wp2
          go_ret
          exact ⟨retB HE.out.symm, b_draws w qd⟩
        | true =>
          obtain ⟨b2, hb2⟩ : ∃ b, b = v.all M.isFin := ⟨_, rfl⟩
          have HB2 := Lib.hid hb2.symm
          cases b2 with
          | false =>
            have HE : Hid (M.dualB R u v = false) := M.dual_v (by unfold M.finL; rw [← hb2]; simp)
            clear h h' h2 hs hb1 hb2 r1 r4 hRn
            go_enter Try.func18, Try.ntmps18
            go_wp2_with fail
            refine (sSquare_b _ _ _ R _ true HS.out HA.out).mono ?_
            rintro e w' ⟨rfl, qd, rfl⟩
            go_wp2_with fail
            refine (sAllF_b _ _ _ u true HB1.out _ (HU.out.below (b_draws w qd))).mono ?_
            rintro e w' ⟨rfl, rfl⟩
            go_wp2_with fail
            refine (sAllF_b _ _ _ v false HB2.out _ (HV.out.below (b_draws w qd))).mono ?_
            rintro e w' ⟨rfl, rfl⟩
            go_wp2
            go_ret
            exact ⟨retB HE.out.symm, b_draws w qd⟩
          | true =>
            have hfu : M.finL R.length u = true := by unfold M.finL; rw [← hb1, h'.1, hRn]; simp
            have hfv : M.finL R.length v = true := by unfold M.finL; rw [← hb2, h2.1, hRn]; simp
            obtain ⟨-, u2⟩ := M.finL_t hfu
            obtain ⟨-, v2⟩ := M.finL_t hfv
            rw [hRn] at u2 v2
            have HF : Hid (∀ i, i < N2 → M.rowB R u v i = false → M.dualB R u v = false) := fun i hi h => M.dual_r (by rw [hRn]; exact hi) h
            have HT : Hid ((∀ i, i < N2 → M.rowB R u v i = true) → M.dualB R u v = true) := fun h => M.dual_t hs hfu hfv (fun i hi => h i (by rw [← hRn]; exact hi))
            have HRf : Hid (∀ i j, j < N2 → ¬ M.ent R i j = -1000000000000000 → u.getD i 0 + v.getD j 0 < M.ent R i j → M.rowB R u v i = false) := fun i j hj q1 q2 => M.rowB_f (by rw [hRn]; exact hj) q1 q2
            have HRt : Hid (∀ i, (∀ j, j < N2 → M.ent R i j = -1000000000000000 ∨ M.ent R i j ≤ u.getD i 0 + v.getD j 0) → M.rowB R u v i = true) := fun i q => M.rowB_t (fun j hj => q j (by rw [← hRn]; exact hj))
            have HLen : Hid (∀ i, i < N2 → (R.getD i []).length = N2) := fun i hi => by
              obtain ⟨hm, hw⟩ := M.sqB_t hs
              rw [M.isMat_len hm (by rw [hRn]; exact hi), ← hw, hRn]
            have HFu := Lib.hid u2
            have HFv := Lib.hid v2
            have HSm := Lib.hid r4
            clear h h' h2 hs hb1 hb2 r1 r4 hRn u2 v2 hfu hfv
            go_enter Try.func18, Try.ntmps18
            go_wp2_with fail
            refine (sSquare_b _ _ _ R _ true HS.out HA.out).mono ?_
            rintro e w' ⟨rfl, qd, rfl⟩
            go_wp2_with fail
            refine (sAllF_b _ _ _ u true HB1.out _ (HU.out.below (b_draws w qd))).mono ?_
            rintro e w' ⟨rfl, rfl⟩
            go_wp2_with fail
            refine (sAllF_b _ _ _ v true HB2.out _ (HV.out.below (b_draws w qd))).mono ?_
            rintro e w' ⟨rfl, rfl⟩
            go_wp2
            go_loopw [7] (fun i wr => ∃ s : Nat, s ≤ N2 ∧ i = .int .i64 s ∧ Hid (∀ i, i < s → M.rowB R u v i = true) ∧ ∃ qd, wr = w.drewN qd) (fun i _ => N2 - (intOf i).toNat)
            case atStart => exact ⟨0, Nat.zero_le _, rfl, fun i hi => absurd hi (Nat.not_lt_zero i), _, rfl⟩
            case round =>
              obtain ⟨s, hs, rfl, HK, qd, rfl⟩ := hrel
              by_cases hsl : s < N2
              · have hsi : (s : Int) < (N2 : Int) := by omega
                go_wp2
                go_loopw [8] (fun j wr => ∃ t : Nat, t ≤ N2 ∧ j = .int .i64 t ∧ Hid (∀ j, j < t → M.ent R s j = -1000000000000000 ∨ M.ent R s j ≤ u.getD s 0 + v.getD j 0) ∧ ∃ qd, wr = w.drewN qd) (fun j _ => N2 - (intOf j).toNat)
                case atStart => exact ⟨0, Nat.zero_le _, rfl, fun i hi => absurd hi (Nat.not_lt_zero i), _, rfl⟩
                case round =>
                  obtain ⟨t, ht, rfl, HJ, qe, rfl⟩ := hrel
                  by_cases htl : t < N2
                  · have hti : (t : Int) < (N2 : Int) := by omega
                    obtain ⟨gb, go, q, o, c, z, rfl, h1, hz, h2⟩ := dual_two HA.out hsl htl (HLen.out s hsl)
                    obtain ⟨d1, d2, x, rfl, -, hx, cx⟩ := HU.out.at s hsl
                    obtain ⟨d3, d4, y, rfl, -, hy, cy⟩ := HV.out.at t htl
                    have hfx := HFu.out s hsl
                    have hfy := HFv.out t htl
                    rw [← hx] at hfx
                    rw [← hy] at hfy
                    have hzs := HSm.out s t hsl htl
                    rw [← hz] at hzs
                    unfold M.Sm at hzs
                    have HX := Lib.hid hx
                    have HY := Lib.hid hy
                    have HZ := Lib.hid hz
                    clear hx hy hz
                    have e1 : IntKind.i64.wrap (x + y) = x + y := IntWalk.i64_in _ (by omega)
                    by_cases hzb : z = -1000000000000000
                    · have HJ2 : Hid (∀ j, j < t + 1 → M.ent R s j = -1000000000000000 ∨ M.ent R s j ≤ u.getD s 0 + v.getD j 0) := fun j hj => by
                        by_cases e : j = t
                        · subst e; left; rw [← HZ.out, hzb]
                        · exact HJ.out j (by omega)
                      subst hzb
                      go_wp2
                      go_quiet (fail)
                      go_wp2
                      go_roundw
                      case rel => exact ⟨t + 1, by omega, by go_num, HJ2, _, by first | rfl | exact World.drewN_drewN _ _ _⟩
                      case measure => simp [intOf]; omega
                    · have hzn : (z != -1000000000000000) = true := by simpa using hzb
                      have hzn2 : (z == -1000000000000000) = false := by simpa using hzb
                      by_cases hgt : x + y < z
                      · have HE := Lib.hid (HF.out s hsl (HRf.out s t htl (by rw [← HZ.out]; exact hzb) (by rw [← HX.out, ← HY.out, ← HZ.out]; exact hgt)))
                        go_wp2
                        go_quiet (fail)
                        go_wp2
                        go_ret
                        exact ⟨retB HE.out.symm, by first | exact b_draws w _ | exact below_drewN (b_draws w _) _⟩
                      · have hgt2 : z ≤ x + y := by omega
                        have HJ2 : Hid (∀ j, j < t + 1 → M.ent R s j = -1000000000000000 ∨ M.ent R s j ≤ u.getD s 0 + v.getD j 0) := fun j hj => by
                          by_cases e : j = t
                          · subst e; right; rw [← HZ.out, ← HX.out, ← HY.out]; exact hgt2
                          · exact HJ.out j (by omega)
                        go_wp2
                        go_quiet (fail)
                        go_wp2
                        go_roundw
                        case rel => exact ⟨t + 1, by omega, by go_num, HJ2, _, by first | rfl | exact World.drewN_drewN _ _ _⟩
                        case measure => simp [intOf]; omega
                  · obtain rfl : t = N2 := by omega
                    have HK2 : Hid (∀ i, i < s + 1 → M.rowB R u v i = true) := fun i hi => by
                      by_cases e : i = s
                      · subst e; exact HRt.out i HJ.out
                      · exact HK.out i (by omega)
                    go_wp2
                    go_roundw
                    case rel => exact ⟨s + 1, by omega, by go_num, HK2, _, rfl⟩
                    case measure => simp [intOf]; omega
              · obtain rfl : s = N2 := by omega
                have HE := Lib.hid (HT.out HK.out)
                go_wp2
                go_ret
                exact ⟨retB HE.out.symm, b_draws w _⟩
      · have HE : Hid (M.dualB R u v = false) := M.dual_v (by unfold M.finL; rw [decide_eq_false (by rw [h2.1, hRn]; exact hNv)]; rfl)
        have hne : ((N2 : Int) != (N : Int)) = true := by simp; omega
        have hne2 : ((N2 : Int) == (N : Int)) = false := by simp; omega
        have hne3 : (N2 == N) = false := by simpa using hNv
        clear h h' h2 hs r1 r4 hRn
        go_enter Try.func18, Try.ntmps18
        go_wp2_with fail
        refine (sSquare_b _ _ _ R _ true HS.out HA.out).mono ?_
        rintro e w' ⟨rfl, qd, rfl⟩
        go_wp2
        go_ret
        exact ⟨retB HE.out.symm, b_draws w qd⟩
    · have HE : Hid (M.dualB R u v = false) := M.dual_u (by unfold M.finL; rw [decide_eq_false (by rw [h'.1, hRn]; exact hNu)]; rfl)
      have hne : ((N : Int) != (n : Int)) = true := by simp; omega
      have hne2 : ((N : Int) == (n : Int)) = false := by simp; omega
      have hne3 : (N == n) = false := by simpa using hNu
      clear h h' h2 hs r1 r4 hRn
      go_enter Try.func18, Try.ntmps18
      go_wp2_with fail
      refine (sSquare_b _ _ _ R _ true HS.out HA.out).mono ?_
      rintro e w' ⟨rfl, qd, rfl⟩
      go_wp2
      go_ret
      exact ⟨retB HE.out.symm, b_draws w qd⟩
  · simp only [Bool.not_eq_true] at hs
    have HS := Lib.hid hs
    have HE : Hid (M.dualB R u v = false) := M.dual_s hs
    clear h h' h2 hs
    go_enter Try.func18, Try.ntmps18
    go_wp2_with fail
    refine (sSquare_b _ _ _ R _ false HS.out HA.out).mono ?_
    rintro e w' ⟨rfl, qd, rfl⟩
    go_wp2
    go_ret
    exact ⟨retB HE.out.symm, b_draws w qd⟩
end V
end Go.Proofs.Ytmobcobdpemlnaa

namespace Go.Proofs.Ytmobcobdpemlnaa.V
open Go.RowKit

/-- The three cells of a source: the code, the place, the seed. -/
def srcF (a : Option Addr) (n cap t : Nat) (s : Int) : Nat → Value
  | 0 => .slice a n cap
  | 1 => .int .i64 t
  | _ => .int .i64 s

/-- The code of a source: bytes that lie below block g. -/
def CodeAt (w : World) (g : Nat) (a : Option Addr) (n : Nat) : Prop :=
  n ≤ maxLen ∧ (n = 0 ∨ ∃ b off, a = some ⟨b, off, none⟩ ∧ b < g ∧ ∀ i, i < n → ∃ x : Int, 0 ≤ x ∧ x ≤ 255 ∧ w.cell? ⟨b, off + i, none⟩ = some (.int .u8 x))

/-- Block g is a source. -/
def Src (w : World) (g : Nat) : Prop := ∃ (a : Option Addr) (n cap t : Nat) (s : Int),
  w.rowIs g 102 3 (srcF a n cap t s) ∧ CodeAt w g a n ∧ t ≤ n ∧ 0 ≤ s ∧ s < 2147483647

/-- Only block g may have changed; blocks may have been added. -/
structure Thr (g : Nat) (w w' : World) : Prop where
  below : Below g w w'
  other : ∀ k, g < k → k < w.heap.size → w'.heap[k]? = w.heap[k]?

theorem Thr.refl (g : Nat) (w : World) : Thr g w w := ⟨Below.refl _ _, fun _ _ _ => rfl⟩
theorem Thr.trans {g : Nat} {a b c : World} (h : Thr g a b) (k : Thr g b c) : Thr g a c :=
  ⟨h.below.trans k.below, fun i h1 h2 => (k.other i h1 (Nat.lt_of_lt_of_le h2 h.below.size)).trans (h.other i h1 h2)⟩
theorem Thr.drew {g : Nat} {a b : World} (h : Thr g a b) : Thr g a b.drew := ⟨h.below.drew, h.other⟩
theorem Thr.drewN {g : Nat} {a b : World} (h : Thr g a b) (n : Nat) : Thr g a (b.drewN n) := ⟨below_drewN h.below n, h.other⟩
theorem Thr.setCell {g : Nat} {a b : World} (h : Thr g a b) {i : Nat} (v : Value) : Thr g a (b.setCell ⟨g, i, none⟩ v) :=
  ⟨h.below.setCell (Nat.le_refl _) v, fun k h1 h2 => (Below.heap_setCell _ _ _ _ (by show k ≠ g; omega)).trans (h.other k h1 h2)⟩
theorem Thr.cell {g : Nat} {w w' : World} (h : Thr g w w') {p : Addr} (hp : p.block < w.heap.size) (hne : p.block ≠ g) : w'.cell? p = w.cell? p := by
  by_cases hlt : p.block < g
  · exact h.below.cell hlt
  · exact World.cell?_of_block (w := w) (h.other _ (by omega) hp)

theorem CodeAt.below {w w' : World} {g : Nat} {a : Option Addr} {n : Nat} (h : CodeAt w g a n) (hb : Below g w w') : CodeAt w' g a n := by
  obtain ⟨h1, h2⟩ := h
  refine ⟨h1, ?_⟩
  rcases h2 with h2 | ⟨b, off, rfl, hlt, hc⟩
  · exact .inl h2
  · refine .inr ⟨b, off, rfl, hlt, fun i hi => ?_⟩
    obtain ⟨x, x1, x2, hx⟩ := hc i hi
    exact ⟨x, x1, x2, by rw [hb.cell (p := ⟨b, off + i, none⟩) hlt]; exact hx⟩

theorem Src.below {w w' : World} {g : Nat} (h : Src w g) (hb : Below (g + 1) w w') : Src w' g := by
  obtain ⟨a, n, cap, t, s, h1, h2, h3⟩ := h
  exact ⟨a, n, cap, t, s, h1.of_block (hb.block g (by omega)), h2.below (hb.mono (by omega)), h3⟩
theorem Src.lt {w : World} {g : Nat} (h : Src w g) : g < w.heap.size := by
  obtain ⟨a, n, cap, t, s, h1, h2, h3⟩ := h
  exact h1.lt
theorem Src.drew {w : World} {g : Nat} (h : Src w g) : Src w.drew g := h

/-- What a drawn number is. -/
def NextPost (g : Nat) (n : Int) (w : World) (e : Ending) (w' : World) : Prop :=
  ∃ x : Int, e = .returned (.int .i64 x) ∧ 0 ≤ x ∧ (x < n ∨ x = 0) ∧ Src w' g ∧ Thr g w w'

theorem mod_lt (x n : Int) (hx : 0 ≤ x) (hn : 1 < n) : 0 ≤ x % n ∧ (x % n < n ∨ x % n = 0) :=
  ⟨Int.emod_nonneg _ (by omega), .inl (Int.emod_lt_of_pos _ (by omega))⟩

theorem rowIs_seed {w : World} {g T : Nat} {a : Option Addr} {n cap t : Nat} {s : Int} (h : w.rowIs g T 3 (srcF a n cap t s)) (s' : Int) : (w.setCell ⟨g, 2, none⟩ (.int .i64 s')).rowIs g T 3 (srcF a n cap t s') :=
  (h.set 2 _).congr (fun i hi => by
    match i, hi with
    | 0, _ => rfl
    | 1, _ => rfl
    | 2, _ => rfl)
theorem rowIs_at {w : World} {g T : Nat} {a : Option Addr} {n cap t : Nat} {s : Int} (h : w.rowIs g T 3 (srcF a n cap t s)) (t' : Nat) (v : Int) (hv : v = (t' : Int)) : (w.setCell ⟨g, 1, none⟩ (.int .i64 v)).rowIs g T 3 (srcF a n cap t' s) :=
  (h.set 1 _).congr (fun i hi => by
    subst hv
    match i, hi with
    | 0, _ => rfl
    | 1, _ => rfl
    | 2, _ => rfl)

theorem next_fin {g : Nat} {n : Int} {w w2 : World} {a : Option Addr} {m cap t : Nat} {s x : Int} (hn : 1 < n) (hx : 0 ≤ x) (hrow : w2.rowIs g 102 3 (srcF a m cap t s)) (hc : CodeAt w g a m) (ht : t ≤ m) (s1 : 0 ≤ s) (s2 : s < 2147483647)
    (hthr : Thr g w w2) : NextPost g n w (.returned (.int .i64 (x % n))) w2 :=
  ⟨_, rfl, (mod_lt x n hx hn).1, (mod_lt x n hx hn).2, ⟨a, m, cap, t, s, hrow, hc.below hthr.below, ht, s1, s2⟩, hthr⟩

set_option maxRecDepth 100000 in
set_option maxHeartbeats 1000000 in
theorem next (g : Nat) (n : Int) (w : World) (wn : (Lit.int .i64 n).wf = true) (h : Src w g) :
    Calls Try.prog 55 #[.pointer (some ⟨g, 0, none⟩), .int .i64 n] w (NextPost g n w) := by
  by_cases hn : n ≤ 1
  · go_enter Try.func55, Try.ntmps55
    go_wp2
    go_ret
    exact ⟨0, rfl, by omega, .inr rfl, h, Thr.refl _ _⟩
  · obtain ⟨a, m, cap, t, s, hrow, hcode, ht, s1, s2⟩ := h
    have c0 : w.cell? ⟨g, 0, none⟩ = some (.slice a m cap) := hrow.cell (i := 0) (by omega)
    have c1 : w.cell? ⟨g, 1, none⟩ = some (.int .i64 t) := hrow.cell (i := 1) (by omega)
    have c2 : w.cell? ⟨g, 2, none⟩ = some (.int .i64 s) := hrow.cell (i := 2) (by omega)
    have f0 := hrow.frozen 0
    have f1 := hrow.frozen 1
    have f2 := hrow.frozen 2
    have HCODE := Lib.hid hcode
    obtain ⟨hm, hcode⟩ := hcode
    unfold maxLen at hm
    have HR := Lib.hid hrow
    clear hrow
    have hn' : 1 < n := by omega
    have r1 : 0 ≤ (s * 48271 + 59) % 2147483647 := Int.emod_nonneg _ (by omega)
    have r2 : (s * 48271 + 59) % 2147483647 < 2147483647 := Int.emod_lt_of_pos _ (by omega)
    by_cases htm : t < m
    · rcases hcode with h0 | ⟨b, off, rfl, hbg, hc⟩
      · omega
      obtain ⟨x, x1, x2, hcx⟩ := hc t htm
      clear hc
      have hne : ¬ b = g := by omega
      have hti : (t : Int) < (m : Int) := by omega
      have ht0 : 0 ≤ (t : Int) + 1 := by omega
      have hq : 0 ≤ (s * 48271 + 59) % 2147483647 / 31 := Int.ediv_nonneg r1 (by omega)
      have HC : Hid (CodeAt w g (some ⟨b, off, none⟩) m) := HCODE
      clear HCODE
      by_cases h256 : n ≤ 256
      · by_cases hev : ((t : Int) + 1) % 2 = 0
        · have hev' : (((t : Int) + 1) % 2 == 0) = true := by simpa using hev
          clear hev
          go_enter Try.func55, Try.ntmps55
          go_wp2
          go_quiet (fail)
          go_wp2
          go_quiet (fail)
          go_wp2
          go_quiet (fail)
          go_wp2
          go_ret
          exact next_fin hn' x1 (rowIs_at (w := (w.setCell ⟨g, 2, none⟩ (.int .i64 ((s * 48271 + 59) % 2147483647))).drewN _) (rowIs_seed HR.out _) (t + 1) _ (by omega)) HC.out (by omega) r1 r2 (((((Thr.refl g w).setCell _).drewN _).setCell _).drewN _)
        · have hev' : (((t : Int) + 1) % 2 == 0) = false := by simpa using hev
          clear hev
          go_enter Try.func55, Try.ntmps55
          go_wp2
          go_quiet (fail)
          go_wp2
          go_quiet (fail)
          go_wp2
          go_ret
          exact next_fin hn' (by omega) (rowIs_at (w := (w.setCell ⟨g, 2, none⟩ (.int .i64 ((s * 48271 + 59) % 2147483647))).drewN _) (rowIs_seed HR.out _) (t + 1) _ (by omega)) HC.out (by omega) r1 r2 ((((Thr.refl g w).setCell _).drewN _).setCell _)
      · go_enter Try.func55, Try.ntmps55
        go_wp2
        go_quiet (fail)
        go_wp2
        go_quiet (fail)
        go_wp2
        go_ret
        exact next_fin hn' (by omega) (rowIs_at (w := (w.setCell ⟨g, 2, none⟩ (.int .i64 ((s * 48271 + 59) % 2147483647))).drewN _) (rowIs_seed HR.out _) (t + 1) _ (by omega)) HC.out (by omega) r1 r2 ((((Thr.refl g w).setCell _).drewN _).setCell _)
    · obtain rfl : t = m := by omega
      have hq : 0 ≤ (s * 48271 + 59) % 2147483647 / 31 := Int.ediv_nonneg r1 (by omega)
      have HC : Hid (CodeAt w g a t) := HCODE
      clear HCODE hcode
      go_enter Try.func55, Try.ntmps55
      go_wp2
      go_quiet (fail)
      go_wp2
      go_ret
      exact next_fin hn' (by omega) (rowIs_seed HR.out _) HC.out (by omega) r1 r2 (((Thr.refl g w).setCell _).drewN _)
end Go.Proofs.Ytmobcobdpemlnaa.V

namespace Go.Proofs.Ytmobcobdpemlnaa.V
open Go.RowKit

theorem wf_small (n : Int) (a : -1000000000000000000 ≤ n) (b : n ≤ 1000000000000000000) : (Lit.int .i64 n).wf = true := by
  show (decide (IntKind.i64.min ≤ n) && decide (n ≤ IntKind.i64.max)) = true
  rw [Bool.and_eq_true]
  constructor <;> apply decide_eq_true
  · show (-9223372036854775808 : Int) ≤ n
    omega
  · show n ≤ (9223372036854775807 : Int)
    omega

/-- A slice of bytes that came in. -/
def Bytes (w : World) (a : Option Addr) (n : Nat) : Prop := CodeAt w w.heap.size a n

theorem IsRow.bytes {w : World} {a : Option Addr} {len cap : Nat} {zs : List Int} (h : IsRow .u8 w a len cap zs) : Bytes w a len := by
  rcases h with ⟨rfl, rfl, rfl, rfl⟩ | ⟨x, rfl, hl, hm, hz, hcell, hwf⟩
  · exact ⟨Nat.zero_le _, .inl rfl⟩
  · refine ⟨by omega, ?_⟩
    by_cases h0 : len = 0
    · exact .inl h0
    · obtain ⟨b, off, rfl, hc⟩ := ints_at hcell (by omega)
      refine .inr ⟨b, off, rfl, cell_lt (hc 0 (by omega)), fun i hi => ?_⟩
      have hx : zs.getD i 0 ∈ zs := by
        rw [List.getD_eq_getElem?_getD, List.getElem?_eq_getElem (by omega)]
        simp
      have := bounds_u8 (hwf _ hx)
      exact ⟨_, this.1, this.2, hc i (by omega)⟩

theorem Bytes.below {w w' : World} {a : Option Addr} {n : Nat} (h : Bytes w a n) (hb : Below w.heap.size w w') : Bytes w' a n := by
  have h2 := CodeAt.below h hb
  obtain ⟨h1, h3⟩ := h2
  refine ⟨h1, ?_⟩
  rcases h3 with h3 | ⟨b, off, rfl, hlt, hc⟩
  · exact .inl h3
  · exact .inr ⟨b, off, rfl, by have := hb.size; omega, hc⟩

set_option maxRecDepth 100000 in
set_option maxHeartbeats 1000000 in
theorem from_ (a : Option Addr) (n cap : Nat) (w : World) (h : Bytes w a n) :
    Calls Try.prog 52 #[.slice a n cap] w fun e w' => e = .returned (.pointer (some ⟨w.heap.size, 0, none⟩)) ∧ Src w' w.heap.size ∧ Below w.heap.size w w' := by
  have HB := Lib.hid h
  obtain ⟨hm, hcode⟩ := h
  unfold maxLen at hm
  go_enter Try.func52, Try.ntmps52
  go_wp2
  have hst : (w.alloc (.cells #[.slice a n cap, .int .i64 0, .int .i64 61403] 102)).rowIs w.heap.size 102 3 (srcF a n cap 0 61403) :=
    World.rowIs_alloc w _ _ _ (fun i hi => by
      match i, hi with
      | 0, _ => rfl
      | 1, _ => rfl
      | 2, _ => rfl)
  have HST := Lib.hid hst
  clear hst
  go_loopw [4] (fun i wr => ∃ k : Nat, ∃ s : Int, k ≤ n ∧ i = .int .i64 k ∧ 0 ≤ s ∧ s < 2147483647 ∧ wr.rowIs w.heap.size 102 3 (srcF a n cap 0 s) ∧ Below w.heap.size w wr) (fun i _ => n - (intOf i).toNat)
  case atStart => exact ⟨0, 61403, Nat.zero_le _, rfl, by omega, by omega, HST.out, b_alloc _ _⟩
  case round =>
    obtain ⟨k, s, hk, rfl, s1, s2, hrow, hb⟩ := hrel
    clear HST
    by_cases hlt : k < n ∧ k < 64
    · obtain ⟨hlt, h64⟩ := hlt
      rcases hcode with h0 | ⟨b, off, rfl, hbl, hc⟩
      · omega
      obtain ⟨x, x1, x2, hx⟩ := hc k hlt
      have hx' : wr.cell? ⟨b, off + k, none⟩ = some (.int .u8 x) := by rw [hb.cell (p := ⟨b, off + k, none⟩) hbl]; exact hx
      have c2 : wr.cell? ⟨w.heap.size, 2, none⟩ = some (.int .i64 s) := hrow.cell (i := 2) (by omega)
      have f2 := hrow.frozen 2
      have HR := Lib.hid hrow
      have HBW := Lib.hid hb
      clear hc hx hrow hb
      have r1 : 0 ≤ (s * 67 + x) % 2147483647 := Int.emod_nonneg _ (by omega)
      have r2 : (s * 67 + x) % 2147483647 < 2147483647 := Int.emod_lt_of_pos _ (by omega)
      have hki : (k : Int) < (n : Int) := by omega
      have hkj : (k : Int) < 64 := by omega
      go_wp2
      go_region
      go_wp2
      go_roundw
      case rel => exact ⟨k + 1, (s * 67 + x) % 2147483647, by omega, by go_num, r1, r2, rowIs_seed HR.out _, (HBW.out.setCell (Nat.le_refl _) _).drew⟩
      case measure => simp [intOf]; omega
    · have HR := Lib.hid hrow
      have HBW := Lib.hid hb
      clear hrow hb hcode
      by_cases hlt2 : k < n
      · have h64 : ¬ ((k : Int) < 64) := by omega
        have h64' : decide ((k : Int) < 64) = false := by simpa using h64
        clear hlt h64
        go_wp2
        go_ret
        exact ⟨rfl, ⟨a, n, cap, 0, s, HR.out, (CodeAt.below HB.out HBW.out), Nat.zero_le _, s1, s2⟩, HBW.out⟩
      · have hkn : k = n := by omega
        subst hkn
        clear hlt hlt2
        go_wp2
        go_ret
        exact ⟨rfl, ⟨a, k, cap, 0, s, HR.out, (CodeAt.below HB.out HBW.out), Nat.zero_le _, s1, s2⟩, HBW.out⟩

/-- What a picked number is: one of the list. -/
def PickPost (g : Nat) (w : World) (e : Ending) (w' : World) : Prop :=
  ∃ x : Int, e = .returned (.int .i64 x) ∧ (Lit.int .i64 x).wf = true ∧ Src w' g ∧ Thr g w w'

set_option maxRecDepth 100000 in
set_option maxHeartbeats 1000000 in
theorem pick (g b off n cap : Nat) (w : World) (h : Src w g) (hn : 0 < n) (hm : n ≤ 100) (hbg : g < b) (hc : ∀ i, i < n → ∃ x : Int, (Lit.int .i64 x).wf = true ∧ w.cell? ⟨b, off + i, none⟩ = some (.int .i64 x)) :
    Calls Try.prog 68 #[.pointer (some ⟨g, 0, none⟩), .slice (some ⟨b, off, none⟩) n cap] w (PickPost g w) := by
  have hbl : b < w.heap.size := by obtain ⟨x, _, hx⟩ := hc 0 hn; exact cell_lt hx
  have hwf : (Lit.int .i64 (n : Int)).wf = true := wf_small _ (by omega) (by omega)
  go_enter Try.func68, Try.ntmps68
  go_wp2_with fail
  refine (next _ _ _ hwf h).mono ?_
  rintro e w1 ⟨x, rfl, hx1, hx2, hs, ht⟩
  obtain ⟨k, rfl⟩ := Int.eq_ofNat_of_zero_le hx1
  have hk : k < n := by omega
  obtain ⟨y, hy, hcy⟩ := hc k hk
  have hcy' : w1.cell? ⟨b, off + k, none⟩ = some (.int .i64 y) := by rw [ht.cell (p := ⟨b, off + k, none⟩) hbl (by show b ≠ g; omega)]; exact hcy
  have hki : (k : Int) < (n : Int) := by omega
  have HT := Lib.hid ht
  have HS := Lib.hid hs
  clear hc hcy ht hs hx2
  go_wp2
  go_ret
  exact ⟨y, rfl, hy, HS.out, HT.out⟩

theorem litCells (w : World) (l : List Int) (vs : Array Value) (T : Nat) (hv : vs = (l.map (Value.int .i64)).toArray) (hw : l.all (fun x => (Lit.int .i64 x).wf) = true) :
    ∀ i, i < l.length → ∃ x : Int, (Lit.int .i64 x).wf = true ∧ (w.alloc (.cells vs T)).cell? ⟨w.heap.size, 0 + i, none⟩ = some (.int .i64 x) := by
  intro i hi
  refine ⟨l[i], ?_, ?_⟩
  · exact List.all_eq_true.1 hw _ (List.getElem_mem hi)
  · subst hv
    have e : (w.alloc (.cells (l.map (Value.int .i64)).toArray T)).heap[w.heap.size]? = some (.cells (l.map (Value.int .i64)).toArray T (0, 0)) := by
      show (w.heap.push _)[w.heap.size]? = _
      simp
    simp only [World.cell?, e]
    simp [hi]
theorem Thr.alloc {g : Nat} {a b : World} (h : Thr g a b) (hg : g ≤ b.heap.size) (o : Obj) : Thr g a (b.alloc o) :=
  ⟨h.below.alloc hg o, fun k h1 h2 => (Below.heap_alloc _ _ _ (by have := h.below.size; omega)).trans (h.other k h1 h2)⟩
theorem Src.alloc {w : World} {g : Nat} (h : Src w g) (o : Obj) : Src (w.alloc o) g := h.below ((Below.refl _ _).alloc (by have := h.lt; omega) _)

/-- What a drawn value is: an integer. -/
def ValPost (g : Nat) (w : World) (e : Ending) (w' : World) : Prop :=
  ∃ x : Int, e = .returned (.int .i64 x) ∧ (Lit.int .i64 x).wf = true ∧ Src w' g ∧ Thr g w w'

set_option maxRecDepth 100000 in
set_option maxHeartbeats 1000000 in
theorem drawValue (g : Nat) (w : World) (h : Src w g) :
    Calls Try.prog 99 #[.pointer (some ⟨g, 0, none⟩)] w (ValPost g w) := by
  go_enter Try.func99, Try.ntmps99
  go_wp2_with fail
  refine (next _ _ _ (by decide) h).mono ?_
  rintro e w1 ⟨x, rfl, hx1, hx2, hs, ht⟩
  have HT := Lib.hid ht
  have HS := Lib.hid hs
  clear ht hs hx2
  by_cases h0 : x = 0 ∨ x = 1 ∨ x = 2
  · rcases h0 with rfl | rfl | rfl
    all_goals
      go_wp2
      go_ret
      exact ⟨_, rfl, by decide, HS.out, HT.out⟩
  · have e0 : (x == 0) = false := by simp; omega
    have e1 : (x == 1) = false := by simp; omega
    have e2 : (x == 2) = false := by simp; omega
    clear h0
    by_cases h3 : x = 3
    · subst h3
      go_wp2_with fail
      refine (pick g _ 0 7 7 _ (HS.out.alloc _) (by omega) (by omega) HS.out.lt (litCells _ [1000000, 1000001, -1000000, -1000001, -999999999999999, -1000000000000001, 9223372036854775807] _ _ rfl (by decide))).mono ?_
      rintro e w2 ⟨y, rfl, hy, hs2, ht2⟩
      have HT2 := Lib.hid ((HT.out.alloc (Nat.le_of_lt HS.out.lt) _).trans ht2)
      have HS2 := Lib.hid hs2
      clear ht2 hs2
      go_wp2
      go_ret
      exact ⟨_, rfl, hy, HS2.out, HT2.out⟩
    · have e3 : (x == 3) = false := by simp; omega
      clear h3
      by_cases h4 : x = 4
      · subst h4
        go_wp2_with fail
        refine (next _ _ _ (by decide) HS.out).mono ?_
        rintro e w2 ⟨y, rfl, hy1, hy2, hs2, ht2⟩
        have hy3 : y < 2000 := by omega
        have HT2 := Lib.hid (HT.out.trans ht2)
        have HS2 := Lib.hid hs2
        clear ht2 hs2 hy2
        go_wp2
        go_ret
        exact ⟨_, rfl, wf_small _ (by omega) (by omega), HS2.out, HT2.out⟩
      · have e4 : (x == 4) = false := by simp; omega
        clear h4
        go_wp2_with fail
        refine (next _ _ _ (by decide) HS.out).mono ?_
        rintro e w2 ⟨y, rfl, hy1, hy2, hs2, ht2⟩
        have hy3 : y < 41 := by omega
        have HT2 := Lib.hid (HT.out.trans ht2)
        have HS2 := Lib.hid hs2
        clear ht2 hs2 hy2
        go_wp2
        go_ret
        exact ⟨_, rfl, wf_small _ (by omega) (by omega), HS2.out, HT2.out⟩
end Go.Proofs.Ytmobcobdpemlnaa.V

namespace Go.Proofs.Ytmobcobdpemlnaa.V
open Go.RowKit

theorem Own.thr {w w' : World} {B g : Nat} {v : Value} {l : List Int} (h : Own w B v l) (ht : Thr g w w') (hB : g < B) : Own w' B v l := h.keep (fun k h1 h2 => ht.other k (by omega) h2)
theorem OwnM.thr {w w' : World} {B g : Nat} {v : Value} {R : List (List Int)} (h : OwnM w B v R) (ht : Thr g w w') (hB : g < B) : OwnM w' B v R := h.keep (fun k h1 h2 => ht.other k (by omega) h2)
theorem Thr.of_below {g : Nat} {w w' : World} (h : Below w.heap.size w w') (hg : g ≤ w.heap.size) : Thr g w w' := ⟨h.mono hg, fun k _ h2 => h.block k h2⟩
theorem Thr.frozen {g : Nat} {w w' : World} (h : Thr g w w') {p : Addr} (hp : p.block < w.heap.size) (hne : g < p.block) : w'.frozen? p = w.frozen? p := World.frozen?_of_block (w := w) (h.other _ hne hp)

/-- A matrix that is being drawn: the source is block g, the matrix lies in blocks from B on; only these have changed since w0. -/
def DJ (g B : Nat) (v : Value) (R : List (List Int)) (w0 w : World) : Prop := OwnM w B v R ∧ Src w g ∧ Thr g w0 w
theorem DJ.next {g B : Nat} {v : Value} {R : List (List Int)} {w0 w w' : World} (h : DJ g B v R w0 w) (hB : g < B) (hs : Src w' g) (ht : Thr g w w') : DJ g B v R w0 w' :=
  ⟨h.1.thr ht hB, hs, h.2.2.trans ht⟩

/-- A store into an entry whose row is known. -/
theorem OwnM.put {w : World} {B n cap o k t q L c : Nat} {R : List (List Int)} (h : OwnM w B (.slice (some ⟨o, 0, none⟩) n cap) R) (hi : k < n) (hj : t < (R.getD k []).length) (hc : w.cell? ⟨o, k, none⟩ = some (.slice (some ⟨q, 0, none⟩) L c)) (y : Int) :
    OwnM (w.setCell ⟨q, t, none⟩ (.int .i64 y)) B (.slice (some ⟨o, 0, none⟩) n cap) (R.set k ((R.getD k []).set t y)) := by
  obtain ⟨g, q', L', c', x, hg, -, -, -, -, h1, -, -, h2⟩ := h.at k t hi hj
  injection hg with hg
  injection hg with hg
  subst hg
  rw [hc] at h1
  injection h1 with h1
  injection h1 with h1
  injection h1 with h1
  injection h1 with h1
  subst h1
  exact h2 y

theorem Rect.set {R : List (List Int)} {n L : Nat} (h : Rect R n L) (i j : Nat) (y : Int) (hi : i < n) : Rect (R.set i ((R.getD i []).set j y)) n L := by
  refine ⟨by simpa using h.1, fun k hk => ?_⟩
  rw [getD_set _ _ _ _ _ (by rw [h.1]; exact hi)]
  by_cases e : k = i
  · rw [if_pos e]; simpa using h.2 i hi
  · rw [if_neg e]; exact h.2 k hk

/-- A store into a matrix that is being drawn. -/
theorem DJ.store {g B q t n cap : Nat} {a : Option Addr} {R R' : List (List Int)} {w0 w : World} {x : Int} (h : DJ g B (.slice a n cap) R w0 w) (hB : w0.heap.size ≤ B) (hg : g < B) (hq : B ≤ q)
    (ho : OwnM (w.setCell ⟨q, t, none⟩ (.int .i64 x)) B (.slice a n cap) R') : DJ g B (.slice a n cap) R' w0 (w.setCell ⟨q, t, none⟩ (.int .i64 x)) := by
  refine ⟨ho, h.2.1.below ?_, ?_⟩
  · exact (Below.refl _ _).setCell (p := ⟨q, t, none⟩) (by show g + 1 ≤ q; omega) _
  · refine ⟨h.2.2.below.setCell (p := ⟨q, t, none⟩) (by show g ≤ q; omega) _, fun k h1 h2 => ?_⟩
    rw [Below.heap_setCell _ _ _ _ (by show k ≠ q; omega)]
    exact h.2.2.other k h1 h2

theorem DJ.drew {g B : Nat} {v : Value} {R : List (List Int)} {w0 w : World} (h : DJ g B v R w0 w) : DJ g B v R w0 w.drew := ⟨h.1.keep (fun _ _ _ => rfl), h.2.1, h.2.2.drew⟩
theorem dj_keep {g B a k q t : Nat} {u v val : Value} {R : List (List Int)} {w0 w' wx : World} (h : w'.cell? ⟨a, k, none⟩ = some u ∧ w'.cell? ⟨q, t, none⟩ = some v ∧ w'.frozen? ⟨q, t, none⟩ = false ∧ DJ g B val R w0 w') (hB : g < B) (ha : B ≤ a) (hq : B ≤ q) (hs : Src wx g) (ht : Thr g w' wx) :
    wx.cell? ⟨a, k, none⟩ = some u ∧ wx.cell? ⟨q, t, none⟩ = some v ∧ wx.frozen? ⟨q, t, none⟩ = false ∧ DJ g B val R w0 wx := by
  obtain ⟨h1, h2, h3, h4⟩ := h
  have l1 := cell_lt h1
  have l2 := cell_lt h2
  refine ⟨?_, ?_, ?_, h4.next hB hs ht⟩
  · rw [ht.cell (p := ⟨a, k, none⟩) l1 (by show a ≠ g; omega)]; exact h1
  · rw [ht.cell (p := ⟨q, t, none⟩) l2 (by show q ≠ g; omega)]; exact h2
  · rw [ht.frozen (p := ⟨q, t, none⟩) l2 (by show g < q; omega)]; exact h3

/-- What a drawn matrix is: some list of lists of integers, in new memory. -/
def DrawM (g : Nat) (w : World) (e : Ending) (w' : World) : Prop :=
  ∃ (a : Option Addr) (n cap : Nat) (R : List (List Int)), e = .returned (.slice a n cap) ∧ OwnM w' w.heap.size (.slice a n cap) R ∧ Src w' g ∧ Thr g w w'

/-- .. with few rows. -/
def DrawMB (g : Nat) (w : World) (e : Ending) (w' : World) : Prop :=
  ∃ (a : Option Addr) (n cap : Nat) (R : List (List Int)), e = .returned (.slice a n cap) ∧ n ≤ 200 ∧ OwnM w' w.heap.size (.slice a n cap) R ∧ Src w' g ∧ Thr g w w'
theorem DrawMB.less {g : Nat} {w w' : World} {e : Ending} (h : DrawMB g w e w') : DrawM g w e w' := by
  obtain ⟨a, n, cap, R, h1, -, h2⟩ := h
  exact ⟨a, n, cap, R, h1, h2⟩

set_option maxRecDepth 100000 in
set_option maxHeartbeats 4000000 in
theorem drawSizeB (g m n : Nat) (w : World) (h : Src w g) (m1 : 1 ≤ m) (m2 : m ≤ 100) (n1 : 1 ≤ n) (n2 : n ≤ 100) :
    Calls Try.prog 98 #[.pointer (some ⟨g, 0, none⟩), .int .i64 m, .int .i64 n] w (DrawMB g w) := by
  have hgs := h.lt
  have HS := Lib.hid h
  clear h
  go_enter Try.func98, Try.ntmps98
  go_wp2_with fail
  refine (sBottom m n _ m2 n2).mono ?_
  rintro e w1 ⟨a2, cap2, rfl, ho, hb⟩
  have hz1 := hb.size
  have HO1 := Lib.hid ho
  have HS1 := Lib.hid (HS.out.below (hb.mono (show g + 1 ≤ w.heap.size from hgs)))
  have HT1 := Lib.hid (Thr.of_below (g := g) hb (Nat.le_of_lt hgs))
  clear ho hb
  go_wp2_with fail
  refine (pick g _ 0 3 3 _ (HS1.out.alloc _) (by omega) (by omega) HS1.out.lt (litCells _ [2, 3, 5] _ _ rfl (by decide))).mono ?_
  rintro e w2 ⟨many, rfl, hmany, hs2, ht2⟩
  have HMW := Lib.hid hmany
  have hJ0 : DJ g w.heap.size (.slice a2 m cap2) (M.botM m n) w w2 :=
    ⟨(HO1.out.keep (w' := w1.alloc _) (fun k _ h2 => Below.heap_alloc _ _ _ h2)).thr ht2 hgs, hs2, (HT1.out.alloc (by omega) _).trans ht2⟩
  have HJ0 := Lib.hid hJ0
  clear hs2 ht2 hJ0 hmany HO1 HS1 HT1
  go_wp2
  go_loopw [9] (fun i wr => ∃ (k : Nat) (R : List (List Int)), k ≤ m ∧ i = .int .i64 k ∧ Hid (Rect R m n) ∧ Hid (DJ g w.heap.size (.slice a2 m cap2) R w wr)) (fun i _ => m - (intOf i).toNat)
  case atStart => exact ⟨0, _, Nat.zero_le _, rfl, rect_mk _ _ _, HJ0⟩
  case round =>
    obtain ⟨k, R, hk, rfl, HR, HJ⟩ := hrel
    obtain ⟨wo, rfl⟩ : ∃ x, x = wr := ⟨_, rfl⟩
    clear HJ0
    by_cases hlt : k < m
    · have hki : (k : Int) < (m : Int) := by omega
      go_wp2
      go_loopw [10] (fun j wr => ∃ (t : Nat) (R : List (List Int)), t ≤ n ∧ j = .int .i64 t ∧ Hid (Rect R m n) ∧ Hid (DJ g w.heap.size (.slice a2 m cap2) R w wr)) (fun j _ => n - (intOf j).toNat)
      case atStart => exact ⟨0, _, Nat.zero_le _, rfl, HR, HJ⟩
      case round =>
        obtain ⟨t, R2, ht, rfl, HR2, HJ2⟩ := hrel
        clear HR HJ
        by_cases htl : t < n
        · have hti : (t : Int) < (n : Int) := by omega
          go_wp2_with fail
          refine (next g many _ HMW.out HJ2.out.2.1).mono ?_
          rintro e w3 ⟨x, rfl, hx1, -, hs3, ht3⟩
          have HJ3 := Lib.hid (HJ2.out.next hgs hs3 ht3)
          clear hs3 ht3
          by_cases hx : 0 < x
          · obtain ⟨go_, q, L3, c3, x3, rfl, hg3, hq3, hL3, -, c31, c32, f31, ho3⟩ := HJ3.out.1.at k t hlt (by rw [HR2.out.2 k hlt]; exact htl)
            rw [HR2.out.2 k hlt] at hL3
            subst hL3
            clear ho3
            have HJ4 := Lib.hid HJ3.out.drew
            go_wp2
            go_region_with (first | (go_at_call 55; refine (next g 26 _ (by decide) HJ4.out.2.1).mono ?_; rintro e wx ⟨xx, rfl, hxx, -, hs, ht⟩; obtain ⟨c31x, c32x, f31x, hjx⟩ := dj_keep (w' := w3.drew) ⟨c31, c32, f31, HJ4.out⟩ hgs hg3 hq3 hs ht; have HJX := Lib.hid hjx; clear hs ht hjx))
            all_goals
              go_wp2
              exact ⟨⟨t + 1, _, by omega, by go_num, HR2.out.set k t _ hlt, HJX.out.store (Nat.le_refl _) hgs hq3 (HJX.out.1.put hlt (by rw [HR2.out.2 k hlt]; exact htl) c31x _)⟩, by simp [intOf]; omega⟩
          · go_wp2
            go_roundw
            case rel => exact ⟨t + 1, R2, by omega, by go_num, HR2, HJ3⟩
            case measure => simp [intOf]; omega
        · obtain rfl : t = n := by omega
          go_wp2
          go_roundw
          case rel => exact ⟨k + 1, R2, by omega, by go_num, HR2, HJ2⟩
          case measure => simp [intOf]; omega
    · obtain rfl : k = m := by omega
      go_wp2_with fail
      refine (next g 60 _ (by decide) HJ.out.2.1).mono ?_
      rintro e w3 ⟨x, rfl, hx1, -, hs3, ht3⟩
      have HJ3 := Lib.hid (HJ.out.next hgs hs3 ht3)
      clear hs3 ht3
      by_cases hx0 : x = 0
      · subst hx0
        obtain ⟨go_, q, L3, c3, x3, rfl, hg3, hq3, hL3, -, c31, c32, f31, ho3⟩ := HJ3.out.1.at 0 0 (by omega) (by rw [HR.out.2 0 (by omega)]; omega)
        rw [HR.out.2 0 (by omega)] at hL3
        subst hL3
        clear ho3
        have HJ4 := Lib.hid HJ3.out.drew
        go_wp2
        go_region_with (first | (go_at_call 99; refine (drawValue g _ HJ4.out.2.1).mono ?_; rintro e wx ⟨xx, rfl, hxx, hs, ht⟩; obtain ⟨c31x, c32x, f31x, hjx⟩ := dj_keep (w' := w3.drew) ⟨c31, c32, f31, HJ4.out⟩ hgs hg3 hq3 hs ht; have HJX := Lib.hid hjx; clear hs ht hjx))
        all_goals
          go_wp2
          go_ret
          have hfin := HJX.out.store (Nat.le_refl _) hgs hq3 (HJX.out.1.put (by omega) (by rw [HR.out.2 0 (by omega)]; omega) c31x xx)
          exact ⟨_, _, _, _, rfl, by omega, hfin.1, hfin.2.1, hfin.2.2⟩
      · have e0 : (x == 0) = false := by simpa using hx0
        by_cases hx1' : x = 1
        · subst hx1'
          have hz3 : w.heap.size ≤ w3.heap.size := HJ3.out.2.2.below.size
          have hro : Hid (Own (w3.alloc (.cells #[] 2)) w3.heap.size (.slice (some ⟨w3.heap.size, 0, none⟩) 0 0) []) := own_lit0 w3 _ (Nat.le_refl _)
          have hlen := HJ3.out.1.len
          have HLn := Lib.hid hlen
          clear hlen
          go_wp2_with (at_builtin; refine appendRow w3 _ rfl (.tmp 52) (.tmp 54) rfl w.heap.size _ _ _ _ k HJ3.out.1.len.symm rfl HJ3.out.1 (b_alloc w3 _) hro.out (by go_simp) (by rw [← HLn.out]; omega) hz3 ?_)
          intro b2 c2 w4 hO4 hb4 hk4
          have hg4 : ∀ j, g ≤ j → j < w.heap.size → w4.heap[j]? = w3.heap[j]? := fun j _ h2 => by
            rw [hb4.block j h2]; exact Below.heap_alloc _ _ _ (by omega)
          have hO5 := Lib.hid hO4
          have hT4 : Hid (Thr g w w4) := by
            refine ⟨HJ3.out.2.2.below.trans (((b_alloc w3 (.cells #[] 2)).mono (show g ≤ w3.heap.size by omega)).trans (hb4.mono (show g ≤ w.heap.size by omega))), fun j h1 h2 => ?_⟩
            rw [hg4 j (by omega) h2]
            exact HJ3.out.2.2.other j h1 h2
          have hS4 : Hid (Src w4 g) := by
            obtain ⟨sa, sn, sc, st, ss, q1, q2, q3⟩ := HJ3.out.2.1
            refine ⟨sa, sn, sc, st, ss, q1.of_block (hg4 g (Nat.le_refl _) hgs), ?_, q3⟩
            exact q2.below (((b_alloc w3 (.cells #[] 2)).mono (show g ≤ w3.heap.size by omega)).trans (hb4.mono (show g ≤ w.heap.size by omega)))
          clear hO4 hb4 hk4 hg4
          go_wp2
          go_ret
          exact ⟨_, _, _, _, rfl, by omega, hO5.out, hS4.out, hT4.out⟩
        · have e1 : (x == 1) = false := by simpa using hx1'
          by_cases hx2 : x = 2
          · subst hx2
            go_wp2
            go_ret
            exact ⟨_, _, _, [], rfl, by omega, ownM_nil _ _, HJ3.out.2.1, HJ3.out.2.2⟩
          · have e2 : (x == 2) = false := by simpa using hx2
            go_wp2
            go_ret
            exact ⟨_, _, _, _, rfl, by omega, HJ3.out.1, HJ3.out.2.1, HJ3.out.2.2⟩
theorem drawSize (g m n : Nat) (w : World) (h : Src w g) (m1 : 1 ≤ m) (m2 : m ≤ 100) (n1 : 1 ≤ n) (n2 : n ≤ 100) :
    Calls Try.prog 98 #[.pointer (some ⟨g, 0, none⟩), .int .i64 m, .int .i64 n] w (DrawM g w) :=
  (drawSizeB g m n w h m1 m2 n1 n2).mono fun _ _ h => h.less
end Go.Proofs.Ytmobcobdpemlnaa.V

namespace Go.Proofs.Ytmobcobdpemlnaa.V
open Go.RowKit


/-- A drawn matrix, as a law is handed it. -/
def DrawnM (w : World) (e : Ending) (w' : World) : Prop :=
  ∃ (a : Option Addr) (n cap : Nat) (R : List (List Int)), e = .returned (.slice a n cap) ∧ Mat w' a n R ∧ Below w.heap.size w w'

end Go.Proofs.Ytmobcobdpemlnaa.V

namespace Go.Proofs.Ytmobcobdpemlnaa.V
open Go.RowKit

/-- A matrix of one row that is not its own. -/
theorem mat_one' (w : World) (a : Option Addr) (n cap : Nat) (l : List Int) (h : Ints .i64 w a n l) : Mat (w.alloc (.cells #[.slice a n cap] 26)) (some ⟨w.heap.size, 0, none⟩) 1 [l] := by
  refine ⟨rfl, by decide, .inr ⟨_, _, rfl, by simp, fun i hi => ?_⟩⟩
  obtain rfl : i = 0 := by omega
  have hc := cell_one_new w (.slice a n cap) 26 0 _ rfl
  refine ⟨a, cap, ?_, ?_⟩
  · show _ = some (Value.slice a l.length cap)
    rw [h.1]; exact hc
  · show Ints _ _ _ l.length l
    rw [h.1]; exact h.below (b_alloc w _)

set_option maxRecDepth 100000 in
set_option maxHeartbeats 1000000 in
theorem drawSquareB (g : Nat) (w : World) (h : Src w g) : Calls Try.prog 53 #[.pointer (some ⟨g, 0, none⟩)] w (DrawMB g w) := by
  have HS := Lib.hid h
  have hgl := h.lt
  clear h
  go_enter Try.func53, Try.ntmps53
  go_wp2_with fail
  refine (next g 5 _ (by decide) HS.out).mono ?_
  rintro e w1 ⟨x, rfl, hx1, hx2, hs1, ht1⟩
  obtain ⟨x, rfl⟩ := Int.eq_ofNat_of_zero_le hx1
  have hx3 : x < 5 := by omega
  have HS1 := Lib.hid hs1
  have HT1 := Lib.hid ht1
  have e1 : (1 : Int) + (x : Int) = ((1 + x : Nat) : Int) := by omega
  have E1 := Lib.hid e1
  clear e1 hs1 ht1 hx2 hx1
  go_wp2_with fail
  rw [E1.out]
  refine (drawSizeB g (1 + x) (1 + x) _ HS1.out (by omega) (by omega) (by omega) (by omega)).mono ?_
  rintro e w3 ⟨a, n, cap, R, rfl, hn, ho, hs3, ht3⟩
  have HO := Lib.hid (ho.mono HT1.out.below.size)
  have HS3 := Lib.hid hs3
  have HT3 := Lib.hid (HT1.out.trans ht3)
  clear ho hs3 ht3
  go_wp2
  go_ret
  exact ⟨a, n, cap, R, rfl, hn, HO.out, HS3.out, HT3.out⟩
theorem drawSquare (g : Nat) (w : World) (h : Src w g) : Calls Try.prog 53 #[.pointer (some ⟨g, 0, none⟩)] w (DrawM g w) :=
  (drawSquareB g w h).mono fun _ _ h => h.less

/-- A drawn matrix and a drawn integer. -/
def DrawnMI (w : World) (e : Ending) (w' : World) : Prop :=
  ∃ (a : Option Addr) (n cap : Nat) (R : List (List Int)) (x : Int), e = .returned (.tuple #[.slice a n cap, .int .i64 x]) ∧ Mat w' a n R ∧ Below w.heap.size w w'


/-- A drawn integer; two of them. -/
def DrawnI (w : World) (e : Ending) (w' : World) : Prop := ∃ x : Int, e = .returned (.int .i64 x) ∧ Below w.heap.size w w'
def DrawnII (w : World) (e : Ending) (w' : World) : Prop := ∃ x y : Int, e = .returned (.tuple #[.int .i64 x, .int .i64 y]) ∧ Below w.heap.size w w'


end Go.Proofs.Ytmobcobdpemlnaa.V

namespace Go.Proofs.Ytmobcobdpemlnaa.V
open Go.RowKit

theorem Thr.then {g : Nat} {w wx w' : World} (h : Thr g w wx) (hb : Below w.heap.size wx w') (hg : g ≤ w.heap.size) : Thr g w w' :=
  ⟨h.below.trans (hb.mono hg), fun k h1 h2 => (hb.block k h2).trans (h.other k h1 h2)⟩
theorem Src.then {g : Nat} {wx w' : World} {B : Nat} (h : Src wx g) (hb : Below B wx w') (hg : g < B) : Src w' g := h.below (hb.mono hg)

/-- A list that is being drawn. -/
def DL (g B : Nat) (v : Value) (l : List Int) (w0 w : World) : Prop := Own w B v l ∧ Src w g ∧ Thr g w0 w
theorem DL.next {g B : Nat} {v : Value} {l : List Int} {w0 w w' : World} (h : DL g B v l w0 w) (hB : g < B) (hs : Src w' g) (ht : Thr g w w') : DL g B v l w0 w' :=
  ⟨h.1.thr ht hB, hs, h.2.2.trans ht⟩
theorem DL.app {g : Nat} {v v' : Value} {l l' : List Int} {w0 w w' : World} (h : DL g w0.heap.size v l w0 w) (hg : g < w0.heap.size) (ho : Own w' w0.heap.size v' l') (hb : Below w0.heap.size w w') : DL g w0.heap.size v' l' w0 w' :=
  ⟨ho, h.2.1.then hb hg, h.2.2.then hb (Nat.le_of_lt hg)⟩

/-- A drawn vector: some list of integers, in new memory. -/
def DrawV (g : Nat) (w : World) (e : Ending) (w' : World) : Prop :=
  ∃ (a : Option Addr) (n cap : Nat) (l : List Int), e = .returned (.slice a n cap) ∧ Own w' w.heap.size (.slice a n cap) l ∧ Src w' g ∧ Thr g w w'

set_option maxRecDepth 100000 in
set_option maxHeartbeats 4000000 in
theorem drawVector (g n : Nat) (w : World) (h : Src w g) (n2 : n ≤ 1000) :
    Calls Try.prog 54 #[.pointer (some ⟨g, 0, none⟩), .int .i64 n] w (DrawV g w) := by
  have hgs := h.lt
  have HJ0 : Hid (DL g w.heap.size (.slice (some ⟨w.heap.size, 0, none⟩) 0 0) [] w (w.alloc (.cells #[] 2))) :=
    ⟨own_lit0 w _ (Nat.le_refl _), h.alloc _, (Thr.refl _ _).alloc (Nat.le_of_lt hgs) _⟩
  clear h
  go_enter Try.func54, Try.ntmps54
  go_wp2
  go_loopw [1, 5] (fun i out wr => ∃ (j t : Nat) (l : List Int) (b : Option Addr) (c : Nat), j + t ≤ n ∧ i = .int .i64 j ∧ out = .slice b t c ∧ Hid (DL g w.heap.size (.slice b t c) l w wr)) (fun i _ _ => (intOf i).toNat)
  case atStart => exact ⟨n, 0, [], _, _, by omega, rfl, rfl, HJ0⟩
  case round =>
    obtain ⟨j, t, l, b, c, hjt, rfl, rfl, HJ⟩ := hrel
    clear HJ0
    have hj1000 : j ≤ 1000 := by omega
    have ht1000 : t ≤ 1000 := by omega
    by_cases hj : 0 < j
    · have hji : (0 : Int) < (j : Int) := by omega
      go_wp2_with fail
      refine (next g 31 _ (by decide) HJ.out.2.1).mono ?_
      rintro e w1 ⟨x, rfl, hx1, hx2, hs1, ht1⟩
      have hx3 : x < 31 := by omega
      have HJ1 := Lib.hid (HJ.out.next hgs hs1 ht1)
      have hz1 : w.heap.size ≤ w1.heap.size := HJ1.out.2.2.below.size
      have hlen := HJ1.out.1.len
      have HLn := Lib.hid hlen
      clear hs1 ht1 hx2 HJ hlen
      go_wp2_with (at_builtin; refine append1 _ rfl (.tmp 11) (.tmp 15) rfl w.heap.size _ _ _ t HJ1.out.1.len.symm rfl HJ1.out.1 rfl (by rw [← HLn.out]; omega) hz1 ?_)
      intro b2 c2 w2 hO2 hb2 _
      have HJ2 := Lib.hid (HJ1.out.app hgs hO2 hb2)
      clear hO2 hb2 HJ1
      go_wp2_with fail
      refine (next g 8 _ (by decide) HJ2.out.2.1).mono ?_
      rintro e w3 ⟨y, rfl, hy1, -, hs3, ht3⟩
      have HJ3 := Lib.hid (HJ2.out.next hgs hs3 ht3)
      clear hs3 ht3 HJ2
      by_cases hy : y = 0
      · subst hy
        obtain ⟨b3, c3, hv3, -, -, hg3⟩ := own_form HJ3.out.1
        injection hv3 with e1 e2 e3
        subst e1 e3
        rw [← e2] at hg3
        obtain ⟨q, rfl, hq, -⟩ := hg3 (by omega)
        have hcl := HJ3.out.1.cellAt t (by omega)
        have hfz := HJ3.out.1.frozenAt t
        have hN := HJ3.out.1.set t (-1000000000000000)
        have HJ4 := Lib.hid (HJ3.out.app hgs hN ((Below.refl _ _).setCell (p := ⟨q, t, none⟩) hq _))
        obtain ⟨x5, hx5⟩ : ∃ x5, x5 = (l ++ [x - 15]).getD t 0 := ⟨_, rfl⟩
        rw [← hx5] at hcl
        clear hN e2 hx5
        go_wp2
        go_roundw
        case rel => exact ⟨j - 1, t + 1, _, _, _, by omega, by go_num, rfl, HJ4⟩
        case measure => simp [intOf]; omega
      · have ey : (y == 0) = false := by simpa using hy
        go_wp2
        go_roundw
        case rel => exact ⟨j - 1, t + 1, _, _, _, by omega, by go_num, rfl, HJ3⟩
        case measure => simp [intOf]; omega
    · obtain rfl : j = 0 := by omega
      go_wp2_with fail
      refine (next g 60 _ (by decide) HJ.out.2.1).mono ?_
      rintro e w1 ⟨x, rfl, hx1, -, hs1, ht1⟩
      have HJ1 := Lib.hid (HJ.out.next hgs hs1 ht1)
      clear hs1 ht1 HJ
      by_cases hx0 : x = 0
      · subst hx0
        go_wp2_with fail
        refine (drawValue g _ HJ1.out.2.1).mono ?_
        rintro e w2 ⟨z, rfl, hz, hs2, ht2⟩
        have HJ2 := Lib.hid (HJ1.out.next hgs hs2 ht2)
        have hz1 : w.heap.size ≤ w2.heap.size := HJ2.out.2.2.below.size
        have hlen := HJ2.out.1.len
        have HLn := Lib.hid hlen
        clear hs2 ht2 HJ1 hlen
        go_wp2_with (at_builtin; refine append1 _ rfl (.tmp 29) (.tmp 32) rfl w.heap.size _ _ _ t HJ2.out.1.len.symm rfl HJ2.out.1 rfl (by rw [← HLn.out]; omega) hz1 ?_)
        intro b2 c2 w3 hO2 hb2 _
        have HJ3 := Lib.hid (HJ2.out.app hgs hO2 hb2)
        clear hO2 hb2 HJ2
        go_wp2
        go_ret
        exact ⟨_, _, _, _, rfl, HJ3.out.1, HJ3.out.2.1, HJ3.out.2.2⟩
      · have e0 : (x == 0) = false := by simpa using hx0
        by_cases hx1' : x = 1
        · subst hx1'
          go_wp2
          go_ret
          exact ⟨_, _, _, [], rfl, own_nil _ _, HJ1.out.2.1, HJ1.out.2.2⟩
        · have e1 : (x == 1) = false := by simpa using hx1'
          go_wp2
          go_ret
          exact ⟨_, _, _, _, rfl, HJ1.out.1, HJ1.out.2.1, HJ1.out.2.2⟩

/-- A drawn matrix and a drawn vector, as a law is handed them. -/
def DrawnMV (w : World) (e : Ending) (w' : World) : Prop :=
  ∃ (a : Option Addr) (n cap : Nat) (R : List (List Int)) (a' : Option Addr) (n' cap' : Nat) (l : List Int), e = .returned (.tuple #[.slice a n cap, .slice a' n' cap']) ∧ Mat w' a n R ∧ Ints .i64 w' a' n' l ∧ Below w.heap.size w w'

end Go.Proofs.Ytmobcobdpemlnaa.V

namespace Go.Proofs.Ytmobcobdpemlnaa.V
open Go.RowKit

/-- An owned matrix in blocks from B on and below C. -/
def OwnMC (w : World) (B C : Nat) (v : Value) (R : List (List Int)) : Prop :=
  ∃ V, OwnV w B v R V ∧ (∀ k, v.ownBlock = some k → k < C) ∧ ∀ i, i < R.length → ∀ k, (V.getD i (.slice none 0 0)).ownBlock = some k → k < C
theorem OwnM.upto {w : World} {B : Nat} {v : Value} {R : List (List Int)} (h : OwnM w B v R) : OwnMC w B w.heap.size v R := by
  obtain ⟨V, hV⟩ := h
  exact ⟨V, hV, fun k hk => (own_lt hV.2.1 hk).2, fun i hi k hk => (own_lt (hV.2.2.1 i hi) hk).2⟩
theorem OwnMC.own {w : World} {B C : Nat} {v : Value} {R : List (List Int)} (h : OwnMC w B C v R) : OwnM w B v R := ⟨h.choose, h.choose_spec.1⟩
theorem OwnMC.keep {w w' : World} {B C : Nat} {v : Value} {R : List (List Int)} (h : OwnMC w B C v R) (hk : ∀ k, B ≤ k → k < C → w'.heap[k]? = w.heap[k]?) : OwnMC w' B C v R := by
  obtain ⟨V, ⟨h1, h2, h3, h4, h5⟩, h6, h7⟩ := h
  exact ⟨V, ⟨h1, ownsRow_keep h2 (fun k hv => hk k (own_lt h2 hv).1 (h6 k hv)), fun i hi => ownsRow_keep (h3 i hi) (fun k hv => hk k (own_lt (h3 i hi) hv).1 (h7 i hi k hv)), h4, h5⟩, h6, h7⟩
/-- What is needed to read and to write one entry. -/
theorem OwnMC.at {w : World} {B C n cap : Nat} {a : Option Addr} {R : List (List Int)} (h : OwnMC w B C (.slice a n cap) R) (i j : Nat) (hi : i < n) (hj : j < (R.getD i []).length) :
    ∃ g q L c x, a = some ⟨g, 0, none⟩ ∧ B ≤ g ∧ g < C ∧ B ≤ q ∧ q < C ∧ q ≠ g ∧ L = (R.getD i []).length ∧ x = (R.getD i []).getD j 0 ∧ w.cell? ⟨g, i, none⟩ = some (.slice (some ⟨q, 0, none⟩) L c) ∧ w.cell? ⟨q, j, none⟩ = some (.int .i64 x) ∧ w.frozen? ⟨q, j, none⟩ = false ∧
      ∀ y, OwnMC (w.setCell ⟨q, j, none⟩ (.int .i64 y)) B C (.slice a n cap) (R.set i ((R.getD i []).set j y)) := by
  obtain ⟨V, ⟨h1, h2, h3, h4, h5⟩, h6, h7⟩ := h
  obtain ⟨a', c', hv, hc, hm, hg⟩ := own_form h2
  injection hv with e1 e2 e3
  subst e1 e2 e3
  obtain ⟨g, rfl, hBg, hlt⟩ := hg (by omega)
  have hrow := h3 i hi
  obtain ⟨ra, rc, hrv, hrc, hrm, hrg⟩ := own_form hrow
  obtain ⟨q, rfl, hBq, hqlt⟩ := hrg (by omega)
  have hcell := World.ownsRow.cellAt h2 i (by omega)
  have hVi : V[i]? = some (V.getD i (.slice none 0 0)) := by simp [h1, hi]
  have hrow' := hrow
  rw [hrv] at hrow'
  have hcell2 := World.ownsRow.cellAt hrow' j (by omega)
  have hqg : q ≠ g := fun e => h4 i hi q (by rw [hrv]; rfl) (by rw [e]; rfl)
  refine ⟨g, q, _, rc, _, rfl, hBg, h6 g rfl, hBq, h7 i hi q (by rw [hrv]; rfl), hqg, rfl, rfl, ?_, ?_, World.ownsRow.frozenAt hrow' j, fun y => ?_⟩
  · rw [hcell, hVi, hrv]
  · rw [hcell2]
    generalize R.getD i [] = l at hj
    simp [hj]
  · refine ⟨V, ⟨by simpa using h1, ?_, ?_, ?_, ?_⟩, h6, fun t ht => h7 t (by simpa using ht)⟩
    · rw [List.length_set]
      exact ownsRow_keep h2 (fun k hv => Below.heap_setCell _ _ _ _ (by
        simp only [Value.ownBlock, Option.some.injEq] at hv; show k ≠ q; omega))
    · intro t ht
      simp only [List.length_set] at ht
      rw [getD_set _ _ _ _ _ (by omega)]
      by_cases e : t = i
      · subst e
        rw [if_pos rfl, hrv]
        exact Own.set hrow' j y
      · rw [if_neg e]
        refine ownsRow_keep (h3 t ht) (fun k hv => Below.heap_setCell _ _ _ _ ?_)
        show k ≠ q
        intro e2
        subst e2
        exact h5 t i ht hi e k hv (by rw [hrv]; rfl)
    · intro t ht
      simp only [List.length_set] at ht
      exact h4 t ht
    · intro t s ht hs
      simp only [List.length_set] at ht hs
      exact h5 t s ht hs
/-- A store where the row is known to lie. -/
theorem OwnMC.put {w : World} {B C n cap o k t q L c : Nat} {R : List (List Int)} (h : OwnMC w B C (.slice (some ⟨o, 0, none⟩) n cap) R) (hi : k < n) (hj : t < (R.getD k []).length) (hc : w.cell? ⟨o, k, none⟩ = some (.slice (some ⟨q, 0, none⟩) L c)) (y : Int) :
    B ≤ q ∧ q < C ∧ q ≠ o ∧ OwnMC (w.setCell ⟨q, t, none⟩ (.int .i64 y)) B C (.slice (some ⟨o, 0, none⟩) n cap) (R.set k ((R.getD k []).set t y)) := by
  obtain ⟨g, q', L', c', x, hg, _, _, h1, h2, h3, _, _, hc', _, _, hw⟩ := h.at k t hi hj
  injection hg with hg
  injection hg with hg
  subst hg
  rw [hc] at hc'
  injection hc' with hc'
  injection hc' with e1 e2 e3
  injection e1 with e1
  injection e1 with e1
  subst e1
  exact ⟨h1, h2, h3, hw y⟩

/-- A square matrix below C and a list from C on, while the source draws. -/
def D3 (g B C n cap o : Nat) (vx : Value) (l : List Int) (w0 w : World) : Prop :=
  ∃ R, Rect R n n ∧ OwnMC w B C (.slice (some ⟨o, 0, none⟩) n cap) R ∧ Own w C vx l ∧ C ≤ w.heap.size ∧ Src w g ∧ Thr g w0 w
theorem D3.next {g B C n cap o : Nat} {vx : Value} {l : List Int} {w0 w w' : World} (h : D3 g B C n cap o vx l w0 w) (hB : g < B) (hC : B ≤ C) (hs : Src w' g) (ht : Thr g w w') : D3 g B C n cap o vx l w0 w' := by
  obtain ⟨R, h1, h2, h3, h4, h5, h6⟩ := h
  exact ⟨R, h1, h2.keep (fun k k1 k2 => ht.other k (by omega) (by omega)), h3.thr ht (by omega), Nat.le_trans h4 ht.below.size, hs, h6.trans ht⟩
theorem D3.drew {g B C n cap o : Nat} {vx : Value} {l : List Int} {w0 w : World} (h : D3 g B C n cap o vx l w0 w) : D3 g B C n cap o vx l w0 w.drew := by
  obtain ⟨R, h1, h2, h3, h4, h5, h6⟩ := h
  exact ⟨R, h1, h2.keep (fun _ _ _ => rfl), h3.keep (fun _ _ _ => rfl), h4, h5, h6.drew⟩
theorem D3.store {g B C n cap o k t q L c : Nat} {vx : Value} {l : List Int} {w0 w : World} (h : D3 g B C n cap o vx l w0 w) (hB : g < B) (hB0 : w0.heap.size ≤ B) (hi : k < n) (hj : t < n) (hc : w.cell? ⟨o, k, none⟩ = some (.slice (some ⟨q, 0, none⟩) L c)) (y : Int) :
    D3 g B C n cap o vx l w0 (w.setCell ⟨q, t, none⟩ (.int .i64 y)) := by
  obtain ⟨R, h1, h2, h3, h4, h5, h6⟩ := h
  obtain ⟨q1, q2, q3, hp⟩ := h2.put hi (by rw [h1.2 k hi]; exact hj) hc y
  refine ⟨_, h1.set k t y hi, hp, h3.keep (fun b b1 _ => Below.heap_setCell _ _ _ _ (by show b ≠ q; omega)), by simpa [World.setCell] using h4, ?_, ?_⟩
  · exact h5.below ((Below.refl _ _).setCell (p := ⟨q, t, none⟩) (by show g + 1 ≤ q; omega) _)
  · exact ⟨h6.below.setCell (p := ⟨q, t, none⟩) (by show g ≤ q; omega) _, fun b b1 b2 => by
      rw [Below.heap_setCell _ _ _ _ (by show b ≠ q; omega)]; exact h6.other b b1 b2⟩
/-- What one round reads: a row, and two of the numbers. -/
theorem D3.cells {g B C n cap o N c : Nat} {b : Option Addr} {l : List Int} {w0 w : World} (h : D3 g B C n cap o (.slice b N c) l w0 w) (hB : g < B) (k t : Nat) (hi : k < n) (hj : t < n) (hk : k < N) (ht : t < N) :
    ∃ q c2 x xb, b = some ⟨xb, 0, none⟩ ∧ B ≤ q ∧ q < C ∧ C ≤ xb ∧ q ≠ o ∧ B ≤ o ∧ o < C ∧ w.cell? ⟨o, k, none⟩ = some (.slice (some ⟨q, 0, none⟩) n c2) ∧ w.cell? ⟨q, t, none⟩ = some (.int .i64 x) ∧ w.frozen? ⟨q, t, none⟩ = false ∧
      w.cell? ⟨xb, k, none⟩ = some (.int .i64 (l.getD k 0)) ∧ w.cell? ⟨xb, t, none⟩ = some (.int .i64 (l.getD t 0)) := by
  obtain ⟨R, h1, h2, h3, h4, h5, h6⟩ := h
  obtain ⟨g2, q, L, c2, x, hg, o1, o2, q1, q2, q3, hL, hx, c1, c2', f1, _⟩ := h2.at k t hi (by rw [h1.2 k hi]; exact hj)
  injection hg with hg
  injection hg with hg
  subst hg
  rw [h1.2 k hi] at hL
  subst hL
  obtain ⟨b', c', hv, _, _, hg⟩ := own_form h3
  have hl := h3.len
  injection hv with e1 e2 e3
  subst e1
  obtain ⟨xb, rfl, hxb, _⟩ := hg (by omega)
  exact ⟨q, c2, x, xb, rfl, q1, q2, hxb, q3, o1, o2, c1, c2', f1, h3.cellAt k hk, h3.cellAt t ht⟩
/-- The cells outlive a draw. -/
theorem d3_next {g B C n cap o q c2 xb k t : Nat} {vx u1 u2 : Value} {l : List Int} {w0 w wx : World} (h : w.cell? ⟨o, k, none⟩ = some (.slice (some ⟨q, 0, none⟩) n c2) ∧ w.cell? ⟨xb, k, none⟩ = some u1 ∧ w.cell? ⟨xb, t, none⟩ = some u2 ∧ D3 g B C n cap o vx l w0 w) (hB : g < B) (hC : B ≤ C) (ho : B ≤ o) (hx : C ≤ xb) (hs : Src wx g) (ht : Thr g w wx) :
    wx.cell? ⟨o, k, none⟩ = some (.slice (some ⟨q, 0, none⟩) n c2) ∧ wx.cell? ⟨xb, k, none⟩ = some u1 ∧ wx.cell? ⟨xb, t, none⟩ = some u2 ∧ D3 g B C n cap o vx l w0 wx := by
  obtain ⟨h1, h2, h3, h4⟩ := h
  refine ⟨?_, ?_, ?_, h4.next hB hC hs ht⟩
  · rw [ht.cell (p := ⟨o, k, none⟩) (cell_lt h1) (by show o ≠ g; omega)]; exact h1
  · rw [ht.cell (p := ⟨xb, k, none⟩) (cell_lt h2) (by show xb ≠ g; omega)]; exact h2
  · rw [ht.cell (p := ⟨xb, t, none⟩) (cell_lt h3) (by show xb ≠ g; omega)]; exact h3
/-- .. and a store into the row. -/
theorem d3_store {g B C n cap o q c2 xb k t : Nat} {vx u1 u2 : Value} {l : List Int} {w0 w : World} (h : w.cell? ⟨o, k, none⟩ = some (.slice (some ⟨q, 0, none⟩) n c2) ∧ w.cell? ⟨xb, k, none⟩ = some u1 ∧ w.cell? ⟨xb, t, none⟩ = some u2 ∧ D3 g B C n cap o vx l w0 w) (hB : g < B) (hB0 : w0.heap.size ≤ B) (hi : k < n) (hj : t < n) (hqo : q ≠ o) (hq : q < C) (hx : C ≤ xb) (y : Int) :
    (w.setCell ⟨q, t, none⟩ (.int .i64 y)).cell? ⟨o, k, none⟩ = some (.slice (some ⟨q, 0, none⟩) n c2) ∧ (w.setCell ⟨q, t, none⟩ (.int .i64 y)).cell? ⟨xb, k, none⟩ = some u1 ∧ (w.setCell ⟨q, t, none⟩ (.int .i64 y)).cell? ⟨xb, t, none⟩ = some u2 ∧ D3 g B C n cap o vx l w0 (w.setCell ⟨q, t, none⟩ (.int .i64 y)) := by
  obtain ⟨h1, h2, h3, h4⟩ := h
  refine ⟨?_, ?_, ?_, h4.store hB hB0 hi hj h1 y⟩
  · exact (World.cell?_of_block (w := w) (Below.heap_setCell _ _ _ _ (show o ≠ q from fun e => hqo e.symm))).trans h1
  · exact (World.cell?_of_block (w := w) (Below.heap_setCell _ _ _ _ (show xb ≠ q by omega))).trans h2
  · exact (World.cell?_of_block (w := w) (Below.heap_setCell _ _ _ _ (show xb ≠ q by omega))).trans h3
theorem d3_of {A1 A2 A3 A4 : Prop} (h : A1 ∧ A2 ∧ A3 ∧ A4) : A4 := h.2.2.2
end Go.Proofs.Ytmobcobdpemlnaa.V
