/- Texts laid together: Img, Pot3, Img2, Shp, Sqp, Shv, Draw1, Draw2. -/
import Derived.Test.YtcofjjipjcekjaaGreatQy11
import Derived.Test.YtcofjjipjcekjaaGreatQy6
import Derived.Test.YtcofjjipjcekjaaGreatQy5
import Derived.Test.YtcofjjipjcekjaaGreatQy10
import Derived.Test.YtcofjjipjcekjaaGreatQy1
import Derived.Test.YtcofjjipjcekjaaGreatQy3
import Derived.Test.YtcofjjipjcekjaaGreatRows
import Derived.Test.YtcofjjipjcekjaaGreatQy2
import Derived.WalkKit
import Derived.ProofKit
import Derived.WalkSmall
import Derived.Deep.QuietTactic
import Derived.BigQuiet
import Derived.BigRegion
import Derived.Deep.Draws
import Derived.Deep.OwnRows
import Derived.Lib.Hide
set_option linter.unusedSimpArgs false
set_option linter.unusedVariables false
set_option linter.unusedSectionVars false
namespace Go.Proofs.YtcofjjipjcekjaaGreat
namespace M
theorem imgB_s {R : List (List Int)} {a b : Int} {x : List Int} (h : sqB R = false) : imgB R a b x = false := by unfold imgB; rw [h]; rfl
theorem imgB_r {R : List (List Int)} {a b : Int} {x : List Int} (h : isRat a b = false) : imgB R a b x = false := by unfold imgB; rw [h]; simp
theorem imgB_v {R : List (List Int)} {a b : Int} {x : List Int} (h : isVec x = false) : imgB R a b x = false := by unfold imgB; rw [h]; simp
theorem imgB_l {R : List (List Int)} {a b : Int} {x : List Int} (h : ¬ x.length = R.length) : imgB R a b x = false := by unfold imgB; rw [decide_eq_false h]; simp
def imgR (R : List (List Int)) (a b : Int) (x : List Int) : List Int := if imgB R a b x then imgL R a b x else []
theorem imgR_f {R : List (List Int)} {a b : Int} {x : List Int} (h : imgB R a b x = false) : imgR R a b x = [] := by unfold imgR; rw [h]; rfl
theorem imgR_t {R : List (List Int)} {a b : Int} {x : List Int} (h : imgB R a b x = true) : imgR R a b x = imgL R a b x := by unfold imgR; rw [h]; rfl
end M
namespace V
open Go.RowKit
theorem M.top_any {x : List Int} (hv : M.isVec x = true) : (x.any fun v => decide (v ≠ -1000000000000000)) = decide (M.topN (fun i => x.getD i 0) (x.length - 1) ≠ -1000000000000000) := by
  obtain ⟨v1, v2, v3⟩ := M.isVec_t hv
  rw [Bool.eq_iff_iff, List.any_eq_true, decide_eq_true_eq]
  constructor
  · rintro ⟨v, hm, hne⟩
    rw [decide_eq_true_eq] at hne
    obtain ⟨k, hk, rfl⟩ := List.mem_iff_getElem.1 hm
    have h1 := M.topN_ge (fun i => x.getD i 0) (x.length - 1) k (by omega)
    have h2 := M.isVal_t (v3 k hk)
    have e : x.getD k 0 = x[k] := by simp [hk]
    have h1 : x.getD k 0 ≤ _ := h1
    rw [e] at h1 h2
    omega
  · intro h
    obtain ⟨k, hk, e⟩ := M.topN_at (fun i => x.getD i 0) (x.length - 1)
    have hk' : k < x.length := by omega
    have e : _ = x.getD k 0 := e
    refine ⟨x[k], List.getElem_mem hk', ?_⟩
    rw [decide_eq_true_eq]
    rw [e] at h
    simpa [hk'] using h
set_option maxRecDepth 100000 in
set_option maxHeartbeats 400000 in
theorem isAtMost (a : Option Addr) (n cap : Nat) (y : List Int) (a' : Option Addr) (cap' : Nat) (x : List Int) (w : World) (h : Ints .i64 w a n y) (h' : Ints .i64 w a' n x) (hn : n ≤ 1000) :
    Calls Tryz.prog 47 #[.slice a n cap, .slice a' n cap'] w fun e w' => e = .returned (.bool (M.atMostB y x)) ∧ w = w' := by
  have HY := Lib.hid h
  have HXx := Lib.hid h'
  have HL := Lib.hid h.1
  clear h h'
  go_enter Tryz.func47, Tryz.ntmps47
  go_wp2
  go_loop [5, 6, 9] (fun _ _ i => ∃ k : Nat, k ≤ n ∧ i = .int .i64 k ∧ Hid (∀ i, i < k → y.getD i 0 ≤ x.getD i 0)) (fun _ _ i => n - (intOf i).toNat)
  case atStart => exact ⟨0, Nat.zero_le _, rfl, fun i hi => absurd hi (Nat.not_lt_zero i)⟩
  case round =>
    obtain ⟨k, hk, rfl, HK⟩ := hrel
    by_cases hlt : k < n
    · have hki : (k : Int) < (n : Int) := by omega
      obtain ⟨d1, d2, u, rfl, -, hu, cu⟩ := HY.out.at k hlt
      obtain ⟨d3, d4, v, rfl, -, hv, cv⟩ := HXx.out.at k hlt
      have HU := Lib.hid hu
      have HV := Lib.hid hv
      clear hu hv
      by_cases hgt : v < u
      · have HF : Hid (M.atMostB y x = false) := by
          show _ = _
          unfold M.atMostB
          cases e : (List.range y.length).all fun i => decide (y.getD i 0 ≤ x.getD i 0) with
          | false => rfl
          | true =>
            have := List.all_eq_true.1 e k (List.mem_range.2 (by rw [HL.out]; exact hlt))
            rw [decide_eq_true_eq, ← HU.out, ← HV.out] at this
            omega
        go_wp2
        go_ret
        exact ⟨retB HF.out.symm, rfl⟩
      · have HK2 : Hid (∀ i, i < k + 1 → y.getD i 0 ≤ x.getD i 0) := fun i hi => by
          by_cases e : i = k
          · subst e; rw [← HU.out, ← HV.out]; omega
          · exact HK.out i (by omega)
        have hgt2 : u ≤ v := by omega
        go_wp2
        go_round
        case rel => exact ⟨k + 1, by omega, by go_num, HK2⟩
        case measure => simp [intOf]; omega
    · obtain rfl : k = n := by omega
      have HF : Hid (M.atMostB y x = true) := by
        show _ = _
        unfold M.atMostB
        rw [List.all_eq_true]
        intro i hi
        rw [decide_eq_true_eq]
        exact HK.out i (by have := List.mem_range.1 hi; rw [HL.out] at this; exact this)
      go_wp2
      go_ret
      exact ⟨retB HF.out.symm, rfl⟩
set_option maxRecDepth 100000 in
set_option maxHeartbeats 2000000 in
theorem shiftedImage (a : Option Addr) (n cap : Nat) (R : List (List Int)) (num den : Int) (a' : Option Addr) (N cap' : Nat) (l : List Int) (w0 : World) (h : Mat w0 a n R) (h' : Ints .i64 w0 a' N l) :
    Calls Tryz.prog 44 #[.slice a n cap, .agg #[.int .i64 num, .int .i64 den], .slice a' N cap'] w0 fun e w' => ∃ b m c, e = .returned (.tuple #[.slice b m c, .bool (M.imgB R num den l)]) ∧ Own w' w0.heap.size (.slice b m c) (M.imgR R num den l) ∧ Below w0.heap.size w0 w' := by
  obtain ⟨w, hwd⟩ : ∃ w, w = w0.alloc (rbox num den) := ⟨_, rfl⟩
  have HX : Hid (Boxed w0 w num den) := by show Boxed _ _ _ _; rw [hwd]; exact boxed _ _ _
  have HA : Hid (Mat w a n R) := h.below HX.out.below
  have HI : Hid (Ints .i64 w a' N l) := h'.below HX.out.below
  have HL := Lib.hid h'.1
  have HZ := Lib.hid HX.out.size
  obtain ⟨c0, c1⟩ := HX.out.cells (Below.refl _ _)
  obtain ⟨bs, hs⟩ : ∃ b, b = M.sqB R := ⟨_, rfl⟩
  have HS := Lib.hid hs.symm
  cases bs with
  | false =>
    have HE : Hid (M.imgB R num den l = false) := M.imgB_s hs.symm
    clear h h' hs
    go_enter Tryz.func44, Tryz.ntmps44
    go_wp2_with fail
    simp only [← hwd] at *
    clear hwd
    refine (isSquare_b _ _ _ R _ false HS.out HA.out).mono ?_
    rintro e w' ⟨rfl, rfl⟩
    go_wp2
    go_ret2
    rw [HE.out]
    exact ⟨none, 0, 0, rfl, by rw [M.imgR_f HE.out]; exact own_nil _ _, HX.out.below⟩
  | true =>
    have hss := hs.symm
    obtain ⟨rR, n1, n2, hsm⟩ := sq_parts HA.out hss
    obtain ⟨br, hr⟩ : ∃ b, b = M.isRat num den := ⟨_, rfl⟩
    have HR := Lib.hid hr.symm
    have HRe := Lib.hid rR
    have HSm := Lib.hid hsm
    have hRl := HA.out.1
    have HRl := Lib.hid hRl
    cases br with
    | false =>
      have HE : Hid (M.imgB R num den l = false) := M.imgB_r hr.symm
      clear h h' hs hss rR hsm hr hRl
      go_enter Tryz.func44, Tryz.ntmps44
      go_wp2_with fail
      simp only [← hwd] at *
      clear hwd
      refine (isSquare_b _ _ _ R _ true HS.out HA.out).mono ?_
      rintro e w' ⟨rfl, rfl⟩
      go_wp2_with fail
      refine (isRatio_b _ _ false HR.out _).mono ?_
      rintro e w1 ⟨rfl, hb1⟩
      have HB1 := Lib.hid hb1
      have HI1 : Hid (Ints .i64 w1 a' N l) := HI.out.below hb1
      obtain ⟨p0, p1⟩ := HX.out.cells hb1
      clear hb1
      go_wp2
      go_ret2
      rw [HE.out]
      exact ⟨none, 0, 0, rfl, by rw [M.imgR_f HE.out]; exact own_nil _ _, HX.out.trans HB1.out⟩
    | true =>
      obtain ⟨bv, hv⟩ : ∃ b, b = M.isVec l := ⟨_, rfl⟩
      have HV := Lib.hid hv.symm
      cases bv with
      | false =>
        have HE : Hid (M.imgB R num den l = false) := M.imgB_v hv.symm
        clear h h' hs hss rR hsm hr hv hRl
        go_enter Tryz.func44, Tryz.ntmps44
        go_wp2_with fail
        simp only [← hwd] at *
        clear hwd
        refine (isSquare_b _ _ _ R _ true HS.out HA.out).mono ?_
        rintro e w' ⟨rfl, rfl⟩
        go_wp2_with fail
        refine (isRatio_b _ _ true HR.out _).mono ?_
        rintro e w1 ⟨rfl, hb1⟩
        have HB1 := Lib.hid hb1
        have HI1 : Hid (Ints .i64 w1 a' N l) := HI.out.below hb1
        obtain ⟨p0, p1⟩ := HX.out.cells hb1
        clear hb1
        go_wp2_with fail
        refine (isVector_b _ _ _ l _ false HV.out HI1.out).mono ?_
        rintro e w' ⟨rfl, rfl⟩
        go_wp2
        go_ret2
        rw [HE.out]
        exact ⟨none, 0, 0, rfl, by rw [M.imgR_f HE.out]; exact own_nil _ _, HX.out.trans HB1.out⟩
      | true =>
        by_cases hN : N = n
        · subst hN
          obtain ⟨v1, v2, v3⟩ := M.isVec_t hv.symm
          obtain ⟨t, ht⟩ : ∃ t, t = M.topN (fun i => l.getD i 0) (N - 1) := ⟨_, rfl⟩
          have HT := Lib.hid ht
          have hany : (l.any fun v => decide (v ≠ -1000000000000000)) = decide (t ≠ -1000000000000000) := by rw [M.top_any hv.symm, HL.out, ht]
          by_cases ht0 : t = -1000000000000000
          · have HE : Hid (M.imgB R num den l = false) := by show _ = _; rw [M.imgB_cmp, hany, ht0]; simp
            clear h h' hs hss rR hsm hr hv hRl ht hany v1 v2 v3
            subst ht0
            go_enter Tryz.func44, Tryz.ntmps44
            go_wp2_with fail
            simp only [← hwd] at *
            clear hwd
            refine (isSquare_b _ _ _ R _ true HS.out HA.out).mono ?_
            rintro e w' ⟨rfl, rfl⟩
            go_wp2_with fail
            refine (isRatio_b _ _ true HR.out _).mono ?_
            rintro e w1 ⟨rfl, hb1⟩
            have HB1 := Lib.hid hb1
            have HI1 : Hid (Ints .i64 w1 a' N l) := HI.out.below hb1
            obtain ⟨p0, p1⟩ := HX.out.cells hb1
            clear hb1
            go_wp2_with fail
            refine (isVector_b _ _ _ l _ true HV.out HI1.out).mono ?_
            rintro e w' ⟨rfl, rfl⟩
            go_wp2_with fail
            refine (slicesMax _ _ _ _ _ HI1.out n1).mono ?_
            rintro e w' ⟨rfl, rfl⟩
            rw [← HT.out]
            go_wp2
            go_ret2
            rw [HE.out]
            exact ⟨none, 0, 0, rfl, by rw [M.imgR_f HE.out]; exact own_nil _ _, HX.out.trans HB1.out⟩
          · have hE : M.imgB R num den l = true := by
              rw [M.imgB_cmp, hany, decide_eq_true ht0, Bool.and_true]
              unfold M.cmpOk
              rw [← hs, ← hr, ← hv, HL.out, hRl]
              simp
            have HE := Lib.hid hE
            have htb : (t == -1000000000000000) = false := by simpa using ht0
            have HSh : Hid (∀ i j, i < N → j < N → M.Sm 1000001000000 (M.shf (M.ent R) num den i j)) := fun i j hi hj => M.shf_sm (M.near_rat hr.symm) (hsm i j hi hj)
            have HB : Hid (∀ k, k < N → M.Big (l.getD k 0)) := fun k hk => M.big_val (v3 k (by rw [HL.out]; exact hk))
            have HM : Hid (∀ i k, i < N → k < N → M.Big (M.ent (M.mk N N (M.shf (M.ent R) num den)) i k)) := fun i k hi hk => by
              rw [M.ent_mk _ _ _ _ _ hi hk]; exact M.big_sm (HSh.out i k hi hk) (by omega)
            have HY : Hid (M.applyM (M.mk N N (M.shf (M.ent R) num den)) l = M.imgL R num den l) := by show _ = _; unfold M.imgL M.shM; rw [hRl]
            clear h h' hs hss rR hsm hr hv hRl ht hany v1 v2 v3 hE ht0
            go_enter Tryz.func44, Tryz.ntmps44
            go_wp2_with fail
            simp only [← hwd] at *
            clear hwd
            refine (isSquare_b _ _ _ R _ true HS.out HA.out).mono ?_
            rintro e w' ⟨rfl, rfl⟩
            go_wp2_with fail
            refine (isRatio_b _ _ true HR.out _).mono ?_
            rintro e w1 ⟨rfl, hb1⟩
            have HB1 := Lib.hid hb1
            have HI1 : Hid (Ints .i64 w1 a' N l) := HI.out.below hb1
            obtain ⟨p0, p1⟩ := HX.out.cells hb1
            clear hb1
            go_wp2_with fail
            refine (isVector_b _ _ _ l _ true HV.out HI1.out).mono ?_
            rintro e w' ⟨rfl, rfl⟩
            go_wp2_with fail
            refine (slicesMax _ _ _ _ _ HI1.out n1).mono ?_
            rintro e w' ⟨rfl, rfl⟩
            rw [← HT.out]
            go_wp2_with fail
            refine (shiftedBy _ _ _ R _ _ _ (HA.out.below HB1.out) HRe.out n1 n2 HSm.out (M.near_rat HR.out)).mono ?_
            rintro e w2 ⟨a2, cap2, rfl, hO, hb⟩
            have HO := Lib.hid hO
            have HB2 := Lib.hid (HB1.out.trans (hb.mono HB1.out.size))
            have HI2 : Hid (Ints .i64 w2 a' N l) := HI1.out.below hb
            clear hO hb
            go_wp2_with fail
            refine (timesColumn _ _ _ _ _ _ _ l _ HO.out.mat HI2.out (rect_mk _ _ _) HM.out HB.out n1 n2 n1 n2).mono ?_
            rintro e w3 ⟨b3, c3, rfl, hx, hb⟩
            rw [HY.out] at hx
            have HB3 := Lib.hid (HX.out.trans (HB2.out.trans (hb.mono HB2.out.size)))
            have HXx := Lib.hid (hx.mono (Nat.le_trans HX.out.below.size HB2.out.size))
            clear hx hb
            go_wp2
            go_ret2
            rw [HE.out]
            exact ⟨b3, N, c3, rfl, by rw [M.imgR_t HE.out]; exact HXx.out, HB3.out⟩
        · have HE : Hid (M.imgB R num den l = false) := M.imgB_l (fun k => hN (by rw [← HL.out, k, hRl]))
          have hne : ((N : Int) != (n : Int)) = true := by simp; omega
          have hne2 : ((N : Int) == (n : Int)) = false := by simp; omega
          have hne3 : (N == n) = false := by simpa using hN
          clear h h' hs hss rR hsm hr hv hRl
          go_enter Tryz.func44, Tryz.ntmps44
          go_wp2_with fail
          simp only [← hwd] at *
          clear hwd
          refine (isSquare_b _ _ _ R _ true HS.out HA.out).mono ?_
          rintro e w' ⟨rfl, rfl⟩
          go_wp2_with fail
          refine (isRatio_b _ _ true HR.out _).mono ?_
          rintro e w1 ⟨rfl, hb1⟩
          have HB1 := Lib.hid hb1
          have HI1 : Hid (Ints .i64 w1 a' N l) := HI.out.below hb1
          obtain ⟨p0, p1⟩ := HX.out.cells hb1
          clear hb1
          go_wp2_with fail
          refine (isVector_b _ _ _ l _ true HV.out HI1.out).mono ?_
          rintro e w' ⟨rfl, rfl⟩
          go_wp2
          go_ret2
          rw [HE.out]
          exact ⟨none, 0, 0, rfl, by rw [M.imgR_f HE.out]; exact own_nil _ _, HX.out.trans HB1.out⟩
end V
end Go.Proofs.YtcofjjipjcekjaaGreat

namespace Go.Proofs.YtcofjjipjcekjaaGreat
namespace M
theorem apply_at (R : List (List Int)) (l : List Int) {i : Nat} (hi : i < R.length) : (applyM R l).getD i 0 = dotV R l i l.length := by
  unfold applyM
  rw [List.getD_eq_getElem?_getD, List.getElem?_map, List.getElem?_range hi]; rfl
theorem isPotB_of {R : List (List Int)} {a b : Int} {x : List Int} (hs : sqB R = true) (hr : isRat a b = true) (hl : x.length = R.length) (hf : x.all isFin = true) :
    isPotB R a b x = (List.range R.length).all fun i => decide ((applyM (mk R.length R.length (shf (ent R) a b)) x).getD i 0 ≤ x.getD i 0) := by
  unfold isPotB holdsB
  rw [hs, hr, hf, decide_eq_true hl]
  have e : ∀ i, i < R.length → (applyM (mk R.length R.length (shf (ent R) a b)) x).getD i 0 = sumN R.length fun j => times (shf (ent R) a b i j) (x.getD j 0) := fun i hi => by
    rw [apply_at _ _ (by rw [mk_length]; exact hi), hl]
    unfold dotV
    exact sumN_congr fun j hj => by rw [ent_mk _ _ _ _ _ hi hj]
  simp only [Bool.true_and]
  rw [Bool.eq_iff_iff, List.all_eq_true, List.all_eq_true]
  constructor
  · intro h i hi; rw [e i (List.mem_range.1 hi)]; exact h i hi
  · intro h i hi; rw [← e i (List.mem_range.1 hi)]; exact h i hi
theorem isPotB_no {R : List (List Int)} {a b : Int} {x : List Int} (h : ¬ (x.length = R.length ∧ x.all isFin = true)) : isPotB R a b x = false := by
  unfold isPotB holdsB
  by_cases h1 : x.length = R.length
  · have h2 : x.all isFin = false := by
      cases e : x.all isFin with
      | false => rfl
      | true => exact absurd ⟨h1, e⟩ h
    rw [h2]; simp
  · rw [decide_eq_false h1]; simp
end M
namespace V
open Go.RowKit
theorem vec_fin {l : List Int} (hv : M.isVec l = true) {b : Bool} (hb : l.all M.isFin = b) : (!b) = true ↔ (-1000000000000000 : Int) ∈ l := by
  subst hb
  rw [Bool.not_eq_true', ← Bool.not_eq_true, List.all_eq_true]
  constructor
  · intro h
    apply Classical.byContradiction
    intro hn
    apply h
    intro x hx
    obtain ⟨i, hi, rfl⟩ := List.mem_iff_getElem.1 hx
    have := M.isVal_t ((M.isVec_t hv).2.2 i hi)
    simp only [List.getD_eq_getElem?_getD, List.getElem?_eq_getElem hi, Option.getD_some] at this
    rcases this with e | e
    · rw [e] at hx; exact absurd hx hn
    · simp [M.isFin]; omega
  · intro h k
    have := k _ h
    exact absurd this (by decide)
end V
end Go.Proofs.YtcofjjipjcekjaaGreat

namespace Go.Proofs.YtcofjjipjcekjaaGreat
namespace M
def okArc (P : Nat → Nat → Int) (x : List Int) (i k : Nat) : Prop := P i k = -1000000000000000 ∨ P i k + x.getD k 0 ≤ x.getD i 0
theorem holdsB_of {R : List (List Int)} {a b : Int} {x : List Int} (hl : x.length = R.length) (hf : x.all isFin = true) :
    holdsB R a b x = true ↔ ∀ i, i < R.length → ∀ k, k < R.length → okArc (shf (ent R) a b) x i k := by
  unfold holdsB
  rw [hf, decide_eq_true hl]
  simp only [Bool.true_and, Bool.and_true, List.all_eq_true, List.mem_range, decide_eq_true_eq]
  have hfin : ∀ k, k < R.length → -1000000 ≤ x.getD k 0 ∧ x.getD k 0 ≤ 1000000 := fun k hk => by
    have hk' : k < x.length := by omega
    have := List.all_eq_true.1 hf x[k] (List.getElem_mem hk')
    rw [List.getD_eq_getElem?_getD, List.getElem?_eq_getElem hk']
    exact isFin_t this
  have ht : ∀ i k, k < R.length → times (shf (ent R) a b i k) (x.getD k 0) = if shf (ent R) a b i k = -1000000000000000 then -1000000000000000 else shf (ent R) a b i k + x.getD k 0 := fun i k hk => by
    have := hfin k hk
    unfold times
    by_cases e : shf (ent R) a b i k = -1000000000000000
    · rw [if_pos (.inl e), if_pos e]
    · rw [if_neg (by rintro (h | h) <;> omega), if_neg e]
  constructor
  · intro h i hi k hk
    have h1 := sum_ge (f := fun j => times (shf (ent R) a b i j) (x.getD j 0)) hk
    have h2 := h i hi
    have h1 : times (shf (ent R) a b i k) (x.getD k 0) ≤ _ := h1
    rw [ht i k hk] at h1
    by_cases e : shf (ent R) a b i k = -1000000000000000
    · exact .inl e
    · rw [if_neg e] at h1; exact .inr (Int.le_trans h1 h2)
  · intro h i hi
    have := hfin i hi
    refine sum_le (by omega) fun k hk => ?_
    show times (shf (ent R) a b i k) (x.getD k 0) ≤ _
    rw [ht i k hk]
    rcases h i hi k hk with e | e
    · rw [if_pos e]; omega
    · by_cases e2 : shf (ent R) a b i k = -1000000000000000
      · rw [if_pos e2]; omega
      · rw [if_neg e2]; exact e
end M
namespace V
open Go.RowKit
end V
end Go.Proofs.YtcofjjipjcekjaaGreat

namespace Go.Proofs.YtcofjjipjcekjaaGreat
namespace V
open Go.RowKit
theorem M.ext_at {l l' : List Int} {n : Nat} (h1 : l.length = n) (h2 : l'.length = n) (h : ∀ i, i < n → l.getD i 0 = l'.getD i 0) : l = l' := by
  apply List.ext_getElem (by omega)
  intro k k1 k2
  have := h k (by omega)
  simpa [k1, k2] using this
set_option maxRecDepth 100000 in
set_option maxHeartbeats 400000 in
theorem slicesEqual (a : Option Addr) (n cap : Nat) (y : List Int) (a' : Option Addr) (cap' : Nat) (x : List Int) (w : World) (h : Ints .i64 w a n y) (h' : Ints .i64 w a' n x) (hn : n ≤ 1000) :
    Calls Tryz.prog 45 #[.slice a n cap, .slice a' n cap'] w fun e w' => e = .returned (.bool (decide (y = x))) ∧ ∃ q, w' = w.drewN q := by
  have HY := Lib.hid h
  have HXx := Lib.hid h'
  have HL := Lib.hid h.1
  have HL' := Lib.hid h'.1
  clear h h'
  go_enter Tryz.func45, Tryz.ntmps45
  go_wp2
  go_loopw [5, 13] (fun _ i wr => ∃ k : Nat, k ≤ n ∧ i = .int .i64 k ∧ Hid (∀ i, i < k → y.getD i 0 = x.getD i 0) ∧ ∃ q, wr = w.drewN q) (fun _ i _ => n - (intOf i).toNat)
  case atStart => exact ⟨0, Nat.zero_le _, rfl, fun i hi => absurd hi (Nat.not_lt_zero i), 0, rfl⟩
  case round =>
    obtain ⟨k, hk, rfl, HK, q, rfl⟩ := hrel
    by_cases hlt : k < n
    · have hki : (k : Int) < (n : Int) := by omega
      obtain ⟨d1, d2, u, rfl, -, hu, cu⟩ := HY.out.at k hlt
      obtain ⟨d3, d4, v, rfl, -, hv, cv⟩ := HXx.out.at k hlt
      have HU := Lib.hid hu
      have HV := Lib.hid hv
      clear hu hv
      by_cases hgt : u = v
      · have HK2 : Hid (∀ i, i < k + 1 → y.getD i 0 = x.getD i 0) := fun i hi => by
          by_cases e : i = k
          · subst e; rw [← HU.out, ← HV.out]; exact hgt
          · exact HK.out i (by omega)
        have hb : (u != v) = false := by simp [hgt]
        clear hgt
        go_wp2
        go_quiet (fail)
        go_wp2
        go_roundw
        case rel => exact ⟨k + 1, by omega, by go_num, HK2, _, rfl⟩
        case measure => simp [intOf]; omega
      · have HF : Hid (decide (y = x) = false) := decide_eq_false fun e => hgt (by rw [HU.out, HV.out, e])
        have hb : (u != v) = true := by simpa using hgt
        go_wp2
        go_quiet (fail)
        go_wp2
        go_ret
        exact ⟨retB HF.out.symm, _, World.drewN_drewN _ _ _⟩
    · obtain rfl : k = n := by omega
      have HF : Hid (decide (y = x) = true) := decide_eq_true (M.ext_at HL.out HL'.out HK.out)
      go_wp2
      go_ret
      exact ⟨retB HF.out.symm, _, rfl⟩
set_option maxRecDepth 100000 in
set_option maxHeartbeats 1000000 in
theorem isEigenVector (a : Option Addr) (n cap : Nat) (R : List (List Int)) (num den : Int) (a' : Option Addr) (N cap' : Nat) (l : List Int) (w0 : World) (h : Mat w0 a n R) (h' : Ints .i64 w0 a' N l) :
    Calls Tryz.prog 13 #[.slice a n cap, .agg #[.int .i64 num, .int .i64 den], .slice a' N cap'] w0 fun e w' => e = .returned (.bool (M.eigB R num den l)) ∧ Below w0.heap.size w0 w' := by
  obtain ⟨w, hwd⟩ : ∃ w, w = w0.alloc (rbox num den) := ⟨_, rfl⟩
  have HX : Hid (Boxed w0 w num den) := by show Boxed _ _ _ _; rw [hwd]; exact boxed _ _ _
  have HA : Hid (Mat w a n R) := h.below HX.out.below
  have HI : Hid (Ints .i64 w a' N l) := h'.below HX.out.below
  have HL := Lib.hid h'.1
  have HRn := Lib.hid h.1
  have HZ := Lib.hid HX.out.size
  obtain ⟨c0, c1⟩ := HX.out.cells (Below.refl _ _)
  obtain ⟨b, hb⟩ : ∃ b, b = M.imgB R num den l := ⟨_, rfl⟩
  have HB := Lib.hid hb.symm
  cases b with
  | false =>
    have HE : Hid (M.eigB R num den l = false) := by show _ = _; unfold M.eigB; rw [← hb]; rfl
    clear h h' hb
    go_enter Tryz.func13, Tryz.ntmps13
    go_wp2_with fail
    simp only [← hwd] at *
    clear hwd
    refine (shiftedImage _ _ _ R _ _ _ _ _ l _ HA.out HI.out).mono ?_
    rintro e w1 ⟨b1, m, c, rfl, ho, hb⟩
    rw [HB.out]
    have HB1 := Lib.hid (HX.out.trans hb)
    clear ho hb
    go_wp2
    go_ret
    exact ⟨retB HE.out.symm, HB1.out⟩
  | true =>
    obtain ⟨y, hy⟩ : ∃ y, y = M.imgL R num den l := ⟨_, rfl⟩
    have HE : Hid (M.eigB R num den l = decide (y = l)) := by show _ = _; unfold M.eigB; rw [← hb, hy]; rfl
    have HY : Hid (M.imgR R num den l = y) := by show _ = _; rw [M.imgR_t hb.symm, hy]
    have hyl : y.length = N := by rw [hy, M.imgL_len, h.1, ← (M.cmpOk_t (by rw [M.imgB_cmp, eq_comm, Bool.and_eq_true] at hb; exact hb.1)).2.2.2.trans h.1, h'.1]
    have hN10 : N ≤ 1000 := by
      have := M.cmpOk_t (R := R) (a := num) (b := den) (x := l) (by rw [M.imgB_cmp, eq_comm, Bool.and_eq_true] at hb; exact hb.1)
      have h2 := (M.isVec_t this.2.2.1).2.1
      rw [h'.1] at h2; omega
    have HYl := Lib.hid hyl
    clear h h' hb hy hyl
    go_enter Tryz.func13, Tryz.ntmps13
    go_wp2_with fail
    simp only [← hwd] at *
    clear hwd
    refine (shiftedImage _ _ _ R _ _ _ _ _ l _ HA.out HI.out).mono ?_
    rintro e w1 ⟨b1, m, c, rfl, ho, hb⟩
    rw [HB.out]
    rw [HY.out] at ho
    obtain rfl : m = N := by rw [ho.len, HYl.out]
    have HO := Lib.hid ho.ints'
    have HB1 := Lib.hid (HX.out.trans hb)
    have HI1 := Lib.hid (HI.out.below hb)
    clear ho hb
    go_wp2_with fail
    refine (slicesEqual _ _ _ y _ _ l _ HO.out HI1.out hN10).mono ?_
    rintro e w' ⟨rfl, q, rfl⟩
    go_wp2
    go_ret
    exact ⟨retB HE.out.symm, below_drewN HB1.out _⟩
set_option maxRecDepth 100000 in
set_option maxHeartbeats 1000000 in
theorem isSubEigen (a : Option Addr) (n cap : Nat) (R : List (List Int)) (num den : Int) (a' : Option Addr) (N cap' : Nat) (l : List Int) (w0 : World) (h : Mat w0 a n R) (h' : Ints .i64 w0 a' N l) :
    Calls Tryz.prog 15 #[.slice a n cap, .agg #[.int .i64 num, .int .i64 den], .slice a' N cap'] w0 fun e w' => e = .returned (.bool (M.subB R num den l)) ∧ Below w0.heap.size w0 w' := by
  obtain ⟨w, hwd⟩ : ∃ w, w = w0.alloc (rbox num den) := ⟨_, rfl⟩
  have HX : Hid (Boxed w0 w num den) := by show Boxed _ _ _ _; rw [hwd]; exact boxed _ _ _
  have HA : Hid (Mat w a n R) := h.below HX.out.below
  have HI : Hid (Ints .i64 w a' N l) := h'.below HX.out.below
  have HL := Lib.hid h'.1
  have HRn := Lib.hid h.1
  have HZ := Lib.hid HX.out.size
  obtain ⟨c0, c1⟩ := HX.out.cells (Below.refl _ _)
  obtain ⟨b, hb⟩ : ∃ b, b = M.imgB R num den l := ⟨_, rfl⟩
  have HB := Lib.hid hb.symm
  cases b with
  | false =>
    have HE : Hid (M.subB R num den l = false) := by show _ = _; unfold M.subB; rw [← hb]; rfl
    clear h h' hb
    go_enter Tryz.func15, Tryz.ntmps15
    go_wp2_with fail
    simp only [← hwd] at *
    clear hwd
    refine (shiftedImage _ _ _ R _ _ _ _ _ l _ HA.out HI.out).mono ?_
    rintro e w1 ⟨b1, m, c, rfl, ho, hb⟩
    rw [HB.out]
    have HB1 := Lib.hid (HX.out.trans hb)
    clear ho hb
    go_wp2
    go_ret
    exact ⟨retB HE.out.symm, HB1.out⟩
  | true =>
    obtain ⟨y, hy⟩ : ∃ y, y = M.imgL R num den l := ⟨_, rfl⟩
    have HE : Hid (M.subB R num den l = M.atMostB y l) := by show _ = _; unfold M.subB; rw [← hb, hy]; rfl
    have HY : Hid (M.imgR R num den l = y) := by show _ = _; rw [M.imgR_t hb.symm, hy]
    have hyl : y.length = N := by rw [hy, M.imgL_len, h.1, ← (M.cmpOk_t (by rw [M.imgB_cmp, eq_comm, Bool.and_eq_true] at hb; exact hb.1)).2.2.2.trans h.1, h'.1]
    have hN10 : N ≤ 1000 := by
      have := M.cmpOk_t (R := R) (a := num) (b := den) (x := l) (by rw [M.imgB_cmp, eq_comm, Bool.and_eq_true] at hb; exact hb.1)
      have h2 := (M.isVec_t this.2.2.1).2.1
      rw [h'.1] at h2; omega
    have HYl := Lib.hid hyl
    clear h h' hb hy hyl
    go_enter Tryz.func15, Tryz.ntmps15
    go_wp2_with fail
    simp only [← hwd] at *
    clear hwd
    refine (shiftedImage _ _ _ R _ _ _ _ _ l _ HA.out HI.out).mono ?_
    rintro e w1 ⟨b1, m, c, rfl, ho, hb⟩
    rw [HB.out]
    rw [HY.out] at ho
    obtain rfl : m = N := by rw [ho.len, HYl.out]
    have HO := Lib.hid ho.ints'
    have HB1 := Lib.hid (HX.out.trans hb)
    have HI1 := Lib.hid (HI.out.below hb)
    clear ho hb
    go_wp2_with fail
    refine (isAtMost _ _ _ y _ _ l _ HO.out HI1.out hN10).mono ?_
    rintro e w' ⟨rfl, rfl⟩
    go_wp2
    go_ret
    exact ⟨retB HE.out.symm, HB1.out⟩
end V
end Go.Proofs.YtcofjjipjcekjaaGreat

namespace Go.Proofs.YtcofjjipjcekjaaGreat
namespace M
def shvL (l : List Int) (g : Int) : List Int := l.map fun x => times x g
def shvRes (l : List Int) (g : Int) : List Int × Int := if isVec l then (if isFin g then (if isVec (shvL l g) then (shvL l g, 0) else ([], 3)) else ([], 2)) else ([], 1)
theorem shv_len (l : List Int) (g : Int) : (shvL l g).length = l.length := by simp [shvL]
theorem shv_get {l : List Int} {g : Int} {i : Nat} (hi : i < l.length) : (shvL l g).getD i 0 = times (l.getD i 0) g := by
  simp [shvL, hi]
theorem shv_take {l : List Int} {g : Int} {k : Nat} (hk : k < l.length) : (shvL l g).take (k + 1) = (shvL l g).take k ++ [times (l.getD k 0) g] := by
  have h := List.take_succ_eq_append_getElem (l := shvL l g) (i := k) (by rw [shv_len]; exact hk)
  rw [h]
  congr 2
  simp [shvL, hk]
theorem shvRes_len (l : List Int) (g : Int) : (shvRes l g).1.length ≤ 10 := by
  unfold shvRes
  split
  · split
    · split
      · rename_i h
        have := (isVec_t h).2.1
        exact this
      · exact Nat.zero_le _
    · exact Nat.zero_le _
  · exact Nat.zero_le _
/-- The element with the index k of the orbit of x. -/
def orb (R : List (List Int)) (x : List Int) : Nat → List Int
  | 0 => x
  | k + 1 => applyM R (orb R x k)
def orbL (R : List (List Int)) (x : List Int) (k : Nat) : List (List Int) := (List.range k).map (orb R x)
def orbCode (R : List (List Int)) (x : List Int) : Int := if sqB R && isVec x then (if x.length = R.length then 0 else 5) else 1
def orbRes (R : List (List Int)) (x : List Int) (n : Int) : List (List Int) × Int :=
  if orbCode R x = 0 then (if 0 ≤ n ∧ n ≤ 100 then (if (orbL R x (n.toNat + 1)).all isVec then (orbL R x (n.toNat + 1), 0) else ([], 3)) else ([], 2)) else ([], orbCode R x)
theorem orbCode_t {R : List (List Int)} {x : List Int} (h : orbCode R x = 0) : sqB R = true ∧ isVec x = true ∧ x.length = R.length := by
  unfold orbCode at h
  by_cases h1 : (sqB R && isVec x) = true
  · rw [if_pos h1] at h
    by_cases h2 : x.length = R.length
    · rw [Bool.and_eq_true] at h1
      exact ⟨h1.1, h1.2, h2⟩
    · rw [if_neg h2] at h; exact absurd h (by decide)
  · rw [if_neg h1] at h; exact absurd h (by decide)
theorem orbL_len (R : List (List Int)) (x : List Int) (k : Nat) : (orbL R x k).length = k := by simp [orbL]
theorem orbL_next (R : List (List Int)) (x : List Int) (k : Nat) : orbL R x (k + 1) = orbL R x k ++ [orb R x k] := by
  simp [orbL, List.range_succ]
theorem orbL_get {R : List (List Int)} {x : List Int} {k i : Nat} (h : i < k) : (orbL R x k).getD i [] = orb R x i := by
  simp [orbL, h]
theorem orb_len {R : List (List Int)} {x : List Int} (h : x.length = R.length) : ∀ k, (orb R x k).length = R.length
  | 0 => h
  | _ + 1 => apply_len' _ _
theorem orb_all {R : List (List Int)} {x : List Int} {k : Nat} (h : (orbL R x k).all isVec = true) {i : Nat} (hi : i < k) : isVec (orb R x i) = true := by
  rw [List.all_eq_true] at h
  exact h _ (List.mem_map.2 ⟨i, List.mem_range.2 hi, rfl⟩)
theorem orb_all_next {R : List (List Int)} {x : List Int} {k : Nat} (h : (orbL R x k).all isVec = true) (h2 : isVec (orb R x k) = true) : (orbL R x (k + 1)).all isVec = true := by
  rw [orbL_next, List.all_append, h]
  simp [h2]
theorem orb_all_not {R : List (List Int)} {x : List Int} {k m : Nat} (hk : k < m) (h2 : isVec (orb R x k) = false) : (orbL R x m).all isVec = false := by
  cases e : (orbL R x m).all isVec with
  | false => rfl
  | true => rw [orb_all e hk] at h2; exact absurd h2 (by decide)
end M
end Go.Proofs.YtcofjjipjcekjaaGreat

namespace Go.Proofs.YtcofjjipjcekjaaGreat
namespace M
/-- The list shifted such that its greatest element is 0 if it is finite. -/
def nrm (x : List Int) : List Int := shvL x (-(maxL x))
/-- The difference at the first index at which both have a finite element. -/
def gapI : List Int → List Int → Int
  | a :: x, b :: y => if a ≠ -1000000000000000 ∧ b ≠ -1000000000000000 then b - a else gapI x y
  | _, _ => 0
def gapB (x y : List Int) : Bool := decide (shvL x (gapI x y) = y)
theorem gapI_spec : ∀ (x y : List Int), x.length = y.length → (∃ i, i < x.length ∧ x.getD i 0 ≠ -1000000000000000 ∧ y.getD i 0 ≠ -1000000000000000 ∧ gapI x y = y.getD i 0 - x.getD i 0) ∨ ((∀ i, i < x.length → x.getD i 0 = -1000000000000000 ∨ y.getD i 0 = -1000000000000000) ∧ gapI x y = 0)
  | [], [], _ => .inr ⟨fun i hi => absurd hi (Nat.not_lt_zero i), rfl⟩
  | [], b :: y, h => absurd h (by simp)
  | a :: x, [], h => absurd h (by simp)
  | a :: x, b :: y, h => by
    by_cases e : a ≠ -1000000000000000 ∧ b ≠ -1000000000000000
    · exact .inl ⟨0, by simp, e.1, e.2, by simp [gapI, e]⟩
    · have hg : gapI (a :: x) (b :: y) = gapI x y := by rw [gapI, if_neg e]
      rcases gapI_spec x y (by simpa using h) with ⟨i, hi, h1, h2, h3⟩ | ⟨h1, h2⟩
      · exact .inl ⟨i + 1, by simpa using hi, by simpa using h1, by simpa using h2, by rw [hg, h3]; simp⟩
      · refine .inr ⟨fun i hi => ?_, by rw [hg, h2]⟩
        cases i with
        | zero => simp only [List.getD_cons_zero]; omega
        | succ i => simpa using h1 i (by simpa using hi)
theorem maxL_foldl : ∀ (l : List Int) (m : Int), m ≤ l.foldl max m ∧ (∀ i, i < l.length → l.getD i 0 ≤ l.foldl max m) ∧ (l.foldl max m = m ∨ ∃ i, i < l.length ∧ l.getD i 0 = l.foldl max m)
  | [], m => ⟨Int.le_refl _, fun i hi => absurd hi (Nat.not_lt_zero i), .inl rfl⟩
  | a :: l, m => by
    obtain ⟨h1, h2, h3⟩ := maxL_foldl l (max m a)
    refine ⟨by rw [List.foldl_cons]; omega, fun i hi => ?_, ?_⟩
    · rw [List.foldl_cons]
      cases i with
      | zero => simp only [List.getD_cons_zero]; omega
      | succ i => simpa using h2 i (by simpa using hi)
    · rw [List.foldl_cons]
      rcases h3 with h3 | ⟨i, hi, h3⟩
      · rw [h3]
        rcases Int.le_total m a with e | e
        · exact .inr ⟨0, by simp, by rw [List.getD_cons_zero]; omega⟩
        · exact .inl (by omega)
      · exact .inr ⟨i + 1, by simpa using hi, by simpa using h3⟩
theorem maxL_ge {x : List Int} {i : Nat} (hi : i < x.length) : x.getD i 0 ≤ maxL x := (maxL_foldl x _).2.1 i hi
theorem maxL_low (x : List Int) : -1000000000000000 ≤ maxL x := (maxL_foldl x _).1
theorem maxL_mem (x : List Int) : maxL x = -1000000000000000 ∨ ∃ i, i < x.length ∧ x.getD i 0 = maxL x := (maxL_foldl x _).2.2
theorem list_ext0 {x y : List Int} (h : x.length = y.length) (h2 : ∀ i, i < x.length → x.getD i 0 = y.getD i 0) : x = y := by
  refine List.ext_getElem h fun i h1 h3 => ?_
  have := h2 i h1
  simpa [h1, h3] using this
theorem shv_eq {x y : List Int} {g d : Int} (h : x.length = y.length) : shvL x g = shvL y d ↔ ∀ i, i < x.length → times (x.getD i 0) g = times (y.getD i 0) d := by
  constructor
  · intro e i hi
    rw [← shv_get hi, e, shv_get (by omega)]
  · intro e
    exact list_ext0 (by rw [shv_len, shv_len, h]) fun i hi => by
      rw [shv_len] at hi
      rw [shv_get hi, shv_get (by omega)]; exact e i hi
theorem shv_is {x y : List Int} {g : Int} (h : x.length = y.length) : shvL x g = y ↔ ∀ i, i < x.length → times (x.getD i 0) g = y.getD i 0 := by
  constructor
  · intro e i hi
    rw [← shv_get hi, e]
  · intro e
    exact list_ext0 (by rw [shv_len, h]) fun i hi => by
      rw [shv_len] at hi
      rw [shv_get hi]; exact e i hi
def Vals (x : List Int) : Prop := ∀ i, i < x.length → isVal (x.getD i 0) = true
theorem maxL_vals {x : List Int} (h : Vals x) : isVal (maxL x) = true := by
  rcases maxL_mem x with e | ⟨i, hi, e⟩
  · rw [e]; rfl
  · rw [← e]; exact h i hi
/-- A list that is y shifted by g has the same pattern, and a greatest element shifted by g. -/
theorem nrm_of {x y : List Int} {g : Int} (hl : x.length = y.length) (hx : Vals x) (hy : Vals y) (hg : -10000000 ≤ g) (hg2 : g ≤ 10000000) (h : shvL x g = y) : nrm x = nrm y ∧ times (maxL x) g = maxL y := by
  rw [shv_is hl] at h
  have hm : times (maxL x) g = maxL y := by
    have v := isVal_t (maxL_vals hx)
    have v2 := isVal_t (maxL_vals hy)
    rcases maxL_mem x with e | ⟨i, hi, e⟩
    · rcases maxL_mem y with e2 | ⟨j, hj, e2⟩
      · rw [e, e2]; rfl
      · have h3 := h j (by omega)
        have h4 := maxL_ge (x := x) (i := j) (by omega)
        have h5 := isVal_t (hx j (by omega))
        have h6 : x.getD j 0 = -1000000000000000 := by omega
        rw [h6] at h3
        rw [e, ← e2, ← h3]
    · have h3 := h i hi
      rw [e] at h3
      have h4 := maxL_ge (x := y) (i := i) (by omega)
      rw [← h3] at h4
      rcases maxL_mem y with e2 | ⟨j, hj, e2⟩
      · have h5 := maxL_low y
        unfold times at h4 ⊢
        split
        · exact e2.symm
        · rename_i hn
          rw [if_neg hn, e2] at h4
          omega
      · have h5 := h j (by omega)
        have h6 := maxL_ge (x := x) (i := j) (by omega)
        have h7 := isVal_t (hx j (by omega))
        rw [e2] at h5
        unfold times at h5 h4 ⊢
        split at h5 <;> split at h4 <;> split <;> omega
  refine ⟨?_, hm⟩
  unfold nrm
  rw [shv_eq hl]
  intro i hi
  have h3 := h i hi
  have v := isVal_t (maxL_vals hx)
  have v2 := isVal_t (maxL_vals hy)
  have v3 := isVal_t (hx i hi)
  have v4 := isVal_t (hy i (by omega))
  have v5 := maxL_ge hi
  rw [← hm] at v2 ⊢
  rw [← h3] at v4 ⊢
  unfold times at *
  split <;> split <;> split at * <;> omega
theorem gapI_bd {x y : List Int} (hl : x.length = y.length) (hx : Vals x) (hy : Vals y) : -2000000 ≤ gapI x y ∧ gapI x y ≤ 2000000 := by
  rcases gapI_spec x y hl with ⟨i, hi, h1, h2, h3⟩ | ⟨h1, h2⟩
  · have v3 := isVal_t (hx i hi)
    have v4 := isVal_t (hy i (by omega))
    omega
  · omega
theorem nrm_gap {x y : List Int} (hl : x.length = y.length) (hx : Vals x) (hy : Vals y) (h : nrm x = nrm y) : gapI x y = maxL y - maxL x ∧ shvL x (gapI x y) = y := by
  unfold nrm at h
  rw [shv_eq hl] at h
  have v := isVal_t (maxL_vals hx)
  have v2 := isVal_t (maxL_vals hy)
  have hb : ∀ i, i < x.length → (x.getD i 0 = -1000000000000000 ↔ y.getD i 0 = -1000000000000000) := fun i hi => by
    have h3 := h i hi
    have v3 := isVal_t (hx i hi)
    have v4 := isVal_t (hy i (by omega))
    unfold times at h3
    split at h3 <;> split at h3 <;> omega
  have hd : ∀ i, i < x.length → x.getD i 0 ≠ -1000000000000000 → y.getD i 0 - x.getD i 0 = maxL y - maxL x := fun i hi hne => by
    have h3 := h i hi
    have v3 := isVal_t (hx i hi)
    have v4 := isVal_t (hy i (by omega))
    have v5 := maxL_ge hi
    have v6 := maxL_ge (x := y) (i := i) (by omega)
    have := hb i hi
    unfold times at h3
    split at h3 <;> split at h3 <;> omega
  have hG : gapI x y = maxL y - maxL x := by
    rcases gapI_spec x y hl with ⟨i, hi, h1, h2, h3⟩ | ⟨h1, h2⟩
    · rw [h3]; exact hd i hi h1
    · rw [h2]
      rcases maxL_mem x with e | ⟨i, hi, e⟩
      · rcases maxL_mem y with e2 | ⟨j, hj, e2⟩
        · omega
        · have h4 := h1 j (by omega)
          have h5 := hb j (by omega)
          omega
      · have h4 := h1 i hi
        have h5 := hb i hi
        have h6 : x.getD i 0 = -1000000000000000 := by omega
        rcases maxL_mem y with e2 | ⟨j, hj, e2⟩
        · omega
        · have h7 := h1 j (by omega)
          have h8 := hb j (by omega)
          omega
  refine ⟨hG, ?_⟩
  rw [shv_is hl]
  intro i hi
  have h1 := hb i hi
  have h2 := hd i hi
  rw [← hG] at h2
  obtain ⟨b1, b2⟩ := gapI_bd hl hx hy
  unfold times
  split <;> omega
theorem gapB_iff {x y : List Int} (hl : x.length = y.length) (hx : Vals x) (hy : Vals y) : gapB x y = true ↔ nrm x = nrm y := by
  unfold gapB
  rw [decide_eq_true_iff]
  constructor
  · intro h
    obtain ⟨b1, b2⟩ := gapI_bd hl hx hy
    exact (nrm_of hl hx hy (by omega) (by omega) h).1
  · intro h
    exact (nrm_gap hl hx hy h).2
/-- IsRepeat's test, both ways. -/
theorem shv_iff {x y : List Int} {g : Int} (hl : x.length = y.length) (hx : Vals x) (hy : Vals y) (hg : -10000000 ≤ g) (hg2 : g ≤ 10000000) : shvL x g = y ↔ (nrm x = nrm y ∧ times (maxL x) g = maxL y) := by
  constructor
  · exact nrm_of hl hx hy hg hg2
  · rintro ⟨h1, h2⟩
    obtain ⟨h3, h4⟩ := nrm_gap hl hx hy h1
    rw [shv_is hl] at h4 ⊢
    intro i hi
    have h5 := h4 i hi
    have v3 := isVal_t (hx i hi)
    have v5 := maxL_ge hi
    have v := isVal_t (maxL_vals hx)
    have v2 := isVal_t (maxL_vals hy)
    rw [h3] at h5
    unfold times at h5 h2 ⊢
    split at h5 <;> split at h2 <;> split <;> omega
end M
end Go.Proofs.YtcofjjipjcekjaaGreat

namespace Go.Proofs.YtcofjjipjcekjaaGreat.V
set_option maxRecDepth 100000
open Go.RowKit
/-- A number that is so small that no sum of two overflows. -/
def Wid (v : Int) : Prop := -2000000000000000 ≤ v ∧ v ≤ 2000000000000000
theorem wid_val {v : Int} (h : M.isVal v = true) : Wid v := by have := M.isVal_t h; unfold Wid; omega
set_option maxRecDepth 100000 in
set_option maxHeartbeats 400000 in
theorem timesW (a b : Int) (w : World) (ha : Wid a) (hb : Wid b) : Calls Tryz.prog 90 #[.int .i64 a, .int .i64 b] w fun e w' => e = .returned (.int .i64 (M.times a b)) ∧ w = w' := by
  obtain ⟨ba1, ba2⟩ := ha
  obtain ⟨bb1, bb2⟩ := hb
  by_cases h : a = -1000000000000000
  · subst h
    go_enter Tryz.func90, Tryz.ntmps90
    go_wp2
    all_goals go_ret; exact ⟨retI (by simp [M.times]), rfl⟩
  · have h' : (a == -1000000000000000) = false := by simpa using h
    by_cases h2 : b = -1000000000000000
    · subst h2
      go_enter Tryz.func90, Tryz.ntmps90
      go_wp2
      all_goals go_ret; exact ⟨retI (by simp [M.times]), rfl⟩
    · have h2' : (b == -1000000000000000) = false := by simpa using h2
      go_enter Tryz.func90, Tryz.ntmps90
      go_wp2
      all_goals go_ret; exact ⟨retI (by simp [M.times, h, h2]), rfl⟩
set_option maxRecDepth 100000 in
set_option maxHeartbeats 400000 in
theorem sTimesW (a b : Int) (w : World) (ha : Wid a) (hb : Wid b) : Calls Tryz.prog 72 #[.int .i64 a, .int .i64 b] w fun e w' => e = .returned (.int .i64 (M.times a b)) ∧ w = w' := by
  obtain ⟨ba1, ba2⟩ := ha
  obtain ⟨bb1, bb2⟩ := hb
  by_cases h : a = -1000000000000000
  · subst h
    go_enter Tryz.func72, Tryz.ntmps72
    go_wp2
    all_goals go_ret; exact ⟨retI (by simp [M.times]), rfl⟩
  · have h' : (a == -1000000000000000) = false := by simpa using h
    by_cases h2 : b = -1000000000000000
    · subst h2
      go_enter Tryz.func72, Tryz.ntmps72
      go_wp2
      all_goals go_ret; exact ⟨retI (by simp [M.times]), rfl⟩
    · have h2' : (b == -1000000000000000) = false := by simpa using h2
      go_enter Tryz.func72, Tryz.ntmps72
      go_wp2
      all_goals go_ret; exact ⟨retI (by simp [M.times, h, h2]), rfl⟩
/-- The first k elements of a list of n that is being filled. -/
def vPart (n : Nat) (f : Nat → Int) (k : Nat) : List Int := (List.range n).map fun j => if j < k then f j else 0
theorem vPart_zero (n : Nat) (f : Nat → Int) : vPart n f 0 = (List.range n).map fun _ => 0 := by simp [vPart]
theorem vPart_end (n : Nat) (f : Nat → Int) : vPart n f n = (List.range n).map f := List.map_congr_left fun j hj => by simp [List.mem_range.1 hj]
theorem vPart_set (n : Nat) (f : Nat → Int) (k : Nat) : (vPart n f k).set k (f k) = vPart n f (k + 1) := by
  unfold vPart
  rw [M.map_set]
  refine List.map_congr_left fun j _ => ?_
  by_cases e : j = k
  · subst e; rw [if_pos rfl, if_pos (by omega)]
  · rw [if_neg e]
    by_cases e2 : j < k
    · rw [if_pos e2, if_pos (by omega)]
    · rw [if_neg e2, if_neg (by omega)]
theorem shv_map (l : List Int) (g : Int) : M.shvL l g = (List.range l.length).map fun j => M.times (l.getD j 0) g := by
  refine M.list_ext0 (by rw [M.shv_len]; simp) fun i hi => ?_
  rw [M.shv_len] at hi
  rw [M.shv_get hi]
  simp [hi]
set_option maxRecDepth 100000 in
set_option maxHeartbeats 400000 in
theorem clTimesW (a b : Int) (w : World) (ha : Wid a) (hb : Wid b) : Calls Tryz.prog 89 #[.int .i64 a, .int .i64 b] w fun e w' => e = .returned (.int .i64 (M.times a b)) ∧ w = w' := by
  have HA := Lib.hid ha
  have HB := Lib.hid hb
  clear ha hb
  go_enter Tryz.func89, Tryz.ntmps89
  go_wp2_with (first | (go_at_call 90; refine (timesW _ _ _ HA.out HB.out).mono ?_; rintro e w' ⟨rfl, rfl⟩))
  go_ret
  exact ⟨rfl, rfl⟩
theorem fld1s : ∀ w : World, (Instr.field 85 (.agg #[.func (.func 87) #[] #[], .func (.func 89) #[] #[]]) 1).run Tryz.prog w = .ok (.func (.func 89) #[] #[]) w := fun w => by simp [Instr.field, part, asAgg, go_sem]
set_option maxRecDepth 100000 in
set_option maxHeartbeats 4000000 in
theorem shiftedList (a : Option Addr) (n cap : Nat) (l : List Int) (g : Int) (w : World) (h : Ints .i64 w a n l) (hn : n ≤ 1000) (hl : ∀ k, k < n → Wid (l.getD k 0)) (hg : Wid g) :
    Calls Tryz.prog 50 #[.slice a n cap, .int .i64 g] w fun e w' => ∃ b, e = .returned (.slice b n n) ∧ Own w' w.heap.size (.slice b n n) (M.shvL l g) ∧ Below w.heap.size w w' := by
  have HI := Lib.hid h
  have HL := Lib.hid hl
  have HG := Lib.hid hg
  have HE : Hid (M.shvL l g = (List.range n).map fun j => M.times (l.getD j 0) g) := by show _ = _; rw [shv_map, h.1]
  have hmk := run_make_row' (P := Tryz.prog) 26 2 (.int .i64 0) 8 Tryz.underlying26 info64 rfl .i64 .i64 n (by omega) (by omega)
  have hfld := fld1s
  clear h hl hg
  go_enter Tryz.func50, Tryz.ntmps50
  go_wp2_with fail
  refine (maxPlus _).mono ?_
  rintro e w1 ⟨rfl, hb1⟩
  have HB1 := Lib.hid hb1
  have hz1 : w.heap.size ≤ w1.heap.size := hb1.size
  clear hb1
  go_wp2
  clear hmk hfld
  go_loopw [7, 8, 16] (fun _ _ i wr => ∃ k : Nat, k ≤ n ∧ i = .int .i64 k ∧ Own wr w1.heap.size (.slice (some ⟨w1.heap.size, 0, none⟩) n n) (vPart n (fun j => M.times (l.getD j 0) g) k) ∧ Below w1.heap.size w1 wr) (fun _ _ i _ => n - (intOf i).toNat)
  case atStart => exact ⟨0, Nat.zero_le _, rfl, by rw [vPart_zero]; exact own_made w1 _ n (Nat.le_refl _) (by unfold maxLen; omega), b_alloc _ _⟩
  case round =>
    obtain ⟨k, hk, rfl, hO, hb⟩ := hrel
    have HO := Lib.hid hO
    have HB := Lib.hid hb
    clear hO hb
    by_cases hlt : k < n
    · have hki : (k : Int) < (n : Int) := by omega
      obtain ⟨b, off, x, rfl, -, hx, hc⟩ := ((HI.out.below HB1.out).below HB.out).at k hlt
      have hWx := HL.out k hlt
      rw [← hx] at hWx
      have HW := Lib.hid hWx
      obtain ⟨v, hst⟩ : ∃ v, wr.cell? ⟨w1.heap.size, k, none⟩ = some v := ⟨_, HO.out.cellAt k hlt⟩
      have hfz := HO.out.frozenAt k
      have HN : Hid (Own (wr.setCell ⟨w1.heap.size, k, none⟩ (.int .i64 (M.times x g))) w1.heap.size (.slice (some ⟨w1.heap.size, 0, none⟩) n n) (vPart n (fun j => M.times (l.getD j 0) g) (k + 1))) := by
        show Own _ _ _ _
        have := Own.set HO.out k (M.times x g)
        rw [hx, vPart_set n (fun j => M.times (l.getD j 0) g) k, ← hx] at this
        exact this
      clear hx hWx HO
      go_wp2_with (go_at_call 89; refine (clTimesW _ _ _ HW.out HG.out).mono ?_; rintro e w' ⟨rfl, rfl⟩)
      go_roundw
      case rel => exact ⟨k + 1, by omega, by go_num, HN.out, HB.out.setCell (Nat.le_refl _) _⟩
      case measure => simp [intOf]; omega
    · obtain rfl : k = n := by omega
      go_wp2
      go_ret
      exact ⟨_, rfl, by rw [HE.out, ← vPart_end]; exact HO.out.mono hz1, HB1.out.trans (HB.out.mono hz1)⟩
set_option maxRecDepth 100000 in
set_option maxHeartbeats 400000 in
theorem shiftVector (a : Option Addr) (n cap : Nat) (l : List Int) (g : Int) (w : World) (h : Ints .i64 w a n l) :
    Calls Tryz.prog 18 #[.slice a n cap, .int .i64 g] w (VRes (M.shvRes l g) w) := by
  have HI := Lib.hid h
  obtain ⟨v1, hv1⟩ : ∃ v, v = M.isVec l := ⟨_, rfl⟩
  have HV1 := Lib.hid hv1.symm
  cases v1 with
  | false =>
    have HE : Hid (M.shvRes l g = ([], 1)) := by show _ = _; unfold M.shvRes; rw [← hv1]; rfl
    clear h hv1
    go_enter Tryz.func18, Tryz.ntmps18
    go_wp2_with fail
    refine (isVector_b _ _ _ l _ false HV1.out HI.out).mono ?_
    rintro e w' ⟨rfl, rfl⟩
    go_wp2
    go_ret2
    exact VRes.nil HE.out (Below.refl _ _)
  | true =>
    obtain ⟨-, n2⟩ := ints_vec h hv1.symm
    have HW : Hid (∀ k, k < n → Wid (l.getD k 0)) := fun k hk => wid_val ((M.isVec_t hv1.symm).2.2 k (by rw [h.1]; exact hk))
    obtain ⟨v2, hv2⟩ : ∃ v, v = M.isFin g := ⟨_, rfl⟩
    have HC : Hid (∀ w, Calls Tryz.prog 48 #[.int .i64 g] w fun e w' => e = .returned (.bool v2) ∧ w = w') := fun w => by rw [hv2]; exact isFinite g w
    cases v2 with
    | false =>
      have HE : Hid (M.shvRes l g = ([], 2)) := by show _ = _; unfold M.shvRes; rw [← hv1, ← hv2]; rfl
      clear h hv1 hv2
      go_enter Tryz.func18, Tryz.ntmps18
      go_wp2_with fail
      refine (isVector_b _ _ _ l _ true HV1.out HI.out).mono ?_
      rintro e w' ⟨rfl, rfl⟩
      go_wp2_with fail
      refine (HC.out _).mono ?_
      rintro e w' ⟨rfl, rfl⟩
      go_wp2
      go_ret2
      exact VRes.nil HE.out (Below.refl _ _)
    | true =>
      have HG : Hid (Wid g) := by
        have : M.isFin g = true := hv2.symm
        unfold M.isFin at this
        simp at this
        exact ⟨by omega, by omega⟩
      obtain ⟨v3, hv3⟩ : ∃ v, v = M.isVec (M.shvL l g) := ⟨_, rfl⟩
      have HV3 := Lib.hid hv3.symm
      have HE : Hid (M.shvRes l g = if v3 then (M.shvL l g, 0) else ([], 3)) := by show _ = _; unfold M.shvRes; rw [← hv1, ← hv2, hv3]; rfl
      clear h hv1 hv2 hv3
      go_enter Tryz.func18, Tryz.ntmps18
      go_wp2_with fail
      refine (isVector_b _ _ _ l _ true HV1.out HI.out).mono ?_
      rintro e w' ⟨rfl, rfl⟩
      go_wp2_with fail
      refine (HC.out _).mono ?_
      rintro e w' ⟨rfl, rfl⟩
      go_wp2_with fail
      refine (shiftedList _ _ _ l g _ HI.out (by omega) HW.out HG.out).mono ?_
      rintro e w1 ⟨b1, rfl, ho, hb⟩
      have HO := Lib.hid ho
      have HB := Lib.hid hb
      clear ho hb
      cases v3 with
      | false =>
        go_wp2_with fail
        refine (checkedVector_f _ _ _ (M.shvL l g) _ HV3.out HO.out.ints').mono ?_
        rintro e w' ⟨rfl, rfl⟩
        go_wp2
        go_ret2
        exact VRes.nil HE.out HB.out
      | true =>
        go_wp2_with fail
        refine (checkedVector_t _ _ _ (M.shvL l g) _ HV3.out HO.out.ints').mono ?_
        rintro e w' ⟨rfl, rfl⟩
        go_wp2
        go_ret2
        rw [HE.out]
        exact ⟨_, _, _, rfl, HO.out, HB.out⟩
end Go.Proofs.YtcofjjipjcekjaaGreat.V

namespace Go.Proofs.YtcofjjipjcekjaaGreat.V
open Go.RowKit

/-- The three cells of a source: the code, the place, the seed. -/
def srcF (a : Option Addr) (n cap t : Nat) (s : Int) : Nat → Value
  | 0 => .slice a n cap
  | 1 => .int .i64 t
  | _ => .int .i64 s

/-- The code of a source: bytes that lie below block g. -/
def CodeAt (w : World) (g : Nat) (a : Option Addr) (n : Nat) : Prop :=
  n ≤ maxLen ∧ (n = 0 ∨ ∃ b off, a = some ⟨b, off, none⟩ ∧ b < g ∧ ∀ i, i < n → ∃ x : Int, 0 ≤ x ∧ x ≤ 255 ∧ w.cell? ⟨b, off + i, none⟩ = some (.int .u8 x))

/-- Block g is a source. -/
def Src (w : World) (g : Nat) : Prop := ∃ (a : Option Addr) (n cap t : Nat) (s : Int),
  w.rowIs g 75 3 (srcF a n cap t s) ∧ CodeAt w g a n ∧ t ≤ n ∧ 0 ≤ s ∧ s < 2147483647

/-- Only block g may have changed; blocks may have been added. -/
structure Thr (g : Nat) (w w' : World) : Prop where
  below : Below g w w'
  other : ∀ k, g < k → k < w.heap.size → w'.heap[k]? = w.heap[k]?

theorem Thr.refl (g : Nat) (w : World) : Thr g w w := ⟨Below.refl _ _, fun _ _ _ => rfl⟩
theorem Thr.trans {g : Nat} {a b c : World} (h : Thr g a b) (k : Thr g b c) : Thr g a c :=
  ⟨h.below.trans k.below, fun i h1 h2 => (k.other i h1 (Nat.lt_of_lt_of_le h2 h.below.size)).trans (h.other i h1 h2)⟩
theorem Thr.drew {g : Nat} {a b : World} (h : Thr g a b) : Thr g a b.drew := ⟨h.below.drew, h.other⟩
theorem Thr.drewN {g : Nat} {a b : World} (h : Thr g a b) (n : Nat) : Thr g a (b.drewN n) := ⟨below_drewN h.below n, h.other⟩
theorem Thr.setCell {g : Nat} {a b : World} (h : Thr g a b) {i : Nat} (v : Value) : Thr g a (b.setCell ⟨g, i, none⟩ v) :=
  ⟨h.below.setCell (Nat.le_refl _) v, fun k h1 h2 => (Below.heap_setCell _ _ _ _ (by show k ≠ g; omega)).trans (h.other k h1 h2)⟩
theorem Thr.cell {g : Nat} {w w' : World} (h : Thr g w w') {p : Addr} (hp : p.block < w.heap.size) (hne : p.block ≠ g) : w'.cell? p = w.cell? p := by
  by_cases hlt : p.block < g
  · exact h.below.cell hlt
  · exact World.cell?_of_block (w := w) (h.other _ (by omega) hp)

theorem CodeAt.below {w w' : World} {g : Nat} {a : Option Addr} {n : Nat} (h : CodeAt w g a n) (hb : Below g w w') : CodeAt w' g a n := by
  obtain ⟨h1, h2⟩ := h
  refine ⟨h1, ?_⟩
  rcases h2 with h2 | ⟨b, off, rfl, hlt, hc⟩
  · exact .inl h2
  · refine .inr ⟨b, off, rfl, hlt, fun i hi => ?_⟩
    obtain ⟨x, x1, x2, hx⟩ := hc i hi
    exact ⟨x, x1, x2, by rw [hb.cell (p := ⟨b, off + i, none⟩) hlt]; exact hx⟩

theorem Src.below {w w' : World} {g : Nat} (h : Src w g) (hb : Below (g + 1) w w') : Src w' g := by
  obtain ⟨a, n, cap, t, s, h1, h2, h3⟩ := h
  exact ⟨a, n, cap, t, s, h1.of_block (hb.block g (by omega)), h2.below (hb.mono (by omega)), h3⟩
theorem Src.lt {w : World} {g : Nat} (h : Src w g) : g < w.heap.size := by
  obtain ⟨a, n, cap, t, s, h1, h2, h3⟩ := h
  exact h1.lt
theorem Src.drew {w : World} {g : Nat} (h : Src w g) : Src w.drew g := h

/-- What a drawn number is. -/
def NextPost (g : Nat) (n : Int) (w : World) (e : Ending) (w' : World) : Prop :=
  ∃ x : Int, e = .returned (.int .i64 x) ∧ 0 ≤ x ∧ (x < n ∨ x = 0) ∧ Src w' g ∧ Thr g w w'

theorem mod_lt (x n : Int) (hx : 0 ≤ x) (hn : 1 < n) : 0 ≤ x % n ∧ (x % n < n ∨ x % n = 0) :=
  ⟨Int.emod_nonneg _ (by omega), .inl (Int.emod_lt_of_pos _ (by omega))⟩

theorem rowIs_seed {w : World} {g T : Nat} {a : Option Addr} {n cap t : Nat} {s : Int} (h : w.rowIs g T 3 (srcF a n cap t s)) (s' : Int) : (w.setCell ⟨g, 2, none⟩ (.int .i64 s')).rowIs g T 3 (srcF a n cap t s') :=
  (h.set 2 _).congr (fun i hi => by
    match i, hi with
    | 0, _ => rfl
    | 1, _ => rfl
    | 2, _ => rfl)
theorem rowIs_at {w : World} {g T : Nat} {a : Option Addr} {n cap t : Nat} {s : Int} (h : w.rowIs g T 3 (srcF a n cap t s)) (t' : Nat) (v : Int) (hv : v = (t' : Int)) : (w.setCell ⟨g, 1, none⟩ (.int .i64 v)).rowIs g T 3 (srcF a n cap t' s) :=
  (h.set 1 _).congr (fun i hi => by
    subst hv
    match i, hi with
    | 0, _ => rfl
    | 1, _ => rfl
    | 2, _ => rfl)

theorem next_fin {g : Nat} {n : Int} {w w2 : World} {a : Option Addr} {m cap t : Nat} {s x : Int} (hn : 1 < n) (hx : 0 ≤ x) (hrow : w2.rowIs g 75 3 (srcF a m cap t s)) (hc : CodeAt w g a m) (ht : t ≤ m) (s1 : 0 ≤ s) (s2 : s < 2147483647)
    (hthr : Thr g w w2) : NextPost g n w (.returned (.int .i64 (x % n))) w2 :=
  ⟨_, rfl, (mod_lt x n hx hn).1, (mod_lt x n hx hn).2, ⟨a, m, cap, t, s, hrow, hc.below hthr.below, ht, s1, s2⟩, hthr⟩

set_option maxRecDepth 100000 in
set_option maxHeartbeats 1000000 in
theorem next (g : Nat) (n : Int) (w : World) (wn : (Lit.int .i64 n).wf = true) (h : Src w g) :
    Calls Tryz.prog 35 #[.pointer (some ⟨g, 0, none⟩), .int .i64 n] w (NextPost g n w) := by
  by_cases hn : n ≤ 1
  · go_enter Tryz.func35, Tryz.ntmps35
    go_wp2
    go_ret
    exact ⟨0, rfl, by omega, .inr rfl, h, Thr.refl _ _⟩
  · obtain ⟨a, m, cap, t, s, hrow, hcode, ht, s1, s2⟩ := h
    have c0 : w.cell? ⟨g, 0, none⟩ = some (.slice a m cap) := hrow.cell (i := 0) (by omega)
    have c1 : w.cell? ⟨g, 1, none⟩ = some (.int .i64 t) := hrow.cell (i := 1) (by omega)
    have c2 : w.cell? ⟨g, 2, none⟩ = some (.int .i64 s) := hrow.cell (i := 2) (by omega)
    have f0 := hrow.frozen 0
    have f1 := hrow.frozen 1
    have f2 := hrow.frozen 2
    have HCODE := Lib.hid hcode
    obtain ⟨hm, hcode⟩ := hcode
    unfold maxLen at hm
    have HR := Lib.hid hrow
    clear hrow
    have hn' : 1 < n := by omega
    have r1 : 0 ≤ (s * 48271 + 59) % 2147483647 := Int.emod_nonneg _ (by omega)
    have r2 : (s * 48271 + 59) % 2147483647 < 2147483647 := Int.emod_lt_of_pos _ (by omega)
    by_cases htm : t < m
    · rcases hcode with h0 | ⟨b, off, rfl, hbg, hc⟩
      · omega
      obtain ⟨x, x1, x2, hcx⟩ := hc t htm
      clear hc
      have hne : ¬ b = g := by omega
      have hti : (t : Int) < (m : Int) := by omega
      have ht0 : 0 ≤ (t : Int) + 1 := by omega
      have hq : 0 ≤ (s * 48271 + 59) % 2147483647 / 31 := Int.ediv_nonneg r1 (by omega)
      have HC : Hid (CodeAt w g (some ⟨b, off, none⟩) m) := HCODE
      clear HCODE
      by_cases h256 : n ≤ 256
      · by_cases hev : ((t : Int) + 1) % 2 = 0
        · have hev' : (((t : Int) + 1) % 2 == 0) = true := by simpa using hev
          clear hev
          go_enter Tryz.func35, Tryz.ntmps35
          go_wp2
          go_quiet (fail)
          go_wp2
          go_quiet (fail)
          go_wp2
          go_quiet (fail)
          go_wp2
          go_ret
          exact next_fin hn' x1 (rowIs_at (w := (w.setCell ⟨g, 2, none⟩ (.int .i64 ((s * 48271 + 59) % 2147483647))).drewN _) (rowIs_seed HR.out _) (t + 1) _ (by omega)) HC.out (by omega) r1 r2 (((((Thr.refl g w).setCell _).drewN _).setCell _).drewN _)
        · have hev' : (((t : Int) + 1) % 2 == 0) = false := by simpa using hev
          clear hev
          go_enter Tryz.func35, Tryz.ntmps35
          go_wp2
          go_quiet (fail)
          go_wp2
          go_quiet (fail)
          go_wp2
          go_ret
          exact next_fin hn' (by omega) (rowIs_at (w := (w.setCell ⟨g, 2, none⟩ (.int .i64 ((s * 48271 + 59) % 2147483647))).drewN _) (rowIs_seed HR.out _) (t + 1) _ (by omega)) HC.out (by omega) r1 r2 ((((Thr.refl g w).setCell _).drewN _).setCell _)
      · go_enter Tryz.func35, Tryz.ntmps35
        go_wp2
        go_quiet (fail)
        go_wp2
        go_quiet (fail)
        go_wp2
        go_ret
        exact next_fin hn' (by omega) (rowIs_at (w := (w.setCell ⟨g, 2, none⟩ (.int .i64 ((s * 48271 + 59) % 2147483647))).drewN _) (rowIs_seed HR.out _) (t + 1) _ (by omega)) HC.out (by omega) r1 r2 ((((Thr.refl g w).setCell _).drewN _).setCell _)
    · obtain rfl : t = m := by omega
      have hq : 0 ≤ (s * 48271 + 59) % 2147483647 / 31 := Int.ediv_nonneg r1 (by omega)
      have HC : Hid (CodeAt w g a t) := HCODE
      clear HCODE hcode
      go_enter Tryz.func35, Tryz.ntmps35
      go_wp2
      go_quiet (fail)
      go_wp2
      go_ret
      exact next_fin hn' (by omega) (rowIs_seed HR.out _) HC.out (by omega) r1 r2 (((Thr.refl g w).setCell _).drewN _)
end Go.Proofs.YtcofjjipjcekjaaGreat.V

namespace Go.Proofs.YtcofjjipjcekjaaGreat.V
open Go.RowKit

theorem wf_small (n : Int) (a : -1000000000000000000 ≤ n) (b : n ≤ 1000000000000000000) : (Lit.int .i64 n).wf = true := by
  show (decide (IntKind.i64.min ≤ n) && decide (n ≤ IntKind.i64.max)) = true
  rw [Bool.and_eq_true]
  constructor <;> apply decide_eq_true
  · show (-9223372036854775808 : Int) ≤ n
    omega
  · show n ≤ (9223372036854775807 : Int)
    omega

/-- A slice of bytes that came in. -/
def Bytes (w : World) (a : Option Addr) (n : Nat) : Prop := CodeAt w w.heap.size a n

theorem IsRow.bytes {w : World} {a : Option Addr} {len cap : Nat} {zs : List Int} (h : IsRow .u8 w a len cap zs) : Bytes w a len := by
  rcases h with ⟨rfl, rfl, rfl, rfl⟩ | ⟨x, rfl, hl, hm, hz, hcell, hwf⟩
  · exact ⟨Nat.zero_le _, .inl rfl⟩
  · refine ⟨by omega, ?_⟩
    by_cases h0 : len = 0
    · exact .inl h0
    · obtain ⟨b, off, rfl, hc⟩ := ints_at hcell (by omega)
      refine .inr ⟨b, off, rfl, cell_lt (hc 0 (by omega)), fun i hi => ?_⟩
      have hx : zs.getD i 0 ∈ zs := by
        rw [List.getD_eq_getElem?_getD, List.getElem?_eq_getElem (by omega)]
        simp
      have := bounds_u8 (hwf _ hx)
      exact ⟨_, this.1, this.2, hc i (by omega)⟩

theorem Bytes.below {w w' : World} {a : Option Addr} {n : Nat} (h : Bytes w a n) (hb : Below w.heap.size w w') : Bytes w' a n := by
  have h2 := CodeAt.below h hb
  obtain ⟨h1, h3⟩ := h2
  refine ⟨h1, ?_⟩
  rcases h3 with h3 | ⟨b, off, rfl, hlt, hc⟩
  · exact .inl h3
  · exact .inr ⟨b, off, rfl, by have := hb.size; omega, hc⟩

set_option maxRecDepth 100000 in
set_option maxHeartbeats 1000000 in
theorem from_ (a : Option Addr) (n cap : Nat) (w : World) (h : Bytes w a n) :
    Calls Tryz.prog 22 #[.slice a n cap] w fun e w' => e = .returned (.pointer (some ⟨w.heap.size, 0, none⟩)) ∧ Src w' w.heap.size ∧ Below w.heap.size w w' := by
  have HB := Lib.hid h
  obtain ⟨hm, hcode⟩ := h
  unfold maxLen at hm
  go_enter Tryz.func22, Tryz.ntmps22
  go_wp2
  have hst : (w.alloc (.cells #[.slice a n cap, .int .i64 0, .int .i64 61403] 75)).rowIs w.heap.size 75 3 (srcF a n cap 0 61403) :=
    World.rowIs_alloc w _ _ _ (fun i hi => by
      match i, hi with
      | 0, _ => rfl
      | 1, _ => rfl
      | 2, _ => rfl)
  have HST := Lib.hid hst
  clear hst
  go_loopw [4] (fun i wr => ∃ k : Nat, ∃ s : Int, k ≤ n ∧ i = .int .i64 k ∧ 0 ≤ s ∧ s < 2147483647 ∧ wr.rowIs w.heap.size 75 3 (srcF a n cap 0 s) ∧ Below w.heap.size w wr) (fun i _ => n - (intOf i).toNat)
  case atStart => exact ⟨0, 61403, Nat.zero_le _, rfl, by omega, by omega, HST.out, b_alloc _ _⟩
  case round =>
    obtain ⟨k, s, hk, rfl, s1, s2, hrow, hb⟩ := hrel
    clear HST
    by_cases hlt : k < n ∧ k < 64
    · obtain ⟨hlt, h64⟩ := hlt
      rcases hcode with h0 | ⟨b, off, rfl, hbl, hc⟩
      · omega
      obtain ⟨x, x1, x2, hx⟩ := hc k hlt
      have hx' : wr.cell? ⟨b, off + k, none⟩ = some (.int .u8 x) := by rw [hb.cell (p := ⟨b, off + k, none⟩) hbl]; exact hx
      have c2 : wr.cell? ⟨w.heap.size, 2, none⟩ = some (.int .i64 s) := hrow.cell (i := 2) (by omega)
      have f2 := hrow.frozen 2
      have HR := Lib.hid hrow
      have HBW := Lib.hid hb
      clear hc hx hrow hb
      have r1 : 0 ≤ (s * 67 + x) % 2147483647 := Int.emod_nonneg _ (by omega)
      have r2 : (s * 67 + x) % 2147483647 < 2147483647 := Int.emod_lt_of_pos _ (by omega)
      have hki : (k : Int) < (n : Int) := by omega
      have hkj : (k : Int) < 64 := by omega
      go_wp2
      go_region
      go_wp2
      go_roundw
      case rel => exact ⟨k + 1, (s * 67 + x) % 2147483647, by omega, by go_num, r1, r2, rowIs_seed HR.out _, (HBW.out.setCell (Nat.le_refl _) _).drew⟩
      case measure => simp [intOf]; omega
    · have HR := Lib.hid hrow
      have HBW := Lib.hid hb
      clear hrow hb hcode
      by_cases hlt2 : k < n
      · have h64 : ¬ ((k : Int) < 64) := by omega
        have h64' : decide ((k : Int) < 64) = false := by simpa using h64
        clear hlt h64
        go_wp2
        go_ret
        exact ⟨rfl, ⟨a, n, cap, 0, s, HR.out, (CodeAt.below HB.out HBW.out), Nat.zero_le _, s1, s2⟩, HBW.out⟩
      · have hkn : k = n := by omega
        subst hkn
        clear hlt hlt2
        go_wp2
        go_ret
        exact ⟨rfl, ⟨a, k, cap, 0, s, HR.out, (CodeAt.below HB.out HBW.out), Nat.zero_le _, s1, s2⟩, HBW.out⟩

/-- What a picked number is: one of the list. -/
def PickPost (g : Nat) (w : World) (e : Ending) (w' : World) : Prop :=
  ∃ x : Int, e = .returned (.int .i64 x) ∧ (Lit.int .i64 x).wf = true ∧ Src w' g ∧ Thr g w w'

set_option maxRecDepth 100000 in
set_option maxHeartbeats 1000000 in
theorem pick (g b off n cap : Nat) (w : World) (h : Src w g) (hn : 0 < n) (hm : n ≤ 100) (hbg : g < b) (hc : ∀ i, i < n → ∃ x : Int, (Lit.int .i64 x).wf = true ∧ w.cell? ⟨b, off + i, none⟩ = some (.int .i64 x)) :
    Calls Tryz.prog 36 #[.pointer (some ⟨g, 0, none⟩), .slice (some ⟨b, off, none⟩) n cap] w (PickPost g w) := by
  have hbl : b < w.heap.size := by obtain ⟨x, _, hx⟩ := hc 0 hn; exact cell_lt hx
  have hwf : (Lit.int .i64 (n : Int)).wf = true := wf_small _ (by omega) (by omega)
  go_enter Tryz.func36, Tryz.ntmps36
  go_wp2_with fail
  refine (next _ _ _ hwf h).mono ?_
  rintro e w1 ⟨x, rfl, hx1, hx2, hs, ht⟩
  obtain ⟨k, rfl⟩ := Int.eq_ofNat_of_zero_le hx1
  have hk : k < n := by omega
  obtain ⟨y, hy, hcy⟩ := hc k hk
  have hcy' : w1.cell? ⟨b, off + k, none⟩ = some (.int .i64 y) := by rw [ht.cell (p := ⟨b, off + k, none⟩) hbl (by show b ≠ g; omega)]; exact hcy
  have hki : (k : Int) < (n : Int) := by omega
  have HT := Lib.hid ht
  have HS := Lib.hid hs
  clear hc hcy ht hs hx2
  go_wp2
  go_ret
  exact ⟨y, rfl, hy, HS.out, HT.out⟩

theorem litCells (w : World) (l : List Int) (vs : Array Value) (T : Nat) (hv : vs = (l.map (Value.int .i64)).toArray) (hw : l.all (fun x => (Lit.int .i64 x).wf) = true) :
    ∀ i, i < l.length → ∃ x : Int, (Lit.int .i64 x).wf = true ∧ (w.alloc (.cells vs T)).cell? ⟨w.heap.size, 0 + i, none⟩ = some (.int .i64 x) := by
  intro i hi
  refine ⟨l[i], ?_, ?_⟩
  · exact List.all_eq_true.1 hw _ (List.getElem_mem hi)
  · subst hv
    have e : (w.alloc (.cells (l.map (Value.int .i64)).toArray T)).heap[w.heap.size]? = some (.cells (l.map (Value.int .i64)).toArray T (0, 0)) := by
      show (w.heap.push _)[w.heap.size]? = _
      simp
    simp only [World.cell?, e]
    simp [hi]
theorem Thr.alloc {g : Nat} {a b : World} (h : Thr g a b) (hg : g ≤ b.heap.size) (o : Obj) : Thr g a (b.alloc o) :=
  ⟨h.below.alloc hg o, fun k h1 h2 => (Below.heap_alloc _ _ _ (by have := h.below.size; omega)).trans (h.other k h1 h2)⟩
theorem Src.alloc {w : World} {g : Nat} (h : Src w g) (o : Obj) : Src (w.alloc o) g := h.below ((Below.refl _ _).alloc (by have := h.lt; omega) _)

/-- What a drawn value is: an integer. -/
def ValPost (g : Nat) (w : World) (e : Ending) (w' : World) : Prop :=
  ∃ x : Int, e = .returned (.int .i64 x) ∧ (Lit.int .i64 x).wf = true ∧ Src w' g ∧ Thr g w w'

set_option maxRecDepth 100000 in
set_option maxHeartbeats 1000000 in
theorem drawValue (g : Nat) (w : World) (h : Src w g) :
    Calls Tryz.prog 98 #[.pointer (some ⟨g, 0, none⟩)] w (ValPost g w) := by
  go_enter Tryz.func98, Tryz.ntmps98
  go_wp2_with fail
  refine (next _ _ _ (by decide) h).mono ?_
  rintro e w1 ⟨x, rfl, hx1, hx2, hs, ht⟩
  have HT := Lib.hid ht
  have HS := Lib.hid hs
  clear ht hs hx2
  by_cases h0 : x = 0 ∨ x = 1 ∨ x = 2
  · rcases h0 with rfl | rfl | rfl
    all_goals
      go_wp2
      go_ret
      exact ⟨_, rfl, by decide, HS.out, HT.out⟩
  · have e0 : (x == 0) = false := by simp; omega
    have e1 : (x == 1) = false := by simp; omega
    have e2 : (x == 2) = false := by simp; omega
    clear h0
    by_cases h3 : x = 3
    · subst h3
      go_wp2_with fail
      refine (pick g _ 0 7 7 _ (HS.out.alloc _) (by omega) (by omega) HS.out.lt (litCells _ [1000000, 1000001, -1000000, -1000001, -999999999999999, -1000000000000001, 9223372036854775807] _ _ rfl (by decide))).mono ?_
      rintro e w2 ⟨y, rfl, hy, hs2, ht2⟩
      have HT2 := Lib.hid ((HT.out.alloc (Nat.le_of_lt HS.out.lt) _).trans ht2)
      have HS2 := Lib.hid hs2
      clear ht2 hs2
      go_wp2
      go_ret
      exact ⟨_, rfl, hy, HS2.out, HT2.out⟩
    · have e3 : (x == 3) = false := by simp; omega
      clear h3
      by_cases h4 : x = 4
      · subst h4
        go_wp2_with fail
        refine (next _ _ _ (by decide) HS.out).mono ?_
        rintro e w2 ⟨y, rfl, hy1, hy2, hs2, ht2⟩
        have hy3 : y < 2000 := by omega
        have HT2 := Lib.hid (HT.out.trans ht2)
        have HS2 := Lib.hid hs2
        clear ht2 hs2 hy2
        go_wp2
        go_ret
        exact ⟨_, rfl, wf_small _ (by omega) (by omega), HS2.out, HT2.out⟩
      · have e4 : (x == 4) = false := by simp; omega
        clear h4
        go_wp2_with fail
        refine (next _ _ _ (by decide) HS.out).mono ?_
        rintro e w2 ⟨y, rfl, hy1, hy2, hs2, ht2⟩
        have hy3 : y < 41 := by omega
        have HT2 := Lib.hid (HT.out.trans ht2)
        have HS2 := Lib.hid hs2
        clear ht2 hs2 hy2
        go_wp2
        go_ret
        exact ⟨_, rfl, wf_small _ (by omega) (by omega), HS2.out, HT2.out⟩
end Go.Proofs.YtcofjjipjcekjaaGreat.V
