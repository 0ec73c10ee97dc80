/- Texts laid together: Pot3, Img2, Like, Rat4, Rbt, Hv3, Scp. -/
import Derived.Test.YtcofjjipjcekjaaQa15
import Derived.Test.YtcofjjipjcekjaaQa14
import Derived.Test.YtcofjjipjcekjaaRows
import Derived.Test.YtcofjjipjcekjaaQa1
import Derived.Test.YtcofjjipjcekjaaQa2
import Derived.WalkKit
import Derived.ProofKit
import Derived.WalkSmall
import Derived.Deep.QuietTactic
import Derived.BigQuiet
import Derived.BigRegion
import Derived.Deep.Draws
import Derived.Lib.Hide
import Derived.OpenShut
import Derived.Deep.OwnRows
import Derived.Test.YtcofjjipjcekjaaQa5
import Derived.Test.YtcofjjipjcekjaaQa11
import Derived.Test.YtcofjjipjcekjaaQa13
import Derived.Test.YtcofjjipjcekjaaQa10
import Derived.Maps.AppendAt
import Derived.Test.YtcofjjipjcekjaaQa12
set_option linter.unusedSimpArgs false
set_option linter.unusedVariables false
set_option linter.unusedSectionVars false
namespace Go.Proofs.Ytcofjjipjcekjaa
namespace M
theorem apply_at (R : List (List Int)) (l : List Int) {i : Nat} (hi : i < R.length) : (applyM R l).getD i 0 = dotV R l i l.length := by
  unfold applyM
  rw [List.getD_eq_getElem?_getD, List.getElem?_map, List.getElem?_range hi]; rfl
theorem isPotB_of {R : List (List Int)} {a b : Int} {x : List Int} (hs : sqB R = true) (hr : isRat a b = true) (hl : x.length = R.length) (hf : x.all isFin = true) :
    isPotB R a b x = (List.range R.length).all fun i => decide ((applyM (mk R.length R.length (shf (ent R) a b)) x).getD i 0 ≤ x.getD i 0) := by
  unfold isPotB holdsB
  rw [hs, hr, hf, decide_eq_true hl]
  have e : ∀ i, i < R.length → (applyM (mk R.length R.length (shf (ent R) a b)) x).getD i 0 = sumN R.length fun j => times (shf (ent R) a b i j) (x.getD j 0) := fun i hi => by
    rw [apply_at _ _ (by rw [mk_length]; exact hi), hl]
    unfold dotV
    exact sumN_congr fun j hj => by rw [ent_mk _ _ _ _ _ hi hj]
  simp only [Bool.true_and]
  rw [Bool.eq_iff_iff, List.all_eq_true, List.all_eq_true]
  constructor
  · intro h i hi; rw [e i (List.mem_range.1 hi)]; exact h i hi
  · intro h i hi; rw [← e i (List.mem_range.1 hi)]; exact h i hi
theorem isPotB_no {R : List (List Int)} {a b : Int} {x : List Int} (h : ¬ (x.length = R.length ∧ x.all isFin = true)) : isPotB R a b x = false := by
  unfold isPotB holdsB
  by_cases h1 : x.length = R.length
  · have h2 : x.all isFin = false := by
      cases e : x.all isFin with
      | false => rfl
      | true => exact absurd ⟨h1, e⟩ h
    rw [h2]; simp
  · rw [decide_eq_false h1]; simp
end M
namespace V
open Go.RowKit
set_option maxRecDepth 100000 in
set_option maxHeartbeats 400000 in
theorem indexI (a : Option Addr) (n cap : Nat) (l : List Int) (x : Int) (w : World) (h : Ints .i64 w a n l) :
    Calls Try.prog 153 #[.slice a n cap, .int .i64 x] w fun e w' => ∃ k : Int, e = .returned (.int .i64 k) ∧ (0 ≤ k ↔ x ∈ l) ∧ w = w' := by
  obtain ⟨hl, hm, hr⟩ := h
  unfold maxLen at hm
  have HL := Lib.hid hl
  clear hl
  go_enter Try.func153, Try.ntmps153
  go_wp2
  go_loop [5, 8] (fun _ i => ∃ k : Nat, k ≤ n ∧ i = .int .i64 k ∧ Hid (∀ i, i < k → l.getD i 0 ≠ x)) (fun _ i => n - (intOf i).toNat)
  case atStart => exact ⟨0, Nat.zero_le _, rfl, fun i hi => absurd hi (Nat.not_lt_zero i)⟩
  case round =>
    obtain ⟨k, hk, rfl, HK⟩ := hrel
    by_cases hlt : k < n
    · have hki : (k : Int) < (n : Int) := by omega
      rcases hr with h0 | ⟨b, off, rfl, hbl, hc⟩
      · omega
      · have hck := hc k hlt
        obtain ⟨y, hy⟩ : ∃ y, y = l.getD k 0 := ⟨_, rfl⟩
        rw [← hy] at hck
        have HY := Lib.hid hy
        clear hc hy
        by_cases hxy : x = y
        · have HM : Hid (x ∈ l) := by
            show _ ∈ _
            rw [hxy, HY.out]
            have hkl : k < l.length := by have := HL.out; omega
            rw [List.getD_eq_getElem?_getD, List.getElem?_eq_getElem hkl]
            exact List.getElem_mem hkl
          subst hxy
          go_wp2
          go_ret
          exact ⟨_, rfl, ⟨fun _ => HM.out, fun _ => by omega⟩, rfl⟩
        · have hxy2 : (x == y) = false := by simpa using hxy
          have HK2 : Hid (∀ i, i < k + 1 → l.getD i 0 ≠ x) := fun i hi => by
            by_cases e : i = k
            · subst e; rw [← HY.out]; exact fun e => hxy e.symm
            · exact HK.out i (by omega)
          go_wp2
          go_round
          case rel => exact ⟨k + 1, by omega, by go_num, HK2⟩
          case measure => simp [intOf]; omega
    · obtain rfl : k = n := by omega
      have HN : Hid (¬ x ∈ l) := fun hm => by
        obtain ⟨i, hi, rfl⟩ := List.mem_iff_getElem.1 hm
        have := HK.out i (by have := HL.out; omega)
        rw [List.getD_eq_getElem?_getD, List.getElem?_eq_getElem hi] at this
        exact this rfl
      clear hr
      go_wp2
      go_ret
      exact ⟨_, rfl, ⟨fun h => by omega, fun h => absurd h HN.out⟩, rfl⟩
set_option maxRecDepth 100000 in
set_option maxHeartbeats 400000 in
theorem containsI (a : Option Addr) (n cap : Nat) (l : List Int) (x : Int) (b : Bool) (w : World) (h : Ints .i64 w a n l) (hb : b = true ↔ x ∈ l) :
    Calls Try.prog 134 #[.slice a n cap, .int .i64 x] w fun e w' => e = .returned (.bool b) ∧ w = w' := by
  have HI := Lib.hid h
  have HB := Lib.hid hb
  clear h hb
  go_enter Try.func134, Try.ntmps134
  go_wp2_with fail
  refine (indexI _ _ _ l _ _ HI.out).mono ?_
  rintro e w' ⟨k, rfl, hk, rfl⟩
  have HK : Hid (decide (0 ≤ k) = b) := by
    show _ = _
    rw [Bool.eq_iff_iff, decide_eq_true_eq, hk, HB.out]
  clear hk
  go_wp2
  go_ret
  exact ⟨retB HK.out, rfl⟩
theorem vec_fin {l : List Int} (hv : M.isVec l = true) {b : Bool} (hb : l.all M.isFin = b) : (!b) = true ↔ (-1000000000000000 : Int) ∈ l := by
  subst hb
  rw [Bool.not_eq_true', ← Bool.not_eq_true, List.all_eq_true]
  constructor
  · intro h
    apply Classical.byContradiction
    intro hn
    apply h
    intro x hx
    obtain ⟨i, hi, rfl⟩ := List.mem_iff_getElem.1 hx
    have := M.isVal_t ((M.isVec_t hv).2.2 i hi)
    simp only [List.getD_eq_getElem?_getD, List.getElem?_eq_getElem hi, Option.getD_some] at this
    rcases this with e | e
    · rw [e] at hx; exact absurd hx hn
    · simp [M.isFin]; omega
  · intro h k
    have := k _ h
    exact absurd this (by decide)
end V
end Go.Proofs.Ytcofjjipjcekjaa

namespace Go.Proofs.Ytcofjjipjcekjaa
namespace M
def okArc (P : Nat → Nat → Int) (x : List Int) (i k : Nat) : Prop := P i k = -1000000000000000 ∨ P i k + x.getD k 0 ≤ x.getD i 0
theorem holdsB_of {R : List (List Int)} {a b : Int} {x : List Int} (hl : x.length = R.length) (hf : x.all isFin = true) :
    holdsB R a b x = true ↔ ∀ i, i < R.length → ∀ k, k < R.length → okArc (shf (ent R) a b) x i k := by
  unfold holdsB
  rw [hf, decide_eq_true hl]
  simp only [Bool.true_and, Bool.and_true, List.all_eq_true, List.mem_range, decide_eq_true_eq]
  have hfin : ∀ k, k < R.length → -1000000 ≤ x.getD k 0 ∧ x.getD k 0 ≤ 1000000 := fun k hk => by
    have hk' : k < x.length := by omega
    have := List.all_eq_true.1 hf x[k] (List.getElem_mem hk')
    rw [List.getD_eq_getElem?_getD, List.getElem?_eq_getElem hk']
    exact isFin_t this
  have ht : ∀ i k, k < R.length → times (shf (ent R) a b i k) (x.getD k 0) = if shf (ent R) a b i k = -1000000000000000 then -1000000000000000 else shf (ent R) a b i k + x.getD k 0 := fun i k hk => by
    have := hfin k hk
    unfold times
    by_cases e : shf (ent R) a b i k = -1000000000000000
    · rw [if_pos (.inl e), if_pos e]
    · rw [if_neg (by rintro (h | h) <;> omega), if_neg e]
  constructor
  · intro h i hi k hk
    have h1 := sum_ge (f := fun j => times (shf (ent R) a b i j) (x.getD j 0)) hk
    have h2 := h i hi
    have h1 : times (shf (ent R) a b i k) (x.getD k 0) ≤ _ := h1
    rw [ht i k hk] at h1
    by_cases e : shf (ent R) a b i k = -1000000000000000
    · exact .inl e
    · rw [if_neg e] at h1; exact .inr (Int.le_trans h1 h2)
  · intro h i hi
    have := hfin i hi
    refine sum_le (by omega) fun k hk => ?_
    show times (shf (ent R) a b i k) (x.getD k 0) ≤ _
    rw [ht i k hk]
    rcases h i hi k hk with e | e
    · rw [if_pos e]; omega
    · by_cases e2 : shf (ent R) a b i k = -1000000000000000
      · rw [if_pos e2]; omega
      · rw [if_neg e2]; exact e
end M
namespace V
open Go.RowKit
end V
end Go.Proofs.Ytcofjjipjcekjaa

namespace Go.Proofs.Ytcofjjipjcekjaa
namespace V
open Go.RowKit
theorem M.ext_at {l l' : List Int} {n : Nat} (h1 : l.length = n) (h2 : l'.length = n) (h : ∀ i, i < n → l.getD i 0 = l'.getD i 0) : l = l' := by
  apply List.ext_getElem (by omega)
  intro k k1 k2
  have := h k (by omega)
  simpa [k1, k2] using this
set_option maxRecDepth 100000 in
set_option maxHeartbeats 400000 in
theorem slicesEqual (a : Option Addr) (n cap : Nat) (y : List Int) (a' : Option Addr) (cap' : Nat) (x : List Int) (w : World) (h : Ints .i64 w a n y) (h' : Ints .i64 w a' n x) (hn : n ≤ 1000) :
    Calls Try.prog 78 #[.slice a n cap, .slice a' n cap'] w fun e w' => e = .returned (.bool (decide (y = x))) ∧ ∃ q, w' = w.drewN q := by
  have HY := Lib.hid h
  have HXx := Lib.hid h'
  have HL := Lib.hid h.1
  have HL' := Lib.hid h'.1
  clear h h'
  go_enter Try.func78, Try.ntmps78
  go_wp2
  go_loopw [5, 13] (fun _ i wr => ∃ k : Nat, k ≤ n ∧ i = .int .i64 k ∧ Hid (∀ i, i < k → y.getD i 0 = x.getD i 0) ∧ ∃ q, wr = w.drewN q) (fun _ i _ => n - (intOf i).toNat)
  case atStart => exact ⟨0, Nat.zero_le _, rfl, fun i hi => absurd hi (Nat.not_lt_zero i), 0, rfl⟩
  case round =>
    obtain ⟨k, hk, rfl, HK, q, rfl⟩ := hrel
    by_cases hlt : k < n
    · have hki : (k : Int) < (n : Int) := by omega
      obtain ⟨d1, d2, u, rfl, -, hu, cu⟩ := HY.out.at k hlt
      obtain ⟨d3, d4, v, rfl, -, hv, cv⟩ := HXx.out.at k hlt
      have HU := Lib.hid hu
      have HV := Lib.hid hv
      clear hu hv
      by_cases hgt : u = v
      · have HK2 : Hid (∀ i, i < k + 1 → y.getD i 0 = x.getD i 0) := fun i hi => by
          by_cases e : i = k
          · subst e; rw [← HU.out, ← HV.out]; exact hgt
          · exact HK.out i (by omega)
        have hb : (u != v) = false := by simp [hgt]
        clear hgt
        go_wp2
        go_quiet (fail)
        go_wp2
        go_roundw
        case rel => exact ⟨k + 1, by omega, by go_num, HK2, _, rfl⟩
        case measure => simp [intOf]; omega
      · have HF : Hid (decide (y = x) = false) := decide_eq_false fun e => hgt (by rw [HU.out, HV.out, e])
        have hb : (u != v) = true := by simpa using hgt
        go_wp2
        go_quiet (fail)
        go_wp2
        go_ret
        exact ⟨retB HF.out.symm, _, World.drewN_drewN _ _ _⟩
    · obtain rfl : k = n := by omega
      have HF : Hid (decide (y = x) = true) := decide_eq_true (M.ext_at HL.out HL'.out HK.out)
      go_wp2
      go_ret
      exact ⟨retB HF.out.symm, _, rfl⟩
set_option maxRecDepth 100000 in
set_option maxHeartbeats 1000000 in
theorem isEigenVector (a : Option Addr) (n cap : Nat) (R : List (List Int)) (num den : Int) (a' : Option Addr) (N cap' : Nat) (l : List Int) (w0 : World) (h : Mat w0 a n R) (h' : Ints .i64 w0 a' N l) :
    Calls Try.prog 39 #[.slice a n cap, .agg #[.int .i64 num, .int .i64 den], .slice a' N cap'] w0 fun e w' => e = .returned (.bool (M.eigB R num den l)) ∧ Below w0.heap.size w0 w' := by
  obtain ⟨w, hwd⟩ : ∃ w, w = w0.alloc (rbox num den) := ⟨_, rfl⟩
  have HX : Hid (Boxed w0 w num den) := by show Boxed _ _ _ _; rw [hwd]; exact boxed _ _ _
  have HA : Hid (Mat w a n R) := h.below HX.out.below
  have HI : Hid (Ints .i64 w a' N l) := h'.below HX.out.below
  have HL := Lib.hid h'.1
  have HRn := Lib.hid h.1
  have HZ := Lib.hid HX.out.size
  obtain ⟨c0, c1⟩ := HX.out.cells (Below.refl _ _)
  obtain ⟨b, hb⟩ : ∃ b, b = M.imgB R num den l := ⟨_, rfl⟩
  have HB := Lib.hid hb.symm
  cases b with
  | false =>
    have HE : Hid (M.eigB R num den l = false) := by show _ = _; unfold M.eigB; rw [← hb]; rfl
    clear h h' hb
    go_enter Try.func39, Try.ntmps39
    go_wp2_with fail
    simp only [← hwd] at *
    clear hwd
    refine (shiftedImage _ _ _ R _ _ _ _ _ l _ HA.out HI.out).mono ?_
    rintro e w1 ⟨b1, m, c, rfl, ho, hb⟩
    rw [HB.out]
    have HB1 := Lib.hid (HX.out.trans hb)
    clear ho hb
    go_wp2
    go_ret
    exact ⟨retB HE.out.symm, HB1.out⟩
  | true =>
    obtain ⟨y, hy⟩ : ∃ y, y = M.imgL R num den l := ⟨_, rfl⟩
    have HE : Hid (M.eigB R num den l = decide (y = l)) := by show _ = _; unfold M.eigB; rw [← hb, hy]; rfl
    have HY : Hid (M.imgR R num den l = y) := by show _ = _; rw [M.imgR_t hb.symm, hy]
    have hyl : y.length = N := by rw [hy, M.imgL_len, h.1, ← (M.cmpOk_t (by rw [M.imgB_cmp, eq_comm, Bool.and_eq_true] at hb; exact hb.1)).2.2.2.trans h.1, h'.1]
    have hN10 : N ≤ 1000 := by
      have := M.cmpOk_t (R := R) (a := num) (b := den) (x := l) (by rw [M.imgB_cmp, eq_comm, Bool.and_eq_true] at hb; exact hb.1)
      have h2 := (M.isVec_t this.2.2.1).2.1
      rw [h'.1] at h2; omega
    have HYl := Lib.hid hyl
    clear h h' hb hy hyl
    go_enter Try.func39, Try.ntmps39
    go_wp2_with fail
    simp only [← hwd] at *
    clear hwd
    refine (shiftedImage _ _ _ R _ _ _ _ _ l _ HA.out HI.out).mono ?_
    rintro e w1 ⟨b1, m, c, rfl, ho, hb⟩
    rw [HB.out]
    rw [HY.out] at ho
    obtain rfl : m = N := by rw [ho.len, HYl.out]
    have HO := Lib.hid ho.ints'
    have HB1 := Lib.hid (HX.out.trans hb)
    have HI1 := Lib.hid (HI.out.below hb)
    clear ho hb
    go_wp2_with fail
    refine (slicesEqual _ _ _ y _ _ l _ HO.out HI1.out hN10).mono ?_
    rintro e w' ⟨rfl, q, rfl⟩
    go_wp2
    go_ret
    exact ⟨retB HE.out.symm, below_drewN HB1.out _⟩
set_option maxRecDepth 100000 in
set_option maxHeartbeats 1000000 in
theorem isSubEigen (a : Option Addr) (n cap : Nat) (R : List (List Int)) (num den : Int) (a' : Option Addr) (N cap' : Nat) (l : List Int) (w0 : World) (h : Mat w0 a n R) (h' : Ints .i64 w0 a' N l) :
    Calls Try.prog 42 #[.slice a n cap, .agg #[.int .i64 num, .int .i64 den], .slice a' N cap'] w0 fun e w' => e = .returned (.bool (M.subB R num den l)) ∧ Below w0.heap.size w0 w' := by
  obtain ⟨w, hwd⟩ : ∃ w, w = w0.alloc (rbox num den) := ⟨_, rfl⟩
  have HX : Hid (Boxed w0 w num den) := by show Boxed _ _ _ _; rw [hwd]; exact boxed _ _ _
  have HA : Hid (Mat w a n R) := h.below HX.out.below
  have HI : Hid (Ints .i64 w a' N l) := h'.below HX.out.below
  have HL := Lib.hid h'.1
  have HRn := Lib.hid h.1
  have HZ := Lib.hid HX.out.size
  obtain ⟨c0, c1⟩ := HX.out.cells (Below.refl _ _)
  obtain ⟨b, hb⟩ : ∃ b, b = M.imgB R num den l := ⟨_, rfl⟩
  have HB := Lib.hid hb.symm
  cases b with
  | false =>
    have HE : Hid (M.subB R num den l = false) := by show _ = _; unfold M.subB; rw [← hb]; rfl
    clear h h' hb
    go_enter Try.func42, Try.ntmps42
    go_wp2_with fail
    simp only [← hwd] at *
    clear hwd
    refine (shiftedImage _ _ _ R _ _ _ _ _ l _ HA.out HI.out).mono ?_
    rintro e w1 ⟨b1, m, c, rfl, ho, hb⟩
    rw [HB.out]
    have HB1 := Lib.hid (HX.out.trans hb)
    clear ho hb
    go_wp2
    go_ret
    exact ⟨retB HE.out.symm, HB1.out⟩
  | true =>
    obtain ⟨y, hy⟩ : ∃ y, y = M.imgL R num den l := ⟨_, rfl⟩
    have HE : Hid (M.subB R num den l = M.atMostB y l) := by show _ = _; unfold M.subB; rw [← hb, hy]; rfl
    have HY : Hid (M.imgR R num den l = y) := by show _ = _; rw [M.imgR_t hb.symm, hy]
    have hyl : y.length = N := by rw [hy, M.imgL_len, h.1, ← (M.cmpOk_t (by rw [M.imgB_cmp, eq_comm, Bool.and_eq_true] at hb; exact hb.1)).2.2.2.trans h.1, h'.1]
    have hN10 : N ≤ 1000 := by
      have := M.cmpOk_t (R := R) (a := num) (b := den) (x := l) (by rw [M.imgB_cmp, eq_comm, Bool.and_eq_true] at hb; exact hb.1)
      have h2 := (M.isVec_t this.2.2.1).2.1
      rw [h'.1] at h2; omega
    have HYl := Lib.hid hyl
    clear h h' hb hy hyl
    go_enter Try.func42, Try.ntmps42
    go_wp2_with fail
    simp only [← hwd] at *
    clear hwd
    refine (shiftedImage _ _ _ R _ _ _ _ _ l _ HA.out HI.out).mono ?_
    rintro e w1 ⟨b1, m, c, rfl, ho, hb⟩
    rw [HB.out]
    rw [HY.out] at ho
    obtain rfl : m = N := by rw [ho.len, HYl.out]
    have HO := Lib.hid ho.ints'
    have HB1 := Lib.hid (HX.out.trans hb)
    have HI1 := Lib.hid (HI.out.below hb)
    clear ho hb
    go_wp2_with fail
    refine (isAtMost _ _ _ y _ _ l _ HO.out HI1.out hN10).mono ?_
    rintro e w' ⟨rfl, rfl⟩
    go_wp2
    go_ret
    exact ⟨retB HE.out.symm, HB1.out⟩
end V
end Go.Proofs.Ytcofjjipjcekjaa

namespace Go.Proofs.Ytcofjjipjcekjaa.V
open Go.RowKit

set_option maxRecDepth 100000 in
set_option maxHeartbeats 400000 in
theorem likeInts (a : Option Addr) (n cap : Nat) (l : List Int) (a' : Option Addr) (n' cap' : Nat) (l' : List Int) (w : World) (h : Ints .i64 w a n l) (h' : Ints .i64 w a' n' l') (heq : l = l') :
    Calls Try.prog 64 #[.slice a n cap, .slice a' n' cap'] w fun e w' => e = .returned (.bool true) ∧ ∃ q, w' = w.drewN q := by
  subst heq
  obtain ⟨hl, hm, hr⟩ := h
  obtain ⟨hl', hm', hr'⟩ := h'
  obtain rfl : n = n' := by omega
  unfold maxLen at hm
  clear hm'
  have HL := Lib.hid hl
  clear hl hl'
  go_enter Try.func64, Try.ntmps64
  go_wp2
  go_loopw [5] (fun i wr => ∃ k : Nat, k ≤ n ∧ i = .int .i64 k ∧ ∃ q, wr = w.drewN q) (fun i _ => n - (intOf i).toNat)
  case atStart => exact ⟨0, Nat.zero_le _, rfl, 0, rfl⟩
  case round =>
    obtain ⟨k, hk, rfl, q, rfl⟩ := hrel
    by_cases hlt : k < n
    · rcases hr with h0 | ⟨b, off, rfl, hbl, hc⟩
      · omega
      rcases hr' with h0 | ⟨b', off', rfl, hbl', hc'⟩
      · omega
      have hck := hc k hlt
      have hck' := hc' k hlt
      obtain ⟨x, hx⟩ : ∃ x, x = l.getD k 0 := ⟨_, rfl⟩
      rw [← hx] at hck hck'
      clear hc hx hc'
      have hki : (k : Int) < (n : Int) := by omega
      go_wp2
      go_quiet (fail)
      go_wp2
      go_roundw
      case rel => exact ⟨k + 1, by omega, by go_num, _, rfl⟩
      case measure => simp [intOf]; omega
    · have hkn : k = n := by omega
      subst hkn
      clear hr hr'
      go_wp2
      go_ret
      exact ⟨rfl, q, rfl⟩

set_option maxRecDepth 100000 in
set_option maxHeartbeats 400000 in
theorem likeIntss (a : Option Addr) (n cap : Nat) (R : List (List Int)) (a' : Option Addr) (n' cap' : Nat) (R' : List (List Int)) (w : World) (h : Mat w a n R) (h' : Mat w a' n' R') (heq : R = R') :
    Calls Try.prog 22 #[.slice a n cap, .slice a' n' cap'] w fun e w' => e = .returned (.bool true) ∧ ∃ q, w' = w.drewN q := by
  subst heq
  have HM := Lib.hid h
  have HM' := Lib.hid h'
  obtain ⟨hl, hm, -⟩ := h
  obtain ⟨hl', -, -⟩ := h'
  obtain rfl : n = n' := by omega
  unfold maxLen at hm
  have HL := Lib.hid hl
  clear hl hl'
  go_enter Try.func22, Try.ntmps22
  go_wp2
  go_loopw [5] (fun i wr => ∃ k : Nat, k ≤ n ∧ i = .int .i64 k ∧ ∃ q, wr = w.drewN q) (fun i _ => n - (intOf i).toNat)
  case atStart => exact ⟨0, Nat.zero_le _, rfl, 0, rfl⟩
  case round =>
    obtain ⟨k, hk, rfl, q, rfl⟩ := hrel
    by_cases hlt : k < n
    · obtain ⟨b, off, ra, rc, L, l, rfl, hbl, hll, hc, hI⟩ := HM.out.at k hlt
      obtain ⟨b', off', ra', rc', L', l', rfl, hbl', hll', hc', hI'⟩ := HM'.out.at k hlt
      have HI := Lib.hid hI
      have HI' := Lib.hid hI'
      have HE := Lib.hid (hll.trans hll'.symm)
      clear hI hI' hll hll' HM HM'
      have hki : (k : Int) < (n : Int) := by omega
      go_wp2
      go_quiet ((go_at_call 64; exact q_more (likeInts _ _ _ l _ _ _ l' _ HI.out HI'.out HE.out)))
      go_wp2
      go_roundw
      case rel => exact ⟨k + 1, by omega, by go_num, _, rfl⟩
      case measure => simp [intOf]; omega
    · have hkn : k = n := by omega
      subst hkn
      go_wp2
      go_ret
      exact ⟨rfl, q, rfl⟩

/-- The same, said for the laws. -/
theorem likeM (a : Option Addr) (n cap : Nat) (R : List (List Int)) (a' : Option Addr) (n' cap' : Nat) (w : World) (h : Mat w a n R) (h' : Mat w a' n' R) :
    Calls Try.prog 22 #[.slice a n cap, .slice a' n' cap'] w fun e w' => e = .returned (.bool true) ∧ Below w.heap.size w w' := by
  refine (likeIntss _ _ _ _ _ _ _ _ _ h h' rfl).mono ?_
  rintro e w' ⟨rfl, q, rfl⟩
  exact ⟨rfl, b_draws _ _⟩
theorem likeV (a : Option Addr) (n cap : Nat) (l : List Int) (a' : Option Addr) (n' cap' : Nat) (w : World) (h : Ints .i64 w a n l) (h' : Ints .i64 w a' n' l) :
    Calls Try.prog 64 #[.slice a n cap, .slice a' n' cap'] w fun e w' => e = .returned (.bool true) ∧ Below w.heap.size w w' := by
  refine (likeInts _ _ _ _ _ _ _ _ _ h h' rfl).mono ?_
  rintro e w' ⟨rfl, q, rfl⟩
  exact ⟨rfl, b_draws _ _⟩
set_option maxRecDepth 100000 in
set_option maxHeartbeats 400000 in
theorem big (a : Option Addr) (n cap : Nat) (w : World) (h : n ≤ maxLen) :
    Calls Try.prog 14 #[.slice a n cap] w fun e w' => e = .returned (.bool (decide (4096 < n))) ∧ w = w' := by
  unfold maxLen at h
  go_enter Try.func14, Try.ntmps14
  go_wp2
  go_ret
  exact ⟨retB (decide_eq_decide.2 (by omega)), rfl⟩
end Go.Proofs.Ytcofjjipjcekjaa.V

namespace Go.Proofs.Ytcofjjipjcekjaa.V
open Go.RowKit

set_option maxRecDepth 100000 in
set_option maxHeartbeats 400000 in
theorem toRatio (a b : Int) (w : World) :
    Calls Try.prog 37 #[.agg #[.int .i64 a, .int .i64 b]] w fun e w' => e = .returned (.agg #[.int .i64 a, .int .i64 b]) ∧ Below w.heap.size w w' := by
  go_enter Try.func37, Try.ntmps37
  go_wp2
  exact bodyPost_ret (v := .agg #[.int .i64 a, .int .i64 b]) (by simp [results, Try.results37, go_sem]) rfl ⟨rfl, (b_alloc2 _ _ _).alloc (by simp; omega) _⟩

set_option maxRecDepth 100000 in
set_option maxHeartbeats 400000 in
theorem eqRatio (a b : Int) (w : World) :
    Calls Try.prog 35 #[.agg #[.int .i64 a, .int .i64 b], .agg #[.int .i64 a, .int .i64 b]] w fun e w' => e = .returned (.bool true) ∧ Below w.heap.size w w' := by
  go_enter Try.func35, Try.ntmps35
  go_wp2
  go_ret
  exact ⟨rfl, b_alloc2 _ _ _⟩
end Go.Proofs.Ytcofjjipjcekjaa.V

namespace Go.Proofs.Ytcofjjipjcekjaa
namespace M
variable {A : Nat → Nat → Int} {n : Nat}
/-- After r rounds. -/
def RI (A : Nat → Nat → Int) (n v r : Nat) (S : Nat → Bool) : Prop := (∀ i, S i = true → Rch A n v i) ∧ ∀ i, RcN A n v r i → S i = true
def MI (A : Nat → Nat → Int) (n v r i : Nat) (S : Nat → Bool) : Prop := RI A n v r S ∧ ∀ j, j < i → RcN A n v (r + 1) j → S j = true
def KI (A : Nat → Nat → Int) (n v r i k : Nat) (S : Nat → Bool) : Prop := MI A n v r i S ∧ ∀ j, j < k → RcN A n v r j → A i j ≠ -1000000000000000 → S i = true
theorem ri_start {v : Nat} (hv : v < n) : RI A n v 0 (upd (fun _ => false) v) :=
  ⟨fun i h => by unfold upd at h; simp at h; subst h; exact rch_self hv, fun i h => by have := rcn_zero h; subst this; unfold upd; simp⟩
theorem ki_set {v r i k : Nat} {S : Nat → Bool} (hi : i < n) (h : KI A n v r i k S) (hs : S k = true) (ha : A i k ≠ -1000000000000000) : KI A n v r i (k + 1) (upd S i) := by
  obtain ⟨⟨⟨h1, h2⟩, h3⟩, h4⟩ := h
  have hm : ∀ j, S j = true → upd S i j = true := fun j hj => by unfold upd; rw [hj, Bool.or_true]
  refine ⟨⟨⟨fun j hj => ?_, fun j hj => hm j (h2 j hj)⟩, fun j hj hr => hm j (h3 j hj hr)⟩, fun j _ _ _ => by unfold upd; simp⟩
  unfold upd at hj
  rw [Bool.or_eq_true, decide_eq_true_eq] at hj
  rcases hj with hj | hj
  · subst hj; exact rch_step (h1 k hs) hi ha
  · exact h1 j hj
theorem ki_skip {v r i k : Nat} {S : Nat → Bool} (h : KI A n v r i k S) (hs : S k = false ∨ A i k = -1000000000000000) : KI A n v r i (k + 1) S := by
  refine ⟨h.1, fun j hj hr ha => ?_⟩
  by_cases e : j = k
  · subst e
    rcases hs with hs | hs
    · rw [h.1.1.2 j hr] at hs; cases hs
    · exact absurd hs ha
  · exact h.2 j (by omega) hr ha
theorem ki_end {v r i : Nat} {S : Nat → Bool} (h : KI A n v r i n S) : MI A n v r (i + 1) S := by
  refine ⟨h.1.1, fun j hj hr => ?_⟩
  by_cases e : j = i
  · subst e
    rcases rcn_next hr with q | ⟨k, hk, q1, -, q2⟩
    · exact h.1.1.2 j q
    · exact h.2 k hk q1 q2
  · exact h.1.2 j (by omega) hr
theorem mi_end {v r : Nat} {S : Nat → Bool} (h : MI A n v r n S) : RI A n v (r + 1) S := ⟨h.1.1, fun i hr => h.2 i (Rch.of hr).lt.2 hr⟩
end M
namespace V
set_option maxRecDepth 100000
open Go.RowKit
theorem infoB1 : (Try.prog.info? 4).map (fun i => (i.zero, i.size, i.bytes)) = some (some (.bool false), 1, 1) := by kernel_rfl
theorem infoB : (Try.prog.info? 70).map (fun i => (i.zero, i.size, i.bytes)) = some (some (.slice none 0 0), 1, 24) := by kernel_rfl
/-- A table of bools, a row a block. -/
def BT (w : World) (B : Nat) (v : Value) (k n : Nat) (F : Nat → Nat → Bool) : Prop :=
  ∃ V : List Value, V.length = k ∧ w.ownsRow B 70 1 v k V ∧ ∀ i, i < k → ∃ q, B ≤ q ∧ v.ownBlock ≠ some q ∧ V.getD i undef = .slice (some ⟨q, 0, none⟩) n n ∧ w.rowIs q 4 n (fun j => .bool (F i j))
theorem rowIs_lt {w : World} {q n : Nat} {t : TypeId} {f : Nat → Value} (h : w.rowIs q t n f) : q < w.heap.size := by
  obtain ⟨c, hb, -⟩ := h
  exact (Array.getElem?_eq_some_iff.1 hb).1
theorem BT.below {w w' : World} {B k n : Nat} {v : Value} {F : Nat → Nat → Bool} (h : BT w B v k n F) (hb : Below w.heap.size w w') : BT w' B v k n F := by
  obtain ⟨V, h1, h2, h3⟩ := h
  refine ⟨V, h1, ownsRow_keep h2 (fun q hq => hb.block q (own_lt h2 hq).2), fun i hi => ?_⟩
  obtain ⟨q, k1, k2, k3, k4⟩ := h3 i hi
  exact ⟨q, k1, k2, k3, World.rowIs.of_block k4 (hb.block q (rowIs_lt k4))⟩
theorem BT.mono {w : World} {B B' k n : Nat} {v : Value} {F : Nat → Nat → Bool} (h : BT w B v k n F) (hb : B' ≤ B) : BT w B' v k n F := by
  obtain ⟨V, h1, h2, h3⟩ := h
  refine ⟨V, h1, World.ownsRow.mono h2 hb, fun i hi => ?_⟩
  obtain ⟨q, k1, k2, k3, k4⟩ := h3 i hi
  exact ⟨q, by omega, k2, k3, k4⟩
theorem bt_lit (w : World) (B n : Nat) (F : Nat → Nat → Bool) (hB : B ≤ w.heap.size) : BT (w.alloc (.cells #[] 70)) B (.slice (some ⟨w.heap.size, 0, none⟩) 0 0) 0 n F :=
  ⟨[], rfl, World.ownsRow_lit w #[] 0 hB (by decide) rfl, fun i hi => absurd hi (Nat.not_lt_zero i)⟩
/-- A row and an entry. -/
theorem BT.at {w : World} {B k n cap : Nat} {a : Option Addr} {F : Nat → Nat → Bool} (h : BT w B (.slice a k cap) k n F) (i j : Nat) (hi : i < k) (hj : j < n) :
    ∃ g q, a = some ⟨g, 0, none⟩ ∧ w.cell? ⟨g, i, none⟩ = some (.slice (some ⟨q, 0, none⟩) n n) ∧ w.cell? ⟨q, j, none⟩ = some (.bool (F i j)) := by
  obtain ⟨V, h1, h2, h3⟩ := h
  obtain ⟨q, -, -, e, hq⟩ := h3 i hi
  obtain ⟨a', c', hv, -, -, hg⟩ := own_form h2
  injection hv with e1 _ e3
  subst e1 e3
  obtain ⟨g, rfl, -, -⟩ := hg (by omega)
  refine ⟨g, q, rfl, ?_, World.rowIs.cell hq hj⟩
  have := World.ownsRow.cellAt h2 i (by omega)
  rw [this, ← e, List.getD_eq_getElem?_getD, List.getElem?_eq_getElem (by omega)]
  rfl
theorem appendB (w0 w : World) {ops : Array Oper} {rest : List Oper} {o : Oper} {a : Act} {Q : Exit → Act → World → Prop} (hgd : o.guard = none) (s x : Operand)
    (ho : o.op = .call { callee := .builtin .append, args := #[s, x], argTypes := #[71, 71] }) (B : Nat) (v : Value) (k n q : Nat) (F : Nat → Nat → Bool) (hs : a.eval s = v) (hown : BT w0 B v k n F) (hb : Below w0.heap.size w0 w) (hq : w0.heap.size ≤ q) (hro : w.rowIs q 4 n (fun j => .bool (F k j)))
    (hx : a.eval x = .slice (some ⟨w.heap.size, 0, none⟩) 1 1) (hlen : k ≤ 2000000) (hB : B ≤ w0.heap.size)
    (h : ∀ b' c' w', BT w' B (.slice b' (k + 1) c') (k + 1) n F → Below B w w' → wpList Try.prog ops Q rest (a.put o.dst (.slice b' (k + 1) c')) w') :
    wpList Try.prog ops Q (o :: rest) a (w.alloc (.cells #[.slice (some ⟨q, 0, none⟩) n n] 70)) := by
  obtain ⟨i0, hi, hz0, hz1, hz2⟩ := info_parts infoB
  have hsz := hb.size
  obtain ⟨V, h1, h2, h3⟩ := hown
  have hwV : w.ownsRow B 70 1 v k V := ownsRow_keep h2 (fun k hv => hb.block k (own_lt h2 hv).2)
  have hown2 : (w.alloc (.cells #[.slice (some ⟨q, 0, none⟩) n n] 70)).ownsRow B 70 1 v k V := World.ownsRow.alloc hwV _
  refine wpList_append_own_at (w := w.alloc (.cells #[.slice (some ⟨q, 0, none⟩) n n] 70)) hgd s x 71 ho B 70 i0 (.slice none 0 0) 1 24 Try.underlying71 hi hz0 hz1 hz2 rfl (by decide) v _ _ hs hown2 ⟨w.heap.size, 0, none⟩ 1 1 [.slice (some ⟨q, 0, none⟩) n n] hx rfl (cell_one_new _ _ _) ?c2 ?c3 ?c4 ?c5 ?_
  case c2 => intro u hu; simp at hu; subst hu; rfl
  case c3 => unfold maxLen; omega
  case c4 => omega
  case c5 => simp; omega
  · intro v' w' hownV' hgrow hz hvb
    obtain ⟨g1, g2, g3, g4, g5⟩ := hgrow
    have hg : ∀ k, k < w.heap.size → v.ownBlock ≠ some k → w'.heap[k]? = w.heap[k]? := fun k hk hne => by
      rw [g5 k (by simp; omega) (fun e => hne e.symm), Below.heap_alloc _ _ _ hk]
    have hqw := rowIs_lt hro
    have hvq : v.ownBlock ≠ some q := fun e => by have := (own_lt h2 e).2; omega
    have hv'q : ∀ p, p < w.heap.size → v.ownBlock ≠ some p → v'.ownBlock ≠ some p := fun p hp hne e => by
      rcases hvb with k | k
      · exact hne (k ▸ e)
      · rw [k] at e; injection e with e; simp at e; omega
    have hM : BT w' B v' (k + 1) n F := by
      refine ⟨_, by simp [h1], hownV', fun i hi => ?_⟩
      by_cases e : i = k
      · subst e
        refine ⟨q, by omega, hv'q q hqw hvq, ?_, World.rowIs.of_block hro (hg q hqw hvq)⟩
        rw [List.getD_eq_getElem?_getD, List.getElem?_append_right (by omega), h1, Nat.sub_self]; rfl
      · obtain ⟨p, k1, k2, k3, k4⟩ := h3 i (by omega)
        have hp := rowIs_lt k4
        refine ⟨p, k1, hv'q p (by omega) k2, ?_, World.rowIs.of_block k4 ((hg p (by omega) k2).trans (hb.block p hp))⟩
        rw [List.getD_eq_getElem?_getD, List.getElem?_append_left (by omega), ← List.getD_eq_getElem?_getD]; exact k3
    obtain ⟨b', c', hv', _⟩ := own_form hownV'
    subst hv'
    exact h b' c' w' hM (((Below.refl B w).alloc (by omega) _).grown ⟨g1, g2, g3, g4, g5⟩ (by simp; omega) (fun k hk => (own_lt h2 hk).1))
set_option maxRecDepth 100000 in
set_option maxHeartbeats 4000000 in
theorem sReach (a : Option Addr) (n cap : Nat) (R : List (List Int)) (w : World) (h : Sq w a n R) :
    Calls Try.prog 62 #[.slice a n cap] w fun e w' => ∃ b c, e = .returned (.slice b n c) ∧ BT w' w.heap.size (.slice b n c) n n (M.rchB (M.ent R) n) ∧ Below w.heap.size w w' := by
  have HSq := Lib.hid h
  obtain ⟨n1, n2⟩ := h.2.2.2
  obtain ⟨ab, aoff, -, -, rfl, -, -⟩ := h.1.rect_first h.2.1 n1
  have hmk := run_make_row' (P := Try.prog) 70 4 (.bool false) 1 Try.underlying70 infoB1 rfl .i64 .i64 n (by omega) (by omega)
  clear h
  go_enter Try.func62, Try.ntmps62
  go_wp2
  go_loopw [4, 5, 6, 7, 8, 9] (fun o i _ _ _ _ wr => ∃ (k : Nat) (b : Option Addr) (c : Nat), k ≤ n ∧ i = .int .i64 k ∧ o = .slice b k c ∧ Hid (BT wr w.heap.size (.slice b k c) k n (M.rchB (M.ent R) n)) ∧ Hid (Below w.heap.size w wr)) (fun _ i _ _ _ _ _ => n - (intOf i).toNat)
  case atStart => exact ⟨0, _, 0, Nat.zero_le _, rfl, rfl, bt_lit _ _ _ _ (Nat.le_refl _), b_alloc _ _⟩
  case round =>
    obtain ⟨v, b, c, hv, rfl, rfl, HO, HB⟩ := hrel
    obtain ⟨wo, rfl⟩ : ∃ x, x = wr := ⟨_, rfl⟩
    by_cases hlt : v < n
    · have hvi : (v : Int) < (n : Int) := by omega
      obtain ⟨w1, hw1⟩ : ∃ x, x = wo.alloc (.cells (madeCells #[.bool false] n) 4) := ⟨_, rfl⟩
      have hrow : w1.rowIs wo.heap.size 4 n (fun _ => .bool false) := by rw [hw1]; exact World.rowIs_made _ _ _ _
      have hb1 : Below wo.heap.size wo w1 := by rw [hw1]; exact b_alloc _ _
      have hcv := World.rowIs.cell hrow hlt
      have hfv := World.rowIs.frozen hrow v
      have hset := (World.rowIs.set hrow v (.bool true)).congr (g := fun j => .bool (M.upd (fun _ => false) v j)) fun i hi => by
        unfold M.upd
        by_cases e : i = v <;> simp [e]
      have he : w1.setCell ⟨wo.heap.size, v, none⟩ (.bool true) = wo.alloc (.cells ((madeCells #[.bool false] n).setIfInBounds v (.bool true)) 4) := by rw [hw1]; simp [go_sem]
      rw [he] at hset
      have hbs := hb1.setCell (p := ⟨wo.heap.size, v, none⟩) (Nat.le_refl _) (.bool true)
      rw [he] at hbs
      have HR0 := Lib.hid hset
      have HB0 := Lib.hid hbs
      subst hw1
      clear hrow hset hb1 hbs he
      go_wp2
      clear hcv hfv
      go_loopw [7, 8, 9] (fun t _ _ wr => ∃ (r : Nat) (S : Nat → Bool), r ≤ n ∧ t = .int .i64 r ∧ Hid (wr.rowIs wo.heap.size 4 n (fun j => .bool (S j))) ∧ Hid (Below wo.heap.size wo wr) ∧ Hid (M.RI (M.ent R) n v r S)) (fun t _ _ _ => n - (intOf t).toNat)
      case atStart => exact ⟨0, _, Nat.zero_le _, rfl, HR0, HB0, M.ri_start hlt⟩
      case round =>
        clear HR0 HB0
        obtain ⟨r, S, hr, rfl, HR, HBr, HI⟩ := hrel
        by_cases hrl : r < n
        · have hri : (r : Int) < (n : Int) := by omega
          have HI1 : Hid (M.MI (M.ent R) n v r 0 S) := ⟨HI.out, fun j hj => absurd hj (Nat.not_lt_zero j)⟩
          go_wp2
          go_loopw [8, 9] (fun t _ wr => ∃ (i : Nat) (S : Nat → Bool), i ≤ n ∧ t = .int .i64 i ∧ Hid (wr.rowIs wo.heap.size 4 n (fun j => .bool (S j))) ∧ Hid (Below wo.heap.size wo wr) ∧ Hid (M.MI (M.ent R) n v r i S)) (fun t _ _ => n - (intOf t).toNat)
          case atStart => exact ⟨0, S, Nat.zero_le _, rfl, HR, HBr, HI1⟩
          case round =>
            clear HR HBr HI HI1
            obtain ⟨i, S, hi, rfl, HR, HBr, HI⟩ := hrel
            by_cases hil : i < n
            · have hii : (i : Int) < (n : Int) := by omega
              have HI1 : Hid (M.KI (M.ent R) n v r i 0 S) := ⟨HI.out, fun j hj => absurd hj (Nat.not_lt_zero j)⟩
              go_wp2
              go_loopw [9] (fun t wr => ∃ (k : Nat) (S : Nat → Bool), k ≤ n ∧ t = .int .i64 k ∧ Hid (wr.rowIs wo.heap.size 4 n (fun j => .bool (S j))) ∧ Hid (Below wo.heap.size wo wr) ∧ Hid (M.KI (M.ent R) n v r i k S)) (fun t _ => n - (intOf t).toNat)
              case atStart => exact ⟨0, S, Nat.zero_le _, rfl, HR, HBr, HI1⟩
              case round =>
                clear HR HBr HI HI1
                obtain ⟨k, S, hk, rfl, HR, HBr, HI⟩ := hrel
                by_cases hkl : k < n
                · have hki : (k : Int) < (n : Int) := by omega
                  have hck := World.rowIs.cell HR.out hkl
                  have hci := World.rowIs.cell HR.out hil
                  have hfi := World.rowIs.frozen HR.out i
                  obtain ⟨d, od, rd, rdo, c4, z, hdd, hz, c41, c42⟩ := ((HSq.out.1.below HB.out).below HBr.out).rect_ent HSq.out.2.1 i k hil hkl
                  injection hdd with hdd
                  injection hdd with e1 e2
                  subst e1 e2
                  have HZ := Lib.hid hz
                  clear hz
                  cases e : S k with
                  | false =>
                    rw [e] at hck
                    have HI2 := Lib.hid (M.ki_skip HI.out (.inl e))
                    clear e
                    go_wp2
                    go_roundw
                    case rel => exact ⟨k + 1, S, by omega, by go_num, HR, HBr, HI2⟩
                    case measure => simp [intOf]; omega
                  | true =>
                    rw [e] at hck
                    by_cases hzb : z = -1000000000000000
                    · have HI2 := Lib.hid (M.ki_skip HI.out (.inr (by rw [← HZ.out]; exact hzb)))
                      have hz1 : (z != -1000000000000000) = false := by simp [hzb]
                      clear e hzb
                      go_wp2
                      go_roundw
                      case rel => exact ⟨k + 1, S, by omega, by go_num, HR, HBr, HI2⟩
                      case measure => simp [intOf]; omega
                    · have HI2 := Lib.hid (M.ki_set hil HI.out e (by rw [← HZ.out]; exact hzb))
                      have hz1 : (z != -1000000000000000) = true := by simpa using hzb
                      have HR2 : Hid ((wr.setCell ⟨wo.heap.size, i, none⟩ (.bool true)).rowIs wo.heap.size 4 n (fun j => .bool (M.upd S i j))) := (World.rowIs.set HR.out i (.bool true)).congr (g := fun j => .bool (M.upd S i j)) fun j hj => by
                        unfold M.upd
                        by_cases e : j = i <;> simp [e]
                      have HB2 := Lib.hid (HBr.out.setCell (p := ⟨wo.heap.size, i, none⟩) (Nat.le_refl _) (.bool true))
                      clear e hzb
                      go_wp2
                      go_roundw
                      case rel => exact ⟨k + 1, M.upd S i, by omega, by go_num, HR2, HB2, HI2⟩
                      case measure => simp [intOf]; omega
                · obtain rfl : k = n := by omega
                  go_wp2
                  go_roundw
                  case rel => exact ⟨i + 1, S, by omega, by go_num, HR, HBr, M.ki_end HI.out⟩
                  case measure => simp [intOf]; omega
            · obtain rfl : i = n := by omega
              go_wp2
              go_roundw
              case rel => exact ⟨r + 1, S, by omega, by go_num, HR, HBr, M.mi_end HI.out⟩
              case measure => simp [intOf]; omega
        · obtain rfl : r = n := by omega
          have HRr : Hid (wr.rowIs wo.heap.size 4 r (fun j => .bool (M.rchB (M.ent R) r v j))) := HR.out.congr fun j _ => by rw [M.rch_rounds HI.out.1 HI.out.2 j]
          go_wp2_with (at_builtin; refine appendB wo _ rfl (.tmp 55) (.tmp 57) rfl w.heap.size _ v r wo.heap.size (M.rchB (M.ent R) r) rfl HO.out HBr.out (Nat.le_refl _) HRr.out rfl (by omega) HB.out.size ?_)
          intro b4 c4 w4 hO4 hb4
          have HO4 := Lib.hid hO4
          have HB4 := Lib.hid ((HB.out.trans (HBr.out.mono HB.out.size)).trans hb4)
          clear hO4 hb4
          go_wp2
          go_roundw
          case rel => exact ⟨v + 1, b4, c4, by omega, by go_num, rfl, HO4, HB4⟩
          case measure => simp [intOf]; omega
    · obtain rfl : v = n := by omega
      go_wp2
      go_ret
      exact ⟨_, _, rfl, HO.out, HB.out⟩
end V
end Go.Proofs.Ytcofjjipjcekjaa

namespace Go.Proofs.Ytcofjjipjcekjaa.V
open Go.RowKit

/-- The matrices P, n rows each, in a list of its own; each was made at a world of its own and has stayed since. -/
def Pws (w : World) (B : Nat) (v : Value) (m n : Nat) (P : Nat → List (List Int)) : Prop :=
  ∃ V : List Value, V.length = m ∧ w.ownsRow B 24 1 v m V ∧
    ∀ i, i < m → ∃ (wi : World) (lo : Nat) (b : Option Addr) (c : Nat), V.getD i (.slice none 0 0) = .slice b n c ∧ OwnM wi lo (.slice b n c) (P i) ∧ wi.heap.size ≤ w.heap.size ∧ Same lo wi.heap.size wi w ∧ ∀ k, v.ownBlock = some k → ¬(lo ≤ k ∧ k < wi.heap.size)

theorem OwnM.same {wi w : World} {lo : Nat} {v : Value} {R : List (List Int)} (h : OwnM wi lo v R) (hs : Same lo wi.heap.size wi w) : OwnM w lo v R :=
  h.keep hs
theorem Pws.below {w w' : World} {B : Nat} {v : Value} {m n : Nat} {P : Nat → List (List Int)} (h : Pws w B v m n P) (hb : Below w.heap.size w w') : Pws w' B v m n P := by
  obtain ⟨V, h1, h2, h3⟩ := h
  refine ⟨V, h1, ownsRow_keep h2 (fun k hv => hb.block k (own_lt h2 hv).2), fun i hi => ?_⟩
  obtain ⟨wi, lo, b, c, e, ho, hz, hs, hk⟩ := h3 i hi
  exact ⟨wi, lo, b, c, e, ho, Nat.le_trans hz hb.size, hs.below hb hz, hk⟩
/-- One of the matrices. -/
theorem Pws.at {w : World} {B : Nat} {a : Option Addr} {m n cap : Nat} {P : Nat → List (List Int)} (h : Pws w B (.slice a m cap) m n P) (i : Nat) (hi : i < m) :
    ∃ g b c, a = some ⟨g, 0, none⟩ ∧ w.cell? ⟨g, i, none⟩ = some (.slice b n c) ∧ Mat w b n (P i) := by
  obtain ⟨V, h1, h2, h3⟩ := h
  obtain ⟨a', c', hv, hc, hm, hg⟩ := own_form h2
  injection hv with e1 e2 e3
  subst e1 e3
  obtain ⟨g, rfl, hB, hlt⟩ := hg (by omega)
  obtain ⟨wi, lo, b, c, e, ho, hz, hs, hk⟩ := h3 i hi
  refine ⟨g, b, c, rfl, ?_, (ho.same hs).mat⟩
  rw [World.ownsRow.cellAt h2 i (by omega), ← e]
  simp [show i < V.length by omega]
theorem Pws.caps {w : World} {B : Nat} {a : Option Addr} {m n cap : Nat} {P : Nat → List (List Int)} (h : Pws w B (.slice a m cap) m n P) : m ≤ cap ∧ cap ≤ maxLen := by
  obtain ⟨V, h1, h2, _⟩ := h
  obtain ⟨a', c', hv, k1, k2, _⟩ := own_form h2
  injection hv with e1 e2 e3
  subst e3
  exact ⟨k1, k2⟩
theorem pws_lit1 (w : World) (B n : Nat) (hB : B ≤ w.heap.size) {b : Option Addr} {c : Nat} {M : List (List Int)} (ho : OwnM w B (.slice b n c) M) (P : Nat → List (List Int)) (hP : P 0 = M) :
    Pws (w.alloc (.cells #[.slice b n c] 24)) B (.slice (some ⟨w.heap.size, 0, none⟩) 1 1) 1 n P := by
  refine ⟨[.slice b n c], rfl, World.ownsRow_lit w #[.slice b n c] 1 hB (by decide) rfl, fun i hi => ?_⟩
  obtain rfl : i = 0 := by omega
  refine ⟨w, B, b, c, rfl, by rw [hP]; exact ho, (b_alloc w _).size, (Same.refl B w.heap.size w).below (b_alloc w _) (Nat.le_refl _), fun k hk => ?_⟩
  simp only [Value.ownBlock, Option.some.injEq] at hk
  omega
theorem infoM64 : (Try.prog.info? 24).map (fun i => (i.zero, i.size, i.bytes)) = some (some (.slice none 0 0), 1, 24) := by kernel_rfl

set_option maxRecDepth 100000 in
set_option maxHeartbeats 400000 in
theorem sNode (a : Option Addr) (n cap : Nat) (x : Int) (w : World) (hn : n ≤ 1000) : Calls Try.prog 61 #[.slice a n cap, .int .i64 x] w fun e w' => e = .returned (.bool (M.inN n x)) ∧ w = w' := by
  go_enter Try.func61, Try.ntmps61
  go_wp2_with fail
  refine (sIn _ _ _ _).mono ?_
  rintro e w' ⟨rfl, rfl⟩
  go_wp2
  go_ret
  exact ⟨retB (by unfold M.inN; rw [Bool.eq_iff_iff]; simp; omega), rfl⟩
theorem sNode_b (a : Option Addr) (n cap : Nat) (x : Int) (w : World) (b : Bool) (hb : M.inN n x = b) (hn : n ≤ 1000) : Calls Try.prog 61 #[.slice a n cap, .int .i64 x] w fun e w' => e = .returned (.bool b) ∧ w = w' := by
  subst hb; exact sNode a n cap x w hn
end Go.Proofs.Ytcofjjipjcekjaa.V

namespace Go.Proofs.Ytcofjjipjcekjaa.V
open Go.RowKit
set_option maxRecDepth 100000 in
set_option maxHeartbeats 4000000 in
theorem sComponents (a : Option Addr) (n cap : Nat) (R : List (List Int)) (w : World) (h : Sq w a n R) :
    Calls Try.prog 56 #[.slice a n cap] w fun e w' => ∃ b m c, e = .returned (.slice b m c) ∧ OwnM w' w.heap.size (.slice b m c) (M.compsL (M.ent R) n) ∧ Below w.heap.size w w' := by
  have HSq := Lib.hid h
  obtain ⟨n1, n2⟩ := h.2.2.2
  clear h
  go_enter Try.func56, Try.ntmps56
  go_wp2_with fail
  refine (sReach _ _ _ R _ HSq.out).mono ?_
  rintro e w1 ⟨tb, tc, rfl, ht, hb⟩
  have HT := Lib.hid ht
  have HB1 := Lib.hid hb
  obtain ⟨tg, -, rfl, -, -⟩ := ht.at 0 0 n1 n1
  clear ht hb
  go_wp2
  go_loopw [4, 5, 6, 7] (fun o i _ _ wr => ∃ (k : Nat) (b : Option Addr) (c : Nat), k ≤ n ∧ i = .int .i64 k ∧ o = .slice b (M.compsP (M.ent R) n k).length c ∧ Hid (OwnM wr w1.heap.size (.slice b (M.compsP (M.ent R) n k).length c) (M.compsP (M.ent R) n k)) ∧ Hid (Below w1.heap.size w1 wr)) (fun _ i _ _ _ => n - (intOf i).toNat)
  case atStart => exact ⟨0, _, 0, Nat.zero_le _, rfl, rfl, ownM_lit0 _ _ (Nat.le_refl _), b_alloc _ _⟩
  case round =>
    obtain ⟨k, b, c, hk, rfl, rfl, HO, HB⟩ := hrel
    obtain ⟨wo, rfl⟩ : ∃ x, x = wr := ⟨_, rfl⟩
    by_cases hlt : k < n
    · have hki : (k : Int) < (n : Int) := by omega
      have HNx := Lib.hid (M.compsP_next (M.ent R) n k)
      have HLn := Lib.hid (M.compsP_len (M.ent R) n k)
      go_wp2
      go_loopw [6, 7] (fun o i wr => ∃ (t : Nat) (b : Option Addr) (c : Nat), t ≤ n ∧ i = .int .i64 t ∧ o = .slice b (M.compP (M.ent R) n k t).length c ∧ Hid (Own wr wo.heap.size (.slice b (M.compP (M.ent R) n k t).length c) (M.compP (M.ent R) n k t)) ∧ Hid (Below wo.heap.size wo wr)) (fun _ i _ => n - (intOf i).toNat)
      case atStart => exact ⟨0, _, 0, Nat.zero_le _, rfl, rfl, own_lit0 _ _ (Nat.le_refl _), b_alloc _ _⟩
      case round =>
        obtain ⟨t, b2, c2, ht, rfl, rfl, HI, HBi⟩ := hrel
        by_cases htl : t < n
        · have hti : (t : Int) < (n : Int) := by omega
          have HTw := Lib.hid ((HT.out.below HB.out).below HBi.out)
          obtain ⟨g1, q1, e1, r1, r2⟩ := ((HT.out.below HB.out).below (HBi.out.mono (Nat.le_refl _))).at k t hlt htl
          injection e1 with e1
          injection e1 with e1
          subst e1
          obtain ⟨g1, q2, e1, r3, r4⟩ := ((HT.out.below HB.out).below (HBi.out.mono (Nat.le_refl _))).at t k htl hlt
          injection e1 with e1
          injection e1 with e1
          subst e1
          have hnx := M.compP_next (M.ent R) n k t
          have hrl : M.relB (M.ent R) n k t = (M.rchB (M.ent R) n k t && M.rchB (M.ent R) n t k) := rfl
          have hlen := M.compP_len (M.ent R) n k t
          obtain ⟨x, hx⟩ : ∃ x, x = M.rchB (M.ent R) n k t := ⟨_, rfl⟩
          obtain ⟨y, hy⟩ : ∃ y, y = M.rchB (M.ent R) n t k := ⟨_, rfl⟩
          rw [← hx] at r2 hrl
          rw [← hy] at r4 hrl
          rw [hrl] at hnx
          clear hx hy hrl HTw
          cases x with
          | false =>
            have HN : Hid (M.compP (M.ent R) n k (t + 1) = M.compP (M.ent R) n k t) := by show _ = _; rw [hnx]; simp
            clear hnx
            go_wp2
            go_roundw
            case rel => exact ⟨t + 1, b2, c2, by omega, by go_num, by rw [HN.out], by show Own _ _ _ _; rw [HN.out]; exact HI.out, HBi⟩
            case measure => simp [intOf]; omega
          | true =>
            cases y with
            | false =>
              have HN : Hid (M.compP (M.ent R) n k (t + 1) = M.compP (M.ent R) n k t) := by show _ = _; rw [hnx]; simp
              clear hnx
              go_wp2
              go_roundw
              case rel => exact ⟨t + 1, b2, c2, by omega, by go_num, by rw [HN.out], by show Own _ _ _ _; rw [HN.out]; exact HI.out, HBi⟩
              case measure => simp [intOf]; omega
            | true =>
              have HN : Hid (M.compP (M.ent R) n k (t + 1) = M.compP (M.ent R) n k t ++ [(t : Int)]) := by show _ = _; rw [hnx]; simp
              clear hnx
              generalize M.compP (M.ent R) n k t = l at *
              go_wp2_with (at_builtin; refine append1 _ rfl (.tmp 40) (.tmp 42) rfl wo.heap.size _ l (t : Int) _ rfl rfl HI.out rfl (by omega) HBi.out.size ?_)
              intro b4 c4 w4 hO4 hb4 _
              have HO4 := Lib.hid hO4
              have HB4 := Lib.hid (HBi.out.trans hb4)
              rw [← HN.out] at HO4
              clear hO4 hb4
              go_wp2
              go_roundw
              case rel => exact ⟨t + 1, b4, c4, by omega, by go_num, by rw [HN.out, List.length_append]; rfl, by show Own _ _ _ _; rw [HN.out, List.length_append]; rw [HN.out] at HO4; exact HO4.out, HB4⟩
              case measure => simp [intOf]; omega
        · obtain rfl : t = n := by omega
          have HO1 : Hid (Own wr wo.heap.size (.slice b2 (M.compL (M.ent R) t k).length c2) (M.compL (M.ent R) t k)) := HI
          have hsl : (Value.slice b2 (M.compP (M.ent R) t k t).length c2) = .slice b2 (M.compL (M.ent R) t k).length c2 := rfl
          rw [hsl]
          clear HI hsl
          obtain ⟨d, od, x, rfl, -, hx, cx⟩ := HO1.out.ints'.at 0 (M.compL_pos hlt)
          rw [Nat.add_zero] at cx
          have hrep := (M.rep_t (A := M.ent R) hlt).2.2
          rw [← hx] at hrep
          have HRp := Lib.hid hrep
          have hlen1 : (M.compL (M.ent R) t k).length ≤ 10 := by have := M.compP_len (M.ent R) t k t; unfold M.compL; omega
          have hlen0 := M.compL_pos (A := M.ent R) hlt
          clear hx hrep
          generalize M.compL (M.ent R) t k = l at *
          by_cases hr : x = (k : Int)
          · have HN : Hid (M.compsP (M.ent R) t (k + 1) = M.compsP (M.ent R) t k ++ [l]) := by show _ = _; rw [HNx.out, if_pos (by have := HRp.out; omega)]
            have hr2 : (x == (k : Int)) = true := by simp [hr]
            clear hr
            generalize M.compsP (M.ent R) t k = L at *
            go_wp2_with (at_builtin; refine appendRow wo _ rfl (.tmp 49) (.tmp 51) rfl w1.heap.size _ _ L l _ rfl rfl HO.out HBi.out HO1.out rfl (by have := HLn.out; omega) HB.out.size ?_)
            intro b4 c4 w4 hO4 hb4 _
            have HO4 := Lib.hid hO4
            have HB4 := Lib.hid ((HB.out.trans (HBi.out.mono HB.out.size)).trans hb4)
            clear hO4 hb4
            go_wp2
            go_roundw
            case rel => exact ⟨k + 1, b4, c4, by omega, by go_num, by rw [HN.out, List.length_append]; rfl, by show OwnM _ _ _ _; rw [HN.out, List.length_append]; exact HO4.out, HB4⟩
            case measure => simp [intOf]; omega
          · have HN : Hid (M.compsP (M.ent R) t (k + 1) = M.compsP (M.ent R) t k) := by show _ = _; rw [HNx.out, if_neg (by have := HRp.out; omega), List.append_nil]
            have hr2 : (x == (k : Int)) = false := by simpa using hr
            go_wp2
            go_roundw
            case rel => exact ⟨k + 1, b, c, by omega, by go_num, by rw [HN.out], by show OwnM _ _ _ _; rw [HN.out]; exact HO.out.below HBi.out, HB.out.trans (HBi.out.mono HB.out.size)⟩
            case measure => simp [intOf]; omega
    · obtain rfl : k = n := by omega
      go_wp2
      go_ret
      exact ⟨b, _, c, rfl, HO.out.mono HB1.out.size, HB1.out.trans (HB.out.mono HB1.out.size)⟩
set_option maxRecDepth 100000 in
set_option maxHeartbeats 400000 in
theorem sComponentsOfX (a : Option Addr) (n cap : Nat) (R : List (List Int)) (w : World) (h : Mat w a n R) :
    Calls Try.prog 17 #[.slice a n cap] w (MRes (M.cmpsRes R) w) := by
  have HA := Lib.hid h
  by_cases hs : M.sqB R = true
  · have HS := Lib.hid hs
    have HQ := Lib.hid (sq_of h hs)
    have HE : Hid (M.cmpsRes R = (M.compsL (M.ent R) n, 0)) := by show _ = _; unfold M.cmpsRes; rw [if_pos hs, h.1]
    clear h hs
    go_enter Try.func17, Try.ntmps17
    go_wp2_with fail
    refine (sSquare_b _ _ _ R _ true HS.out HA.out).mono ?_
    rintro e w' ⟨rfl, q, rfl⟩
    go_wp2_with fail
    refine (sComponents _ _ _ R _ (HQ.out.below (b_draws _ _))).mono ?_
    rintro e w1 ⟨b1, m1, c1, rfl, ho, hb⟩
    have HO := Lib.hid ho
    have HB := Lib.hid ((b_draws w q).trans hb)
    clear ho hb
    go_wp2
    go_ret2
    rw [HE.out]
    exact ⟨_, _, _, rfl, HO.out, HB.out⟩
  · simp only [Bool.not_eq_true] at hs
    have HS := Lib.hid hs
    have HE : Hid (M.cmpsRes R = ([], 1)) := by show _ = _; unfold M.cmpsRes; rw [hs]; rfl
    clear h hs
    go_enter Try.func17, Try.ntmps17
    go_wp2_with fail
    refine (sSquare_b _ _ _ R _ false HS.out HA.out).mono ?_
    rintro e w' ⟨rfl, q, rfl⟩
    go_wp2
    go_ret2
    exact MRes.nil HE.out (b_draws _ _)
set_option maxRecDepth 100000 in
set_option maxHeartbeats 400000 in
theorem sIsIrreducible (a : Option Addr) (n cap : Nat) (R : List (List Int)) (w : World) (h : Mat w a n R) :
    Calls Try.prog 34 #[.slice a n cap] w (BPostC (M.irrRes R) w) := by
  have HA := Lib.hid h
  by_cases hs : M.sqB R = true
  · have HS := Lib.hid hs
    have HQ := Lib.hid (sq_of h hs)
    obtain ⟨n1, n2⟩ := (sq_of h hs).2.2.2
    obtain ⟨m, hm⟩ : ∃ m, m = (M.compsL (M.ent R) n).length := ⟨_, rfl⟩
    have HE : Hid (M.irrRes R = (((m : Int) == 1), 0)) := by
      show _ = _
      unfold M.irrRes
      rw [if_pos hs, h.1, M.irr_eq n1, ← hm]
      congr 1
      by_cases e : m = 1
      · subst e; rfl
      · rw [decide_eq_false e]; symm; simp; omega
    have HM := Lib.hid hm
    clear h hs hm
    go_enter Try.func34, Try.ntmps34
    go_wp2_with fail
    refine (sSquare_b _ _ _ R _ true HS.out HA.out).mono ?_
    rintro e w' ⟨rfl, q, rfl⟩
    go_wp2_with fail
    refine (sComponents _ _ _ R _ (HQ.out.below (b_draws _ _))).mono ?_
    rintro e w1 ⟨b1, m1, c1, rfl, ho, hb⟩
    have hm1 : m1 = m := by rw [ho.len, HM.out]
    subst hm1
    have HB := Lib.hid ((b_draws w q).trans hb)
    clear ho hb
    go_wp2
    go_ret2
    exact BPostC.mk' HE.out HB.out
  · simp only [Bool.not_eq_true] at hs
    have HS := Lib.hid hs
    have HE : Hid (M.irrRes R = (false, 1)) := by show _ = _; unfold M.irrRes; rw [hs]; rfl
    clear h hs
    go_enter Try.func34, Try.ntmps34
    go_wp2_with fail
    refine (sSquare_b _ _ _ R _ false HS.out HA.out).mono ?_
    rintro e w' ⟨rfl, q, rfl⟩
    go_wp2
    go_ret2
    exact BPostC.mk' HE.out (b_draws _ _)
set_option maxRecDepth 100000 in
set_option maxHeartbeats 400000 in
theorem sCanReach (a : Option Addr) (n cap : Nat) (R : List (List Int)) (x y : Int) (w : World) (h : Mat w a n R) :
    Calls Try.prog 20 #[.slice a n cap, .int .i64 x, .int .i64 y] w (BPostC (M.canRes R x y) w) := by
  have HA := Lib.hid h
  by_cases hs : M.sqB R = true
  · have HS := Lib.hid hs
    have HQ := Lib.hid (sq_of h hs)
    obtain ⟨n1, n2⟩ := (sq_of h hs).2.2.2
    obtain ⟨c, hc⟩ : ∃ c, c = M.inN n x := ⟨_, rfl⟩
    obtain ⟨d, hd⟩ : ∃ d, d = M.inN n y := ⟨_, rfl⟩
    have HC := Lib.hid hc.symm
    have HD := Lib.hid hd.symm
    have hres : M.canRes R x y = if c && d then (M.rchB (M.ent R) n x.toNat y.toNat, 0) else (false, 2) := by
      unfold M.canRes; rw [if_pos hs, h.1, hc, hd]
    cases c with
    | false =>
      have HE : Hid (M.canRes R x y = (false, 2)) := hres
      clear h hs hc hd hres
      go_enter Try.func20, Try.ntmps20
      go_wp2_with fail
      refine (sSquare_b _ _ _ R _ true HS.out HA.out).mono ?_
      rintro e w' ⟨rfl, q, rfl⟩
      go_wp2_with fail
      refine (sNode_b _ _ _ x _ false HC.out (by omega)).mono ?_
      rintro e w' ⟨rfl, rfl⟩
      go_wp2
      go_ret2
      exact BPostC.mk' HE.out (b_draws _ _)
    | true =>
      cases d with
      | false =>
        have HE : Hid (M.canRes R x y = (false, 2)) := hres
        clear h hs hc hd hres
        go_enter Try.func20, Try.ntmps20
        go_wp2_with fail
        refine (sSquare_b _ _ _ R _ true HS.out HA.out).mono ?_
        rintro e w' ⟨rfl, q, rfl⟩
        go_wp2_with fail
        refine (sNode_b _ _ _ x _ true HC.out (by omega)).mono ?_
        rintro e w' ⟨rfl, rfl⟩
        go_wp2_with fail
        refine (sNode_b _ _ _ y _ false HD.out (by omega)).mono ?_
        rintro e w' ⟨rfl, rfl⟩
        go_wp2
        go_ret2
        exact BPostC.mk' HE.out (b_draws _ _)
      | true =>
        obtain ⟨k, hk, rfl⟩ := M.inN_k hc.symm
        obtain ⟨t, ht, rfl⟩ := M.inN_k hd.symm
        have hki : (k : Int) < (n : Int) := by omega
        have hti : (t : Int) < (n : Int) := by omega
        obtain ⟨r, hr⟩ : ∃ r, r = M.rchB (M.ent R) n k t := ⟨_, rfl⟩
        have HR := Lib.hid hr.symm
        have HE : Hid (M.canRes R k t = (r, 0)) := by show _ = _; rw [hres, hr]; rfl
        clear h hs hc hd hres hr
        go_enter Try.func20, Try.ntmps20
        go_wp2_with fail
        refine (sSquare_b _ _ _ R _ true HS.out HA.out).mono ?_
        rintro e w' ⟨rfl, q, rfl⟩
        go_wp2_with fail
        refine (sNode_b _ _ _ (k : Int) _ true HC.out (by omega)).mono ?_
        rintro e w' ⟨rfl, rfl⟩
        go_wp2_with fail
        refine (sNode_b _ _ _ (t : Int) _ true HD.out (by omega)).mono ?_
        rintro e w' ⟨rfl, rfl⟩
        go_wp2_with fail
        refine (sReach _ _ _ R _ (HQ.out.below (b_draws _ _))).mono ?_
        rintro e w1 ⟨tb, tc, rfl, htb, hb⟩
        obtain ⟨g1, q1, rfl, r1, r2⟩ := htb.at k t hk ht
        rw [HR.out] at r2
        have HB := Lib.hid ((b_draws w q).trans hb)
        clear htb hb
        go_wp2
        go_ret2
        exact BPostC.mk' HE.out HB.out
  · simp only [Bool.not_eq_true] at hs
    have HS := Lib.hid hs
    have HE : Hid (M.canRes R x y = (false, 1)) := by show _ = _; unfold M.canRes; rw [hs]; rfl
    clear h hs
    go_enter Try.func20, Try.ntmps20
    go_wp2_with fail
    refine (sSquare_b _ _ _ R _ false HS.out HA.out).mono ?_
    rintro e w' ⟨rfl, q, rfl⟩
    go_wp2
    go_ret2
    exact BPostC.mk' HE.out (b_draws _ _)
end Go.Proofs.Ytcofjjipjcekjaa.V
