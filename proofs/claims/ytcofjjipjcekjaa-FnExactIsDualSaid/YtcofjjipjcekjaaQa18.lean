/- Texts laid together: Shp, Dup, Sqp, Shv, Dua. -/
import Derived.Test.YtcofjjipjcekjaaQa1
import Derived.Test.YtcofjjipjcekjaaQa14
import Derived.Test.YtcofjjipjcekjaaQa3
import Derived.Test.YtcofjjipjcekjaaQa5
import Derived.Test.YtcofjjipjcekjaaQa15
import Derived.Test.YtcofjjipjcekjaaQa16
set_option linter.unusedSimpArgs false
set_option linter.unusedVariables false
set_option linter.unusedSectionVars false
namespace Go.Proofs.Ytcofjjipjcekjaa
namespace M
def shvL (l : List Int) (g : Int) : List Int := l.map fun x => times x g
def shvRes (l : List Int) (g : Int) : List Int × Int := if isVec l then (if isFin g then (if isVec (shvL l g) then (shvL l g, 0) else ([], 3)) else ([], 2)) else ([], 1)
theorem shv_len (l : List Int) (g : Int) : (shvL l g).length = l.length := by simp [shvL]
theorem shv_get {l : List Int} {g : Int} {i : Nat} (hi : i < l.length) : (shvL l g).getD i 0 = times (l.getD i 0) g := by
  simp [shvL, hi]
theorem shv_take {l : List Int} {g : Int} {k : Nat} (hk : k < l.length) : (shvL l g).take (k + 1) = (shvL l g).take k ++ [times (l.getD k 0) g] := by
  have h := List.take_succ_eq_append_getElem (l := shvL l g) (i := k) (by rw [shv_len]; exact hk)
  rw [h]
  congr 2
  simp [shvL, hk]
theorem shvRes_len (l : List Int) (g : Int) : (shvRes l g).1.length ≤ 10 := by
  unfold shvRes
  split
  · split
    · split
      · rename_i h
        have := (isVec_t h).2.1
        exact this
      · exact Nat.zero_le _
    · exact Nat.zero_le _
  · exact Nat.zero_le _
/-- The element with the index k of the orbit of x. -/
def orb (R : List (List Int)) (x : List Int) : Nat → List Int
  | 0 => x
  | k + 1 => applyM R (orb R x k)
def orbL (R : List (List Int)) (x : List Int) (k : Nat) : List (List Int) := (List.range k).map (orb R x)
def orbCode (R : List (List Int)) (x : List Int) : Int := if sqB R && isVec x then (if x.length = R.length then 0 else 5) else 1
def orbRes (R : List (List Int)) (x : List Int) (n : Int) : List (List Int) × Int :=
  if orbCode R x = 0 then (if 0 ≤ n ∧ n ≤ 100 then (if (orbL R x (n.toNat + 1)).all isVec then (orbL R x (n.toNat + 1), 0) else ([], 3)) else ([], 2)) else ([], orbCode R x)
theorem orbCode_t {R : List (List Int)} {x : List Int} (h : orbCode R x = 0) : sqB R = true ∧ isVec x = true ∧ x.length = R.length := by
  unfold orbCode at h
  by_cases h1 : (sqB R && isVec x) = true
  · rw [if_pos h1] at h
    by_cases h2 : x.length = R.length
    · rw [Bool.and_eq_true] at h1
      exact ⟨h1.1, h1.2, h2⟩
    · rw [if_neg h2] at h; exact absurd h (by decide)
  · rw [if_neg h1] at h; exact absurd h (by decide)
theorem orbL_len (R : List (List Int)) (x : List Int) (k : Nat) : (orbL R x k).length = k := by simp [orbL]
theorem orbL_next (R : List (List Int)) (x : List Int) (k : Nat) : orbL R x (k + 1) = orbL R x k ++ [orb R x k] := by
  simp [orbL, List.range_succ]
theorem orbL_get {R : List (List Int)} {x : List Int} {k i : Nat} (h : i < k) : (orbL R x k).getD i [] = orb R x i := by
  simp [orbL, h]
theorem orb_len {R : List (List Int)} {x : List Int} (h : x.length = R.length) : ∀ k, (orb R x k).length = R.length
  | 0 => h
  | _ + 1 => apply_len' _ _
theorem orb_all {R : List (List Int)} {x : List Int} {k : Nat} (h : (orbL R x k).all isVec = true) {i : Nat} (hi : i < k) : isVec (orb R x i) = true := by
  rw [List.all_eq_true] at h
  exact h _ (List.mem_map.2 ⟨i, List.mem_range.2 hi, rfl⟩)
theorem orb_all_next {R : List (List Int)} {x : List Int} {k : Nat} (h : (orbL R x k).all isVec = true) (h2 : isVec (orb R x k) = true) : (orbL R x (k + 1)).all isVec = true := by
  rw [orbL_next, List.all_append, h]
  simp [h2]
theorem orb_all_not {R : List (List Int)} {x : List Int} {k m : Nat} (hk : k < m) (h2 : isVec (orb R x k) = false) : (orbL R x m).all isVec = false := by
  cases e : (orbL R x m).all isVec with
  | false => rfl
  | true => rw [orb_all e hk] at h2; exact absurd h2 (by decide)
end M
end Go.Proofs.Ytcofjjipjcekjaa

namespace Go.Proofs.Ytcofjjipjcekjaa
namespace M
def finL (n : Nat) (x : List Int) : Bool := decide (x.length = n) && x.all isFin
/-- Row i of the condition of a dual. -/
def rowB (R : List (List Int)) (u v : List Int) (i : Nat) : Bool := (List.range R.length).all fun j => decide (ent R i j = -1000000000000000 ∨ ent R i j ≤ u.getD i 0 + v.getD j 0)
def dualB (R : List (List Int)) (u v : List Int) : Bool := sqB R && finL R.length u && finL R.length v && (List.range R.length).all (rowB R u v)
theorem finL_t {n : Nat} {x : List Int} (h : finL n x = true) : x.length = n ∧ ∀ i, i < n → -1000000 ≤ x.getD i 0 ∧ x.getD i 0 ≤ 1000000 := by
  unfold finL at h
  rw [Bool.and_eq_true, decide_eq_true_iff] at h
  refine ⟨h.1, fun i hi => ?_⟩
  have hi2 : i < x.length := by omega
  have := List.all_eq_true.1 h.2 x[i] (List.getElem_mem hi2)
  rw [List.getD_eq_getElem?_getD, List.getElem?_eq_getElem hi2]
  exact isFin_t this
theorem finL_vec {n : Nat} {x : List Int} (n1 : 1 ≤ n) (n2 : n ≤ 10) : finL n x = (decide (x.length = n) && (isVec x && !(x.any fun v => decide (v = -1000000000000000)))) := by
  unfold finL
  by_cases h : x.length = n
  · rw [decide_eq_true h]
    simp only [Bool.true_and]
    rw [Bool.eq_iff_iff, Bool.and_eq_true, Bool.not_eq_true', ← Bool.not_eq_true, List.any_eq_true]
    constructor
    · intro h2
      have h3 : ∀ v ∈ x, isFin v = true := List.all_eq_true.1 h2
      refine ⟨isVec_of (by omega) (by omega) fun i hi => ?_, ?_⟩
      · have := h3 x[i] (List.getElem_mem hi)
        rw [List.getD_eq_getElem?_getD, List.getElem?_eq_getElem hi]
        unfold isVal
        show (_ || isFin x[i]) = true
        rw [this, Bool.or_true]
      · rintro ⟨v, hv, e⟩
        rw [decide_eq_true_iff] at e
        subst e
        exact absurd (h3 _ hv) (by decide)
    · rintro ⟨h2, h3⟩
      rw [List.all_eq_true]
      intro v hv
      obtain ⟨i, hi, rfl⟩ := List.mem_iff_getElem.1 hv
      have h4 := (isVec_t h2).2.2 i hi
      rw [List.getD_eq_getElem?_getD, List.getElem?_eq_getElem hi] at h4
      have h4 : isVal x[i] = true := h4
      unfold isVal at h4
      rw [Bool.or_eq_true, decide_eq_true_iff] at h4
      rcases h4 with h4 | h4
      · exact absurd ⟨_, hv, by rw [decide_eq_true_iff]; exact h4⟩ h3
      · exact h4
  · rw [decide_eq_false h]; rfl
/-- The program's comparison with the shifted list. -/
theorem rowB_most {R : List (List Int)} {u v : List Int} {i : Nat} (hs : sqB R = true) (hv : finL R.length v = true) (hu : finL R.length u = true) (hi : i < R.length) : atMostB (R.getD i []) (shvL v (u.getD i 0)) = rowB R u v i := by
  obtain ⟨hm, hw⟩ := sqB_t hs
  obtain ⟨v1, v2⟩ := finL_t hv
  obtain ⟨u1, u2⟩ := finL_t hu
  have hl : (R.getD i []).length = R.length := by rw [isMat_len hm hi, hw]
  unfold atMostB rowB
  rw [hl, Bool.eq_iff_iff, List.all_eq_true, List.all_eq_true]
  have key : ∀ j, j < R.length → (decide ((R.getD i []).getD j 0 ≤ (shvL v (u.getD i 0)).getD j 0) = true ↔ decide (ent R i j = -1000000000000000 ∨ ent R i j ≤ u.getD i 0 + v.getD j 0) = true) := fun j hj => by
    have e1 := isVal_t (isMat_val hm hi (j := j) (by rw [← hw]; exact hj))
    have e2 := v2 j hj
    have e3 := u2 i hi
    rw [shv_get (by omega)]
    have e4 : times (v.getD j 0) (u.getD i 0) = v.getD j 0 + u.getD i 0 := by
      unfold times; rw [if_neg]; omega
    rw [e4, decide_eq_true_iff, decide_eq_true_iff]
    unfold ent at e1 ⊢
    omega
  constructor
  · intro h j hj; exact (key j (List.mem_range.1 hj)).1 (h j hj)
  · intro h j hj; exact (key j (List.mem_range.1 hj)).2 (h j hj)
theorem dual_s {R : List (List Int)} {u v : List Int} (h : sqB R = false) : dualB R u v = false := by unfold dualB; rw [h]; rfl
theorem dual_u {R : List (List Int)} {u v : List Int} (h : finL R.length u = false) : dualB R u v = false := by unfold dualB; rw [h]; simp
theorem dual_v {R : List (List Int)} {u v : List Int} (h : finL R.length v = false) : dualB R u v = false := by unfold dualB; rw [h]; simp
theorem dual_r {R : List (List Int)} {u v : List Int} {i : Nat} (hi : i < R.length) (h : rowB R u v i = false) : dualB R u v = false := by
  cases e : dualB R u v with
  | false => rfl
  | true =>
    unfold dualB at e
    rw [Bool.and_eq_true, List.all_eq_true] at e
    rw [e.2 i (List.mem_range.2 hi)] at h; cases h
theorem dual_t {R : List (List Int)} {u v : List Int} (h1 : sqB R = true) (h2 : finL R.length u = true) (h3 : finL R.length v = true) (h : ∀ i, i < R.length → rowB R u v i = true) : dualB R u v = true := by
  unfold dualB
  rw [h1, h2, h3, Bool.true_and, Bool.true_and, Bool.true_and, List.all_eq_true]
  exact fun i hi => h i (List.mem_range.1 hi)
theorem rowB_f {R : List (List Int)} {u v : List Int} {i j : Nat} (hj : j < R.length) (h : ¬ ent R i j = -1000000000000000) (h2 : u.getD i 0 + v.getD j 0 < ent R i j) : rowB R u v i = false := by
  cases e : rowB R u v i with
  | false => rfl
  | true =>
    unfold rowB at e
    rw [List.all_eq_true] at e
    have := e j (List.mem_range.2 hj)
    rw [decide_eq_true_iff] at this
    omega
theorem rowB_t {R : List (List Int)} {u v : List Int} {i : Nat} (h : ∀ j, j < R.length → ent R i j = -1000000000000000 ∨ ent R i j ≤ u.getD i 0 + v.getD j 0) : rowB R u v i = true := by
  unfold rowB
  rw [List.all_eq_true]
  exact fun j hj => by rw [decide_eq_true_iff]; exact h j (List.mem_range.1 hj)
end M
end Go.Proofs.Ytcofjjipjcekjaa

namespace Go.Proofs.Ytcofjjipjcekjaa
namespace M
/-- The list shifted such that its greatest element is 0 if it is finite. -/
def nrm (x : List Int) : List Int := shvL x (-(maxL x))
/-- The difference at the first index at which both have a finite element. -/
def gapI : List Int → List Int → Int
  | a :: x, b :: y => if a ≠ -1000000000000000 ∧ b ≠ -1000000000000000 then b - a else gapI x y
  | _, _ => 0
def gapB (x y : List Int) : Bool := decide (shvL x (gapI x y) = y)
theorem gapI_spec : ∀ (x y : List Int), x.length = y.length → (∃ i, i < x.length ∧ x.getD i 0 ≠ -1000000000000000 ∧ y.getD i 0 ≠ -1000000000000000 ∧ gapI x y = y.getD i 0 - x.getD i 0) ∨ ((∀ i, i < x.length → x.getD i 0 = -1000000000000000 ∨ y.getD i 0 = -1000000000000000) ∧ gapI x y = 0)
  | [], [], _ => .inr ⟨fun i hi => absurd hi (Nat.not_lt_zero i), rfl⟩
  | [], b :: y, h => absurd h (by simp)
  | a :: x, [], h => absurd h (by simp)
  | a :: x, b :: y, h => by
    by_cases e : a ≠ -1000000000000000 ∧ b ≠ -1000000000000000
    · exact .inl ⟨0, by simp, e.1, e.2, by simp [gapI, e]⟩
    · have hg : gapI (a :: x) (b :: y) = gapI x y := by rw [gapI, if_neg e]
      rcases gapI_spec x y (by simpa using h) with ⟨i, hi, h1, h2, h3⟩ | ⟨h1, h2⟩
      · exact .inl ⟨i + 1, by simpa using hi, by simpa using h1, by simpa using h2, by rw [hg, h3]; simp⟩
      · refine .inr ⟨fun i hi => ?_, by rw [hg, h2]⟩
        cases i with
        | zero => simp only [List.getD_cons_zero]; omega
        | succ i => simpa using h1 i (by simpa using hi)
theorem maxL_foldl : ∀ (l : List Int) (m : Int), m ≤ l.foldl max m ∧ (∀ i, i < l.length → l.getD i 0 ≤ l.foldl max m) ∧ (l.foldl max m = m ∨ ∃ i, i < l.length ∧ l.getD i 0 = l.foldl max m)
  | [], m => ⟨Int.le_refl _, fun i hi => absurd hi (Nat.not_lt_zero i), .inl rfl⟩
  | a :: l, m => by
    obtain ⟨h1, h2, h3⟩ := maxL_foldl l (max m a)
    refine ⟨by rw [List.foldl_cons]; omega, fun i hi => ?_, ?_⟩
    · rw [List.foldl_cons]
      cases i with
      | zero => simp only [List.getD_cons_zero]; omega
      | succ i => simpa using h2 i (by simpa using hi)
    · rw [List.foldl_cons]
      rcases h3 with h3 | ⟨i, hi, h3⟩
      · rw [h3]
        rcases Int.le_total m a with e | e
        · exact .inr ⟨0, by simp, by rw [List.getD_cons_zero]; omega⟩
        · exact .inl (by omega)
      · exact .inr ⟨i + 1, by simpa using hi, by simpa using h3⟩
theorem maxL_ge {x : List Int} {i : Nat} (hi : i < x.length) : x.getD i 0 ≤ maxL x := (maxL_foldl x _).2.1 i hi
theorem maxL_low (x : List Int) : -1000000000000000 ≤ maxL x := (maxL_foldl x _).1
theorem maxL_mem (x : List Int) : maxL x = -1000000000000000 ∨ ∃ i, i < x.length ∧ x.getD i 0 = maxL x := (maxL_foldl x _).2.2
theorem list_ext0 {x y : List Int} (h : x.length = y.length) (h2 : ∀ i, i < x.length → x.getD i 0 = y.getD i 0) : x = y := by
  refine List.ext_getElem h fun i h1 h3 => ?_
  have := h2 i h1
  simpa [h1, h3] using this
theorem shv_eq {x y : List Int} {g d : Int} (h : x.length = y.length) : shvL x g = shvL y d ↔ ∀ i, i < x.length → times (x.getD i 0) g = times (y.getD i 0) d := by
  constructor
  · intro e i hi
    rw [← shv_get hi, e, shv_get (by omega)]
  · intro e
    exact list_ext0 (by rw [shv_len, shv_len, h]) fun i hi => by
      rw [shv_len] at hi
      rw [shv_get hi, shv_get (by omega)]; exact e i hi
theorem shv_is {x y : List Int} {g : Int} (h : x.length = y.length) : shvL x g = y ↔ ∀ i, i < x.length → times (x.getD i 0) g = y.getD i 0 := by
  constructor
  · intro e i hi
    rw [← shv_get hi, e]
  · intro e
    exact list_ext0 (by rw [shv_len, h]) fun i hi => by
      rw [shv_len] at hi
      rw [shv_get hi]; exact e i hi
def Vals (x : List Int) : Prop := ∀ i, i < x.length → isVal (x.getD i 0) = true
theorem maxL_vals {x : List Int} (h : Vals x) : isVal (maxL x) = true := by
  rcases maxL_mem x with e | ⟨i, hi, e⟩
  · rw [e]; rfl
  · rw [← e]; exact h i hi
/-- A list that is y shifted by g has the same pattern, and a greatest element shifted by g. -/
theorem nrm_of {x y : List Int} {g : Int} (hl : x.length = y.length) (hx : Vals x) (hy : Vals y) (hg : -10000000 ≤ g) (hg2 : g ≤ 10000000) (h : shvL x g = y) : nrm x = nrm y ∧ times (maxL x) g = maxL y := by
  rw [shv_is hl] at h
  have hm : times (maxL x) g = maxL y := by
    have v := isVal_t (maxL_vals hx)
    have v2 := isVal_t (maxL_vals hy)
    rcases maxL_mem x with e | ⟨i, hi, e⟩
    · rcases maxL_mem y with e2 | ⟨j, hj, e2⟩
      · rw [e, e2]; rfl
      · have h3 := h j (by omega)
        have h4 := maxL_ge (x := x) (i := j) (by omega)
        have h5 := isVal_t (hx j (by omega))
        have h6 : x.getD j 0 = -1000000000000000 := by omega
        rw [h6] at h3
        rw [e, ← e2, ← h3]
    · have h3 := h i hi
      rw [e] at h3
      have h4 := maxL_ge (x := y) (i := i) (by omega)
      rw [← h3] at h4
      rcases maxL_mem y with e2 | ⟨j, hj, e2⟩
      · have h5 := maxL_low y
        unfold times at h4 ⊢
        split
        · exact e2.symm
        · rename_i hn
          rw [if_neg hn, e2] at h4
          omega
      · have h5 := h j (by omega)
        have h6 := maxL_ge (x := x) (i := j) (by omega)
        have h7 := isVal_t (hx j (by omega))
        rw [e2] at h5
        unfold times at h5 h4 ⊢
        split at h5 <;> split at h4 <;> split <;> omega
  refine ⟨?_, hm⟩
  unfold nrm
  rw [shv_eq hl]
  intro i hi
  have h3 := h i hi
  have v := isVal_t (maxL_vals hx)
  have v2 := isVal_t (maxL_vals hy)
  have v3 := isVal_t (hx i hi)
  have v4 := isVal_t (hy i (by omega))
  have v5 := maxL_ge hi
  rw [← hm] at v2 ⊢
  rw [← h3] at v4 ⊢
  unfold times at *
  split <;> split <;> split at * <;> omega
theorem gapI_bd {x y : List Int} (hl : x.length = y.length) (hx : Vals x) (hy : Vals y) : -2000000 ≤ gapI x y ∧ gapI x y ≤ 2000000 := by
  rcases gapI_spec x y hl with ⟨i, hi, h1, h2, h3⟩ | ⟨h1, h2⟩
  · have v3 := isVal_t (hx i hi)
    have v4 := isVal_t (hy i (by omega))
    omega
  · omega
theorem nrm_gap {x y : List Int} (hl : x.length = y.length) (hx : Vals x) (hy : Vals y) (h : nrm x = nrm y) : gapI x y = maxL y - maxL x ∧ shvL x (gapI x y) = y := by
  unfold nrm at h
  rw [shv_eq hl] at h
  have v := isVal_t (maxL_vals hx)
  have v2 := isVal_t (maxL_vals hy)
  have hb : ∀ i, i < x.length → (x.getD i 0 = -1000000000000000 ↔ y.getD i 0 = -1000000000000000) := fun i hi => by
    have h3 := h i hi
    have v3 := isVal_t (hx i hi)
    have v4 := isVal_t (hy i (by omega))
    unfold times at h3
    split at h3 <;> split at h3 <;> omega
  have hd : ∀ i, i < x.length → x.getD i 0 ≠ -1000000000000000 → y.getD i 0 - x.getD i 0 = maxL y - maxL x := fun i hi hne => by
    have h3 := h i hi
    have v3 := isVal_t (hx i hi)
    have v4 := isVal_t (hy i (by omega))
    have v5 := maxL_ge hi
    have v6 := maxL_ge (x := y) (i := i) (by omega)
    have := hb i hi
    unfold times at h3
    split at h3 <;> split at h3 <;> omega
  have hG : gapI x y = maxL y - maxL x := by
    rcases gapI_spec x y hl with ⟨i, hi, h1, h2, h3⟩ | ⟨h1, h2⟩
    · rw [h3]; exact hd i hi h1
    · rw [h2]
      rcases maxL_mem x with e | ⟨i, hi, e⟩
      · rcases maxL_mem y with e2 | ⟨j, hj, e2⟩
        · omega
        · have h4 := h1 j (by omega)
          have h5 := hb j (by omega)
          omega
      · have h4 := h1 i hi
        have h5 := hb i hi
        have h6 : x.getD i 0 = -1000000000000000 := by omega
        rcases maxL_mem y with e2 | ⟨j, hj, e2⟩
        · omega
        · have h7 := h1 j (by omega)
          have h8 := hb j (by omega)
          omega
  refine ⟨hG, ?_⟩
  rw [shv_is hl]
  intro i hi
  have h1 := hb i hi
  have h2 := hd i hi
  rw [← hG] at h2
  obtain ⟨b1, b2⟩ := gapI_bd hl hx hy
  unfold times
  split <;> omega
theorem gapB_iff {x y : List Int} (hl : x.length = y.length) (hx : Vals x) (hy : Vals y) : gapB x y = true ↔ nrm x = nrm y := by
  unfold gapB
  rw [decide_eq_true_iff]
  constructor
  · intro h
    obtain ⟨b1, b2⟩ := gapI_bd hl hx hy
    exact (nrm_of hl hx hy (by omega) (by omega) h).1
  · intro h
    exact (nrm_gap hl hx hy h).2
/-- IsRepeat's test, both ways. -/
theorem shv_iff {x y : List Int} {g : Int} (hl : x.length = y.length) (hx : Vals x) (hy : Vals y) (hg : -10000000 ≤ g) (hg2 : g ≤ 10000000) : shvL x g = y ↔ (nrm x = nrm y ∧ times (maxL x) g = maxL y) := by
  constructor
  · exact nrm_of hl hx hy hg hg2
  · rintro ⟨h1, h2⟩
    obtain ⟨h3, h4⟩ := nrm_gap hl hx hy h1
    rw [shv_is hl] at h4 ⊢
    intro i hi
    have h5 := h4 i hi
    have v3 := isVal_t (hx i hi)
    have v5 := maxL_ge hi
    have v := isVal_t (maxL_vals hx)
    have v2 := isVal_t (maxL_vals hy)
    rw [h3] at h5
    unfold times at h5 h2 ⊢
    split at h5 <;> split at h2 <;> split <;> omega
end M
end Go.Proofs.Ytcofjjipjcekjaa

namespace Go.Proofs.Ytcofjjipjcekjaa.V
set_option maxRecDepth 100000
open Go.RowKit
/-- A number that is so small that no sum of two overflows. -/
def Wid (v : Int) : Prop := -2000000000000000 ≤ v ∧ v ≤ 2000000000000000
theorem wid_val {v : Int} (h : M.isVal v = true) : Wid v := by have := M.isVal_t h; unfold Wid; omega
set_option maxRecDepth 100000 in
set_option maxHeartbeats 400000 in
theorem timesW (a b : Int) (w : World) (ha : Wid a) (hb : Wid b) : Calls Try.prog 144 #[.int .i64 a, .int .i64 b] w fun e w' => e = .returned (.int .i64 (M.times a b)) ∧ w = w' := by
  obtain ⟨ba1, ba2⟩ := ha
  obtain ⟨bb1, bb2⟩ := hb
  by_cases h : a = -1000000000000000
  · subst h
    go_enter Try.func144, Try.ntmps144
    go_wp2
    all_goals go_ret; exact ⟨retI (by simp [M.times]), rfl⟩
  · have h' : (a == -1000000000000000) = false := by simpa using h
    by_cases h2 : b = -1000000000000000
    · subst h2
      go_enter Try.func144, Try.ntmps144
      go_wp2
      all_goals go_ret; exact ⟨retI (by simp [M.times]), rfl⟩
    · have h2' : (b == -1000000000000000) = false := by simpa using h2
      go_enter Try.func144, Try.ntmps144
      go_wp2
      all_goals go_ret; exact ⟨retI (by simp [M.times, h, h2]), rfl⟩
set_option maxRecDepth 100000 in
set_option maxHeartbeats 400000 in
theorem sTimesW (a b : Int) (w : World) (ha : Wid a) (hb : Wid b) : Calls Try.prog 122 #[.int .i64 a, .int .i64 b] w fun e w' => e = .returned (.int .i64 (M.times a b)) ∧ w = w' := by
  obtain ⟨ba1, ba2⟩ := ha
  obtain ⟨bb1, bb2⟩ := hb
  by_cases h : a = -1000000000000000
  · subst h
    go_enter Try.func122, Try.ntmps122
    go_wp2
    all_goals go_ret; exact ⟨retI (by simp [M.times]), rfl⟩
  · have h' : (a == -1000000000000000) = false := by simpa using h
    by_cases h2 : b = -1000000000000000
    · subst h2
      go_enter Try.func122, Try.ntmps122
      go_wp2
      all_goals go_ret; exact ⟨retI (by simp [M.times]), rfl⟩
    · have h2' : (b == -1000000000000000) = false := by simpa using h2
      go_enter Try.func122, Try.ntmps122
      go_wp2
      all_goals go_ret; exact ⟨retI (by simp [M.times, h, h2]), rfl⟩
/-- The first k elements of a list of n that is being filled. -/
def vPart (n : Nat) (f : Nat → Int) (k : Nat) : List Int := (List.range n).map fun j => if j < k then f j else 0
theorem vPart_zero (n : Nat) (f : Nat → Int) : vPart n f 0 = (List.range n).map fun _ => 0 := by simp [vPart]
theorem vPart_end (n : Nat) (f : Nat → Int) : vPart n f n = (List.range n).map f := List.map_congr_left fun j hj => by simp [List.mem_range.1 hj]
theorem vPart_set (n : Nat) (f : Nat → Int) (k : Nat) : (vPart n f k).set k (f k) = vPart n f (k + 1) := by
  unfold vPart
  rw [M.map_set]
  refine List.map_congr_left fun j _ => ?_
  by_cases e : j = k
  · subst e; rw [if_pos rfl, if_pos (by omega)]
  · rw [if_neg e]
    by_cases e2 : j < k
    · rw [if_pos e2, if_pos (by omega)]
    · rw [if_neg e2, if_neg (by omega)]
theorem shv_map (l : List Int) (g : Int) : M.shvL l g = (List.range l.length).map fun j => M.times (l.getD j 0) g := by
  refine M.list_ext0 (by rw [M.shv_len]; simp) fun i hi => ?_
  rw [M.shv_len] at hi
  rw [M.shv_get hi]
  simp [hi]
set_option maxRecDepth 100000 in
set_option maxHeartbeats 400000 in
theorem clTimesW (a b : Int) (w : World) (ha : Wid a) (hb : Wid b) : Calls Try.prog 143 #[.int .i64 a, .int .i64 b] w fun e w' => e = .returned (.int .i64 (M.times a b)) ∧ w = w' := by
  have HA := Lib.hid ha
  have HB := Lib.hid hb
  clear ha hb
  go_enter Try.func143, Try.ntmps143
  go_wp2_with (first | (go_at_call 144; refine (timesW _ _ _ HA.out HB.out).mono ?_; rintro e w' ⟨rfl, rfl⟩))
  go_ret
  exact ⟨rfl, rfl⟩
theorem fld1s : ∀ w : World, (Instr.field 113 (.agg #[.func (.func 141) #[] #[], .func (.func 143) #[] #[]]) 1).run Try.prog w = .ok (.func (.func 143) #[] #[]) w := fun w => by simp [Instr.field, part, asAgg, go_sem]
set_option maxRecDepth 100000 in
set_option maxHeartbeats 4000000 in
theorem shiftedList (a : Option Addr) (n cap : Nat) (l : List Int) (g : Int) (w : World) (h : Ints .i64 w a n l) (hn : n ≤ 1000) (hl : ∀ k, k < n → Wid (l.getD k 0)) (hg : Wid g) :
    Calls Try.prog 94 #[.slice a n cap, .int .i64 g] w fun e w' => ∃ b, e = .returned (.slice b n n) ∧ Own w' w.heap.size (.slice b n n) (M.shvL l g) ∧ Below w.heap.size w w' := by
  have HI := Lib.hid h
  have HL := Lib.hid hl
  have HG := Lib.hid hg
  have HE : Hid (M.shvL l g = (List.range n).map fun j => M.times (l.getD j 0) g) := by show _ = _; rw [shv_map, h.1]
  have hmk := run_make_row' (P := Try.prog) 34 2 (.int .i64 0) 8 Try.underlying34 info64 rfl .i64 .i64 n (by omega) (by omega)
  have hfld := fld1s
  clear h hl hg
  go_enter Try.func94, Try.ntmps94
  go_wp2_with fail
  refine (maxPlus _).mono ?_
  rintro e w1 ⟨rfl, hb1⟩
  have HB1 := Lib.hid hb1
  have hz1 : w.heap.size ≤ w1.heap.size := hb1.size
  clear hb1
  go_wp2
  clear hmk hfld
  go_loopw [7, 8, 16] (fun _ _ i wr => ∃ k : Nat, k ≤ n ∧ i = .int .i64 k ∧ Own wr w1.heap.size (.slice (some ⟨w1.heap.size, 0, none⟩) n n) (vPart n (fun j => M.times (l.getD j 0) g) k) ∧ Below w1.heap.size w1 wr) (fun _ _ i _ => n - (intOf i).toNat)
  case atStart => exact ⟨0, Nat.zero_le _, rfl, by rw [vPart_zero]; exact own_made w1 _ n (Nat.le_refl _) (by unfold maxLen; omega), b_alloc _ _⟩
  case round =>
    obtain ⟨k, hk, rfl, hO, hb⟩ := hrel
    have HO := Lib.hid hO
    have HB := Lib.hid hb
    clear hO hb
    by_cases hlt : k < n
    · have hki : (k : Int) < (n : Int) := by omega
      obtain ⟨b, off, x, rfl, -, hx, hc⟩ := ((HI.out.below HB1.out).below HB.out).at k hlt
      have hWx := HL.out k hlt
      rw [← hx] at hWx
      have HW := Lib.hid hWx
      obtain ⟨v, hst⟩ : ∃ v, wr.cell? ⟨w1.heap.size, k, none⟩ = some v := ⟨_, HO.out.cellAt k hlt⟩
      have hfz := HO.out.frozenAt k
      have HN : Hid (Own (wr.setCell ⟨w1.heap.size, k, none⟩ (.int .i64 (M.times x g))) w1.heap.size (.slice (some ⟨w1.heap.size, 0, none⟩) n n) (vPart n (fun j => M.times (l.getD j 0) g) (k + 1))) := by
        show Own _ _ _ _
        have := Own.set HO.out k (M.times x g)
        rw [hx, vPart_set n (fun j => M.times (l.getD j 0) g) k, ← hx] at this
        exact this
      clear hx hWx HO
      go_wp2_with (go_at_call 143; refine (clTimesW _ _ _ HW.out HG.out).mono ?_; rintro e w' ⟨rfl, rfl⟩)
      go_roundw
      case rel => exact ⟨k + 1, by omega, by go_num, HN.out, HB.out.setCell (Nat.le_refl _) _⟩
      case measure => simp [intOf]; omega
    · obtain rfl : k = n := by omega
      go_wp2
      go_ret
      exact ⟨_, rfl, by rw [HE.out, ← vPart_end]; exact HO.out.mono hz1, HB1.out.trans (HB.out.mono hz1)⟩
end Go.Proofs.Ytcofjjipjcekjaa.V

namespace Go.Proofs.Ytcofjjipjcekjaa
namespace V
set_option maxRecDepth 100000
open Go.RowKit
set_option maxRecDepth 100000 in
set_option maxHeartbeats 1000000 in
theorem isFiniteList (a : Option Addr) (n cap : Nat) (R : List (List Int)) (a' : Option Addr) (N cap' : Nat) (l : List Int) (b : Bool) (hb : M.finL n l = b) (n1 : 1 ≤ n) (n2 : n ≤ 10) (w : World) (h : Mat w a n R) (h' : Ints .i64 w a' N l) :
    Calls Try.prog 93 #[.slice a n cap, .slice a' N cap'] w fun e w' => e = .returned (.bool b) ∧ w = w' := by
  have HI := Lib.hid h'
  have HL := Lib.hid h'.1
  rw [M.finL_vec n1 n2] at hb
  by_cases hN : N = n
  · have hl : l.length = n := by rw [h'.1, hN]
    rw [decide_eq_true hl, Bool.true_and] at hb
    have hne : ((N : Int) == (n : Int)) = true := by simp; omega
    obtain ⟨c, hc⟩ : ∃ c, c = M.isVec l := ⟨_, rfl⟩
    rw [← hc] at hb
    have HC := Lib.hid hc.symm
    obtain ⟨d, hd⟩ : ∃ d, d = l.any fun v => decide (v = -1000000000000000) := ⟨_, rfl⟩
    have HD : Hid (d = true ↔ (-1000000000000000 : Int) ∈ l) := by
      show _ ↔ _
      rw [hd, List.any_eq_true]
      exact ⟨fun ⟨x, hx, e⟩ => by rw [decide_eq_true_eq] at e; rw [← e]; exact hx, fun h => ⟨_, h, by simp⟩⟩
    rw [← hd] at hb
    have HDm : Hid (d = true → (-1000000000000000 : Int) ∈ l) := fun h => HD.out.1 h
    have HDn : Hid (d = false → ¬ (-1000000000000000 : Int) ∈ l) := fun h h2 => by rw [HD.out.2 h2] at h; cases h
    clear h h' hc hd hl HD
    subst hN
    go_enter Try.func93, Try.ntmps93
    cases c with
    | false =>
      have HB : Hid (b = false) := by show _ = _; rw [← hb]; rfl
      clear hb
      go_wp2_with fail
      refine (isVector_b _ _ _ l _ false HC.out HI.out).mono ?_
      rintro e w' ⟨rfl, rfl⟩
      go_wp2
      go_ret
      exact ⟨retB HB.out.symm, rfl⟩
    | true =>
      have HB : Hid (b = !d) := by show _ = _; rw [← hb]; rfl
      clear hb
      cases d with
      | true =>
        go_wp2_with fail
        refine (isVector_b _ _ _ l _ true HC.out HI.out).mono ?_
        rintro e w' ⟨rfl, rfl⟩
        go_wp2_with fail
        refine (containsI _ _ _ l _ true _ HI.out ⟨fun _ => HDm.out (by first | rfl | trivial), fun _ => rfl⟩).mono ?_
        rintro e w' ⟨rfl, rfl⟩
        go_wp2
        go_ret
        exact ⟨retB HB.out.symm, rfl⟩
      | false =>
        go_wp2_with fail
        refine (isVector_b _ _ _ l _ true HC.out HI.out).mono ?_
        rintro e w' ⟨rfl, rfl⟩
        go_wp2_with fail
        refine (containsI _ _ _ l _ false _ HI.out ⟨fun h => (by cases h), fun h => absurd h (HDn.out (by first | rfl | trivial))⟩).mono ?_
        rintro e w' ⟨rfl, rfl⟩
        go_wp2
        go_ret
        exact ⟨retB HB.out.symm, rfl⟩
  · have hl : ¬ l.length = n := by rw [h'.1]; exact hN
    rw [decide_eq_false hl] at hb
    have HB : Hid (b = false) := by show _ = _; rw [← hb]; rfl
    have hne : ((N : Int) == (n : Int)) = false := by simp; omega
    have hne2 : ((N : Int) != (n : Int)) = true := by simp; omega
    have hne3 : (N == n) = false := by simpa using hN
    clear h h' hb hl
    go_enter Try.func93, Try.ntmps93
    go_wp2
    go_ret
    exact ⟨retB HB.out.symm, rfl⟩
theorem dual_row {w : World} {a : Option Addr} {n i : Nat} {R : List (List Int)} (h : Mat w a n R) (hi : i < n) : ∃ b off q c, a = some ⟨b, off, none⟩ ∧ w.cell? ⟨b, off + i, none⟩ = some (.slice q (R.getD i []).length c) ∧ Ints .i64 w q (R.getD i []).length (R.getD i []) := by
  rcases h.2.2 with h0 | ⟨b, off, rfl, -, hc⟩
  · omega
  · obtain ⟨q, c, h1, h2⟩ := hc i hi
    exact ⟨b, off, q, c, rfl, h1, h2⟩
set_option maxRecDepth 100000 in
set_option maxHeartbeats 2000000 in
theorem isDual (a : Option Addr) (n cap : Nat) (R : List (List Int)) (a' : Option Addr) (N cap' : Nat) (u : List Int) (a2 : Option Addr) (N2 cap2 : Nat) (v : List Int) (w : World) (h : Mat w a n R) (h' : Ints .i64 w a' N u) (h2 : Ints .i64 w a2 N2 v) :
    Calls Try.prog 50 #[.slice a n cap, .slice a' N cap', .slice a2 N2 cap2] w fun e w' => e = .returned (.bool (M.dualB R u v)) ∧ Below w.heap.size w w' := by
  have HA := Lib.hid h
  have HU := Lib.hid h'
  have HV := Lib.hid h2
  by_cases hs : M.sqB R = true
  · obtain ⟨r1, n1, n2, r4⟩ := sq_parts h hs
    have HS := Lib.hid hs
    have hRn : R.length = n := h.1
    have HRn := Lib.hid hRn
    obtain ⟨b1, hb1⟩ : ∃ b, b = M.finL n u := ⟨_, rfl⟩
    have HB1 := Lib.hid hb1.symm
    cases b1 with
    | false =>
      have HE : Hid (M.dualB R u v = false) := M.dual_u (by rw [hRn]; exact hb1.symm)
      clear h h' h2 hs hb1 r1 r4 hRn
      go_enter Try.func50, Try.ntmps50
      go_wp2_with fail
      refine (isSquare_b _ _ _ R _ true HS.out HA.out).mono ?_
      rintro e w' ⟨rfl, rfl⟩
      go_wp2_with fail
      refine (isFiniteList _ _ _ R _ _ _ u false HB1.out n1 n2 _ HA.out HU.out).mono ?_
      rintro e w' ⟨rfl, rfl⟩
      go_wp2
      go_ret
      exact ⟨retB HE.out.symm, Below.refl _ _⟩
    | true =>
      obtain ⟨b2, hb2⟩ : ∃ b, b = M.finL n v := ⟨_, rfl⟩
      have HB2 := Lib.hid hb2.symm
      cases b2 with
      | false =>
        have HE : Hid (M.dualB R u v = false) := M.dual_v (by rw [hRn]; exact hb2.symm)
        clear h h' h2 hs hb1 hb2 r1 r4 hRn
        go_enter Try.func50, Try.ntmps50
        go_wp2_with fail
        refine (isSquare_b _ _ _ R _ true HS.out HA.out).mono ?_
        rintro e w' ⟨rfl, rfl⟩
        go_wp2_with fail
        refine (isFiniteList _ _ _ R _ _ _ u true HB1.out n1 n2 _ HA.out HU.out).mono ?_
        rintro e w' ⟨rfl, rfl⟩
        go_wp2_with fail
        refine (isFiniteList _ _ _ R _ _ _ v false HB2.out n1 n2 _ HA.out HV.out).mono ?_
        rintro e w' ⟨rfl, rfl⟩
        go_wp2
        go_ret
        exact ⟨retB HE.out.symm, Below.refl _ _⟩
      | true =>
        obtain ⟨u1, u2⟩ := M.finL_t hb1.symm
        obtain ⟨v1, v2⟩ := M.finL_t hb2.symm
        have hNu : N = n := by rw [← h'.1, u1]
        have hNv : N2 = n := by rw [← h2.1, v1]
        subst hNu hNv
        have HRow : Hid (∀ i, i < N2 → M.atMostB (R.getD i []) (M.shvL v (u.getD i 0)) = M.rowB R u v i) := fun i hi => M.rowB_most hs (by rw [hRn]; exact hb2.symm) (by rw [hRn]; exact hb1.symm) (by rw [hRn]; exact hi)
        have HF : Hid (∀ i, i < N2 → M.rowB R u v i = false → M.dualB R u v = false) := fun i hi h => M.dual_r (by rw [hRn]; exact hi) h
        have HT : Hid ((∀ i, i < N2 → M.rowB R u v i = true) → M.dualB R u v = true) := fun h => M.dual_t hs (by rw [hRn]; exact hb1.symm) (by rw [hRn]; exact hb2.symm) (fun i hi => h i (by rw [← hRn]; exact hi))
        have HLen : Hid (∀ i, i < N2 → (R.getD i []).length = N2) := fun i hi => by
          obtain ⟨hm, hw⟩ := M.sqB_t hs
          rw [M.isMat_len hm (by rw [hRn]; exact hi), ← hw, hRn]
        have HWv : Hid (∀ k, k < N2 → Wid (v.getD k 0)) := fun k hk => by have := v2 k hk; unfold Wid; omega
        have HWu : Hid (∀ k, k < N2 → Wid (u.getD k 0)) := fun k hk => by have := u2 k hk; unfold Wid; omega
        clear h h' h2 hs hb1 hb2 r1 r4 hRn u1 u2 v1 v2
        go_enter Try.func50, Try.ntmps50
        go_wp2_with fail
        refine (isSquare_b _ _ _ R _ true HS.out HA.out).mono ?_
        rintro e w' ⟨rfl, rfl⟩
        go_wp2_with fail
        refine (isFiniteList _ _ _ R _ _ _ u true HB1.out n1 n2 _ HA.out HU.out).mono ?_
        rintro e w' ⟨rfl, rfl⟩
        go_wp2_with fail
        refine (isFiniteList _ _ _ R _ _ _ v true HB2.out n1 n2 _ HA.out HV.out).mono ?_
        rintro e w' ⟨rfl, rfl⟩
        go_wp2
        go_loopw [7, 8, 26] (fun _ _ i wr => ∃ k : Nat, k ≤ N2 ∧ i = .int .i64 k ∧ Hid (∀ i, i < k → M.rowB R u v i = true) ∧ Hid (Below w.heap.size w wr)) (fun _ _ i _ => N2 - (intOf i).toNat)
        case atStart => exact ⟨0, Nat.zero_le _, rfl, fun i hi => absurd hi (Nat.not_lt_zero i), Below.refl _ _⟩
        case round =>
          obtain ⟨k, hk, rfl, HK, HB⟩ := hrel
          by_cases hlt : k < N2
          · have hki : (k : Int) < (N2 : Int) := by omega
            obtain ⟨b, off, q, c, rfl, hc, hrow⟩ := dual_row (HA.out.below HB.out) hlt
            obtain ⟨b', off', x, rfl, -, hx, hcx⟩ := (HU.out.below HB.out).at k hlt
            obtain ⟨r, hr⟩ : ∃ r, r = R.getD k [] := ⟨_, rfl⟩
            have hlr := HLen.out k hlt
            have hbr := HRow.out k hlt
            rw [← hr] at hc hrow hlr hbr
            rw [hlr] at hc hrow
            have hwx := HWu.out k hlt
            rw [← hx] at hwx hbr
            have HX := Lib.hid hwx
            have HR1 := Lib.hid hrow
            have HBr := Lib.hid hbr
            have hN10 : N2 ≤ 1000 := by omega
            clear hr hlr hx hwx hrow hbr
            go_wp2_with fail
            refine (shiftedList _ _ _ v x _ (HV.out.below HB.out) hN10 HWv.out HX.out).mono ?_
            rintro e w1 ⟨b1, rfl, ho, hb⟩
            have HO1 := Lib.hid ho.ints'
            have HR2 := Lib.hid (HR1.out.below hb)
            have HB2 := Lib.hid (bnext HB.out hb)
            clear ho hb
            go_wp2_with fail
            refine (isAtMost _ _ _ r _ _ (M.shvL v x) _ HR2.out HO1.out hN10).mono ?_
            rintro e w' ⟨rfl, rfl⟩
            rw [HBr.out]
            obtain ⟨z, hz⟩ : ∃ z, z = M.rowB R u v k := ⟨_, rfl⟩
            rw [← hz]
            have HZ := Lib.hid hz.symm
            clear hz
            cases z with
            | false =>
              have HE := Lib.hid (HF.out k hlt HZ.out)
              go_wp2
              go_ret
              exact ⟨retB HE.out.symm, HB2.out⟩
            | true =>
              go_wp2
              go_roundw
              case rel => exact ⟨k + 1, by omega, by go_num, Lib.hid (fun i hi => (if e : i = k then e ▸ HZ.out else HK.out i (by omega))), HB2⟩
              case measure => simp [intOf]; omega
          · obtain rfl : k = N2 := by omega
            have HE := Lib.hid (HT.out HK.out)
            go_wp2
            go_ret
            exact ⟨retB HE.out.symm, HB.out⟩
  · simp only [Bool.not_eq_true] at hs
    have HS := Lib.hid hs
    have HE : Hid (M.dualB R u v = false) := M.dual_s hs
    clear h h' h2 hs
    go_enter Try.func50, Try.ntmps50
    go_wp2_with (go_at_call 53; refine (isSquare_b _ _ _ R _ false HS.out HA.out).mono ?_; rintro e w' ⟨rfl, rfl⟩)
    go_ret
    exact ⟨retB HE.out.symm, Below.refl _ _⟩
theorem dual_two {w : World} {a : Option Addr} {n i j : Nat} {R : List (List Int)} (h : Mat w a n R) (hi : i < n) (hj : j < n) (hl : (R.getD i []).length = n) : ∃ b off q o c x, a = some ⟨b, off, none⟩ ∧ w.cell? ⟨b, off + i, none⟩ = some (.slice (some ⟨q, o, none⟩) n c) ∧ x = M.ent R i j ∧ w.cell? ⟨q, o + j, none⟩ = some (.int .i64 x) := by
  obtain ⟨b, off, q, c, rfl, hc, hr⟩ := dual_row h hi
  rw [hl] at hc hr
  obtain ⟨b', off', x, rfl, -, hx, hcx⟩ := hr.at j hj
  exact ⟨b, off, b', off', c, x, rfl, hc, hx, hcx⟩
set_option maxRecDepth 100000 in
set_option maxHeartbeats 4000000 in
theorem sIsDual (a : Option Addr) (n cap : Nat) (R : List (List Int)) (a' : Option Addr) (N cap' : Nat) (u : List Int) (a2 : Option Addr) (N2 cap2 : Nat) (v : List Int) (w : World) (h : Mat w a n R) (h' : Ints .i64 w a' N u) (h2 : Ints .i64 w a2 N2 v) :
    Calls Try.prog 49 #[.slice a n cap, .slice a' N cap', .slice a2 N2 cap2] w fun e w' => e = .returned (.bool (M.dualB R u v)) ∧ Below w.heap.size w w' := by
  have HA := Lib.hid h
  have HU := Lib.hid h'
  have HV := Lib.hid h2
  by_cases hs : M.sqB R = true
  · obtain ⟨r1, n1, n2, r4⟩ := sq_parts h hs
    have HS := Lib.hid hs
    have hRn : R.length = n := h.1
    have HRn := Lib.hid hRn
    by_cases hNu : N = n
    · subst hNu
      by_cases hNv : N2 = N
      · subst hNv
        obtain ⟨b1, hb1⟩ : ∃ b, b = u.all M.isFin := ⟨_, rfl⟩
        have HB1 := Lib.hid hb1.symm
        cases b1 with
        | false =>
          have HE : Hid (M.dualB R u v = false) := M.dual_u (by unfold M.finL; rw [← hb1]; simp)
          clear h h' h2 hs hb1 r1 r4 hRn
          go_enter Try.func49, Try.ntmps49
          go_wp2_with fail
          refine (sSquare_b _ _ _ R _ true HS.out HA.out).mono ?_
          rintro e w' ⟨rfl, qd, rfl⟩
          go_wp2_with fail
          refine (sAllF_b _ _ _ u false HB1.out _ (HU.out.below (b_draws w qd))).mono ?_
          rintro e w' ⟨rfl, rfl⟩
          go_wp2
          go_ret
          exact ⟨retB HE.out.symm, b_draws w qd⟩
        | true =>
          obtain ⟨b2, hb2⟩ : ∃ b, b = v.all M.isFin := ⟨_, rfl⟩
          have HB2 := Lib.hid hb2.symm
          cases b2 with
          | false =>
            have HE : Hid (M.dualB R u v = false) := M.dual_v (by unfold M.finL; rw [← hb2]; simp)
            clear h h' h2 hs hb1 hb2 r1 r4 hRn
            go_enter Try.func49, Try.ntmps49
            go_wp2_with fail
            refine (sSquare_b _ _ _ R _ true HS.out HA.out).mono ?_
            rintro e w' ⟨rfl, qd, rfl⟩
            go_wp2_with fail
            refine (sAllF_b _ _ _ u true HB1.out _ (HU.out.below (b_draws w qd))).mono ?_
            rintro e w' ⟨rfl, rfl⟩
            go_wp2_with fail
            refine (sAllF_b _ _ _ v false HB2.out _ (HV.out.below (b_draws w qd))).mono ?_
            rintro e w' ⟨rfl, rfl⟩
            go_wp2
            go_ret
            exact ⟨retB HE.out.symm, b_draws w qd⟩
          | true =>
            have hfu : M.finL R.length u = true := by unfold M.finL; rw [← hb1, h'.1, hRn]; simp
            have hfv : M.finL R.length v = true := by unfold M.finL; rw [← hb2, h2.1, hRn]; simp
            obtain ⟨-, u2⟩ := M.finL_t hfu
            obtain ⟨-, v2⟩ := M.finL_t hfv
            rw [hRn] at u2 v2
            have HF : Hid (∀ i, i < N2 → M.rowB R u v i = false → M.dualB R u v = false) := fun i hi h => M.dual_r (by rw [hRn]; exact hi) h
            have HT : Hid ((∀ i, i < N2 → M.rowB R u v i = true) → M.dualB R u v = true) := fun h => M.dual_t hs hfu hfv (fun i hi => h i (by rw [← hRn]; exact hi))
            have HRf : Hid (∀ i j, j < N2 → ¬ M.ent R i j = -1000000000000000 → u.getD i 0 + v.getD j 0 < M.ent R i j → M.rowB R u v i = false) := fun i j hj q1 q2 => M.rowB_f (by rw [hRn]; exact hj) q1 q2
            have HRt : Hid (∀ i, (∀ j, j < N2 → M.ent R i j = -1000000000000000 ∨ M.ent R i j ≤ u.getD i 0 + v.getD j 0) → M.rowB R u v i = true) := fun i q => M.rowB_t (fun j hj => q j (by rw [← hRn]; exact hj))
            have HLen : Hid (∀ i, i < N2 → (R.getD i []).length = N2) := fun i hi => by
              obtain ⟨hm, hw⟩ := M.sqB_t hs
              rw [M.isMat_len hm (by rw [hRn]; exact hi), ← hw, hRn]
            have HFu := Lib.hid u2
            have HFv := Lib.hid v2
            have HSm := Lib.hid r4
            clear h h' h2 hs hb1 hb2 r1 r4 hRn u2 v2 hfu hfv
            go_enter Try.func49, Try.ntmps49
            go_wp2_with fail
            refine (sSquare_b _ _ _ R _ true HS.out HA.out).mono ?_
            rintro e w' ⟨rfl, qd, rfl⟩
            go_wp2_with fail
            refine (sAllF_b _ _ _ u true HB1.out _ (HU.out.below (b_draws w qd))).mono ?_
            rintro e w' ⟨rfl, rfl⟩
            go_wp2_with fail
            refine (sAllF_b _ _ _ v true HB2.out _ (HV.out.below (b_draws w qd))).mono ?_
            rintro e w' ⟨rfl, rfl⟩
            go_wp2
            go_loopw [7] (fun i wr => ∃ s : Nat, s ≤ N2 ∧ i = .int .i64 s ∧ Hid (∀ i, i < s → M.rowB R u v i = true) ∧ ∃ qd, wr = w.drewN qd) (fun i _ => N2 - (intOf i).toNat)
            case atStart => exact ⟨0, Nat.zero_le _, rfl, fun i hi => absurd hi (Nat.not_lt_zero i), _, rfl⟩
            case round =>
              obtain ⟨s, hs, rfl, HK, qd, rfl⟩ := hrel
              by_cases hsl : s < N2
              · have hsi : (s : Int) < (N2 : Int) := by omega
                go_wp2
                go_loopw [8] (fun j wr => ∃ t : Nat, t ≤ N2 ∧ j = .int .i64 t ∧ Hid (∀ j, j < t → M.ent R s j = -1000000000000000 ∨ M.ent R s j ≤ u.getD s 0 + v.getD j 0) ∧ ∃ qd, wr = w.drewN qd) (fun j _ => N2 - (intOf j).toNat)
                case atStart => exact ⟨0, Nat.zero_le _, rfl, fun i hi => absurd hi (Nat.not_lt_zero i), _, rfl⟩
                case round =>
                  obtain ⟨t, ht, rfl, HJ, qe, rfl⟩ := hrel
                  by_cases htl : t < N2
                  · have hti : (t : Int) < (N2 : Int) := by omega
                    obtain ⟨gb, go, q, o, c, z, rfl, h1, hz, h2⟩ := dual_two HA.out hsl htl (HLen.out s hsl)
                    obtain ⟨d1, d2, x, rfl, -, hx, cx⟩ := HU.out.at s hsl
                    obtain ⟨d3, d4, y, rfl, -, hy, cy⟩ := HV.out.at t htl
                    have hfx := HFu.out s hsl
                    have hfy := HFv.out t htl
                    rw [← hx] at hfx
                    rw [← hy] at hfy
                    have hzs := HSm.out s t hsl htl
                    rw [← hz] at hzs
                    unfold M.Sm at hzs
                    have HX := Lib.hid hx
                    have HY := Lib.hid hy
                    have HZ := Lib.hid hz
                    clear hx hy hz
                    have e1 : IntKind.i64.wrap (x + y) = x + y := IntWalk.i64_in _ (by omega)
                    by_cases hzb : z = -1000000000000000
                    · have HJ2 : Hid (∀ j, j < t + 1 → M.ent R s j = -1000000000000000 ∨ M.ent R s j ≤ u.getD s 0 + v.getD j 0) := fun j hj => by
                        by_cases e : j = t
                        · subst e; left; rw [← HZ.out, hzb]
                        · exact HJ.out j (by omega)
                      subst hzb
                      go_wp2
                      go_quiet (fail)
                      go_wp2
                      go_roundw
                      case rel => exact ⟨t + 1, by omega, by go_num, HJ2, _, by first | rfl | exact World.drewN_drewN _ _ _⟩
                      case measure => simp [intOf]; omega
                    · have hzn : (z != -1000000000000000) = true := by simpa using hzb
                      have hzn2 : (z == -1000000000000000) = false := by simpa using hzb
                      by_cases hgt : x + y < z
                      · have HE := Lib.hid (HF.out s hsl (HRf.out s t htl (by rw [← HZ.out]; exact hzb) (by rw [← HX.out, ← HY.out, ← HZ.out]; exact hgt)))
                        go_wp2
                        go_quiet (fail)
                        go_wp2
                        go_ret
                        exact ⟨retB HE.out.symm, by first | exact b_draws w _ | exact below_drewN (b_draws w _) _⟩
                      · have hgt2 : z ≤ x + y := by omega
                        have HJ2 : Hid (∀ j, j < t + 1 → M.ent R s j = -1000000000000000 ∨ M.ent R s j ≤ u.getD s 0 + v.getD j 0) := fun j hj => by
                          by_cases e : j = t
                          · subst e; right; rw [← HZ.out, ← HX.out, ← HY.out]; exact hgt2
                          · exact HJ.out j (by omega)
                        go_wp2
                        go_quiet (fail)
                        go_wp2
                        go_roundw
                        case rel => exact ⟨t + 1, by omega, by go_num, HJ2, _, by first | rfl | exact World.drewN_drewN _ _ _⟩
                        case measure => simp [intOf]; omega
                  · obtain rfl : t = N2 := by omega
                    have HK2 : Hid (∀ i, i < s + 1 → M.rowB R u v i = true) := fun i hi => by
                      by_cases e : i = s
                      · subst e; exact HRt.out i HJ.out
                      · exact HK.out i (by omega)
                    go_wp2
                    go_roundw
                    case rel => exact ⟨s + 1, by omega, by go_num, HK2, _, rfl⟩
                    case measure => simp [intOf]; omega
              · obtain rfl : s = N2 := by omega
                have HE := Lib.hid (HT.out HK.out)
                go_wp2
                go_ret
                exact ⟨retB HE.out.symm, b_draws w _⟩
      · have HE : Hid (M.dualB R u v = false) := M.dual_v (by unfold M.finL; rw [decide_eq_false (by rw [h2.1, hRn]; exact hNv)]; rfl)
        have hne : ((N2 : Int) != (N : Int)) = true := by simp; omega
        have hne2 : ((N2 : Int) == (N : Int)) = false := by simp; omega
        have hne3 : (N2 == N) = false := by simpa using hNv
        clear h h' h2 hs r1 r4 hRn
        go_enter Try.func49, Try.ntmps49
        go_wp2_with fail
        refine (sSquare_b _ _ _ R _ true HS.out HA.out).mono ?_
        rintro e w' ⟨rfl, qd, rfl⟩
        go_wp2
        go_ret
        exact ⟨retB HE.out.symm, b_draws w qd⟩
    · have HE : Hid (M.dualB R u v = false) := M.dual_u (by unfold M.finL; rw [decide_eq_false (by rw [h'.1, hRn]; exact hNu)]; rfl)
      have hne : ((N : Int) != (n : Int)) = true := by simp; omega
      have hne2 : ((N : Int) == (n : Int)) = false := by simp; omega
      have hne3 : (N == n) = false := by simpa using hNu
      clear h h' h2 hs r1 r4 hRn
      go_enter Try.func49, Try.ntmps49
      go_wp2_with fail
      refine (sSquare_b _ _ _ R _ true HS.out HA.out).mono ?_
      rintro e w' ⟨rfl, qd, rfl⟩
      go_wp2
      go_ret
      exact ⟨retB HE.out.symm, b_draws w qd⟩
  · simp only [Bool.not_eq_true] at hs
    have HS := Lib.hid hs
    have HE : Hid (M.dualB R u v = false) := M.dual_s hs
    clear h h' h2 hs
    go_enter Try.func49, Try.ntmps49
    go_wp2_with fail
    refine (sSquare_b _ _ _ R _ false HS.out HA.out).mono ?_
    rintro e w' ⟨rfl, qd, rfl⟩
    go_wp2
    go_ret
    exact ⟨retB HE.out.symm, b_draws w qd⟩
end V
end Go.Proofs.Ytcofjjipjcekjaa
