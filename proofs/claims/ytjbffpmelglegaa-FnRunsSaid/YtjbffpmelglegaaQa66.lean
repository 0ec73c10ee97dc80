/- Texts laid together: Frw. -/
import Derived.Test.YtjbffpmelglegaaQa65
set_option linter.unusedSimpArgs false
set_option linter.unusedVariables false
set_option linter.unusedSectionVars false
namespace Go.Proofs.Ytjbffpmelglegaa
namespace M
def okF (N : Nat) (pl : List (Int × Int × Int × Int)) (l : List Fr) : Bool := decide (l.length ≤ 500) && runK N pl l l.length
def rcF (gr : Bool) (N : Nat) (pl : List (Int × Int × Int × Int)) (l : List Fr) : Int := if gr then (if okF N pl l then 0 else 2) else 1
def mrkF (gr : Bool) (N : Nat) (pl : List (Int × Int × Int × Int)) (l : List Fr) : List Int × Int := if rcF gr N pl l = 0 then (pl.map (tokF l), 0) else ([], rcF gr N pl l)
def enL (pl : List (Int × Int × Int × Int)) (l : List Fr) : Nat → List Int
  | 0 => []
  | k + 1 => if enB pl l k then enL pl l k ++ [(k : Int)] else enL pl l k
def nxtF (gr : Bool) (N : Nat) (pl : List (Int × Int × Int × Int)) (l : List Fr) : List Int × Int := if rcF gr N pl l = 0 then (enL pl l N, 0) else ([], rcF gr N pl l)
/-- The firings so far at their earliest times. -/
def eaT (pl : List (Int × Int × Int × Int)) (E : List Fr) (f : Fr) : Int := rd (hisF E) (cntF E f.1 + 1) f.1.toNat pl 0
def eaL (pl : List (Int × Int × Int × Int)) (l : List Fr) : Nat → List Fr
  | 0 => []
  | k + 1 => eaL pl l k ++ [((l.getD k fz).1, (l.getD k fz).2.1, eaT pl (eaL pl l k) (l.getD k fz))]
def latK (pl : List (Int × Int × Int × Int)) (l : List Fr) : Nat → List Int
  | 0 => []
  | k + 1 => latK pl l k ++ [(l.getD k fz).2.2 - eaT pl (eaL pl l k) (l.getD k fz)]
def fewB (l : List Fr) : Bool := l.all fun f => decide (f.2.1 ≤ 50)
def latF (gr : Bool) (N : Nat) (pl : List (Int × Int × Int × Int)) (l : List Fr) : List Int × Int := if rcF gr N pl l = 0 then (if fewB l then (latK pl l l.length, 0) else ([], 2)) else ([], rcF gr N pl l)
theorem enL_len (pl : List (Int × Int × Int × Int)) (l : List Fr) (k : Nat) : (enL pl l k).length ≤ k := by
  induction k with
  | zero => simp [enL]
  | succ k ih =>
    unfold enL
    split
    · rw [List.length_append]; simp; omega
    · omega
theorem latK_len (pl : List (Int × Int × Int × Int)) (l : List Fr) (k : Nat) : (latK pl l k).length = k := by
  induction k with
  | zero => rfl
  | succ k ih => show (latK pl l k ++ [_]).length = _; rw [List.length_append, ih]; rfl
theorem eaL_len (pl : List (Int × Int × Int × Int)) (l : List Fr) (k : Nat) : (eaL pl l k).length = k := by
  induction k with
  | zero => rfl
  | succ k ih => show (eaL pl l k ++ [_]).length = _; rw [List.length_append, ih]; rfl
theorem eaL_cnt (pl : List (Int × Int × Int × Int)) {l : List Fr} {k : Nat} (hk : k ≤ l.length) (e : Int) : cntF (eaL pl l k) e = cntF (l.take k) e := by
  induction k with
  | zero => rfl
  | succ k ih =>
    rw [takeF_snoc l fz (by omega), cntF_app]
    unfold eaL
    rw [cntF_app, ih (by omega)]
theorem eaL_get (pl : List (Int × Int × Int × Int)) (l : List Fr) {k i : Nat} (hi : i < k) : (eaL pl l k).getD i fz = ((l.getD i fz).1, (l.getD i fz).2.1, eaT pl (eaL pl l i) (l.getD i fz)) := by
  induction k with
  | zero => omega
  | succ k ih =>
    show (eaL pl l k ++ [_]).getD i fz = _
    by_cases h : i < k
    · rw [List.getD_eq_getElem?_getD, List.getElem?_append_left (by rw [eaL_len]; exact h), ← List.getD_eq_getElem?_getD, ih h]
    · obtain rfl : i = k := by omega
      rw [List.getD_eq_getElem?_getD, List.getElem?_append_right (by rw [eaL_len]; exact Nat.le_refl _), eaL_len]
      simp
theorem rd_mono {F G : Nat → Nat → Int} {k e : Nat} {q : List (Int × Int × Int × Int)} (h : ∀ r x, F r x ≤ G r x) {a b : Int} (hab : a ≤ b) : rd F k e q a ≤ rd G k e q b := by
  unfold rd
  induction q generalizing a b with
  | nil => exact hab
  | cons p q ih =>
    show List.foldl _ (rdS F k e a p) q ≤ List.foldl _ (rdS G k e b p) q
    refine ih ?_
    unfold rdS
    have := h (k - p.2.2.2.toNat) p.1.toNat
    split <;> omega
theorem enB_cnt {pl : List (Int × Int × Int × Int)} {a b : List Fr} (h : ∀ e, cntF a e = cntF b e) (e : Int) : enB pl a e = enB pl b e := by
  unfold enB tokF
  simp only [h]
theorem snocF_getD (l : List Int) (x : Int) (j : Nat) : (l ++ [x]).getD j 0 = if j < l.length then l.getD j 0 else if j = l.length then x else 0 := by
  by_cases h : j < l.length
  · rw [if_pos h, List.getD_eq_getElem?_getD, List.getD_eq_getElem?_getD, List.getElem?_append_left h]
  · rw [if_neg h, List.getD_eq_getElem?_getD, List.getElem?_append_right (by omega)]
    by_cases h2 : j = l.length
    · rw [if_pos h2, h2]; simp
    · rw [if_neg h2]
      obtain ⟨m, hm⟩ : ∃ m, j - l.length = m + 1 := ⟨j - l.length - 1, by omega⟩
      rw [hm]; rfl
theorem ea_le {N : Nat} {pl : List (Int × Int × Int × Int)} {l : List Fr} {k : Nat} (hk : k ≤ l.length) (h : runK N pl l k = true) (hpl : ∀ p ∈ pl, 0 ≤ p.2.2.2) : ∀ (e : Int) (j : Nat), (hsF (eaL pl l k) e).getD j 0 ≤ (hsF (l.take k) e).getD j 0 := by
  induction k with
  | zero => intro e j; exact Int.le_refl _
  | succ k ih =>
    have h' := h
    unfold runK at h
    rw [Bool.and_eq_true] at h
    have ih := ih (by omega) h.1
    have hv := runK_vld hpl (by omega) h.1
    obtain ⟨-, -, -, c4, -⟩ := canB_iff.1 h.2
    intro e j
    rw [takeF_snoc l fz (by omega), hsF_app]
    unfold eaL
    rw [hsF_app]
    by_cases he : (l.getD k fz).1 = e
    · rw [if_pos he, if_pos he]
      have hl : (hsF (eaL pl l k) e).length = (hsF (l.take k) e).length := by rw [hsF_len, hsF_len, eaL_cnt pl (by omega)]
      rw [snocF_getD, snocF_getD, hl]
      by_cases hj : j < (hsF (l.take k) e).length
      · rw [if_pos hj, if_pos hj]; exact ih e j
      · rw [if_neg hj, if_neg hj]
        by_cases h0 : j = (hsF (l.take k) e).length
        · rw [if_pos h0, if_pos h0]
          show eaT _ _ _ ≤ (l.getD k fz).2.2
          refine Int.le_trans ?_ c4
          unfold eaT
          rw [eaL_cnt pl (by omega)]
          exact rd_mono (fun r x => ih x (r - 1)) hv.last0.1
        · rw [if_neg h0, if_neg h0]; exact Int.le_refl _
    · rw [if_neg he, if_neg he]; exact ih e j
theorem rd_ge0 {F : Nat → Nat → Int} {k e : Nat} {q : List (Int × Int × Int × Int)} {a : Int} (h : 0 ≤ a) : 0 ≤ rd F k e q a := Int.le_trans h (rd_ge _ _ _ _ _)
theorem ea_vld {N : Nat} {pl : List (Int × Int × Int × Int)} {l : List Fr} {k : Nat} (hk : k ≤ l.length) (h : runK N pl l k = true) (hpl : ∀ p ∈ pl, 0 ≤ p.2.2.2) : Vld N pl (eaL pl l k) 1000000 := by
  induction k with
  | zero => exact { vld_nil N hpl with last0 := ⟨by decide, Int.le_refl _⟩, time := fun e t ht => by simp [eaL, hsF] at ht }
  | succ k ih =>
    have hk' := h
    have h' := h
    unfold runK at h
    rw [Bool.and_eq_true] at h
    have ih := ih (by omega) h.1
    have hv := runK_vld hpl (by omega) h.1
    have hc := canB_iff.1 h.2
    obtain ⟨c1, c2, c3, c4, c5⟩ := hc
    have hle : eaT pl (eaL pl l k) (l.getD k fz) ≤ (l.getD k fz).2.2 := by
      refine Int.le_trans ?_ c4
      unfold eaT
      rw [eaL_cnt pl (by omega)]
      exact rd_mono (fun r x => ea_le (by omega) h.1 hpl x (r - 1)) hv.last0.1
    have h0 : 0 ≤ eaT pl (eaL pl l k) (l.getD k fz) := rd_ge0 (Int.le_refl _)
    have ce := fun e => eaL_cnt pl (l := l) (k := k) (by omega) e
    unfold eaL
    exact ih.stepG (by rw [ce]; exact c2) (by rw [enB_cnt ce]; exact c3) (Int.le_refl _) (Int.le_refl _) ⟨h0, by have : (l.getD k fz).2.2 ≤ 1000000 := c5; exact Int.le_trans hle this⟩
end M
end Go.Proofs.Ytjbffpmelglegaa
