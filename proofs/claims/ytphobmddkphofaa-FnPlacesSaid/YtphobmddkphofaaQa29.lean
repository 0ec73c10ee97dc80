/- Texts laid together: Dgi. -/
import Derived.Test.YtphobmddkphofaaQa4
set_option linter.unusedSimpArgs false
set_option linter.unusedVariables false
set_option linter.unusedSectionVars false
namespace Go.Proofs.Ytphobmddkphofaa
namespace M
/-- The numbers of places at the first events, together. -/
def evS (f : Pc → Int) (l : List Pc) (k : Nat) : Nat → Nat
  | 0 => 0
  | e + 1 => evS f l k e + (plcL f l (e : Int) k).length
theorem evS_next (f : Pc → Int) (l : List Pc) (k x : Nat) : evS f l (k + 1) x = evS f l k x + if 0 ≤ f (l.getD k pz) ∧ f (l.getD k pz) < (x : Int) then 1 else 0 := by
  induction x with
  | zero =>
    rw [if_neg (by intro h; have h1 := h.1; have h2 := h.2; omega)]
    rfl
  | succ x ih =>
    show evS f l (k + 1) x + (plcL f l (x : Int) (k + 1)).length = evS f l k x + (plcL f l (x : Int) k).length + _
    rw [ih, plcL_next]
    by_cases h : f (l.getD k pz) = (x : Int)
    · rw [if_pos h, if_neg (by omega), if_pos (by omega)]
      simp
      omega
    · rw [if_neg h]
      by_cases h2 : 0 ≤ f (l.getD k pz) ∧ f (l.getD k pz) < (x : Int)
      · rw [if_pos h2, if_pos (by omega)]
        omega
      · rw [if_neg h2, if_neg (by omega)]
        omega
theorem evS_all (f : Pc → Int) (l : List Pc) (x : Nat) : ∀ k, (∀ i, i < k → 0 ≤ f (l.getD i pz) ∧ f (l.getD i pz) < (x : Int)) → evS f l k x = k := by
  intro k
  induction k with
  | zero =>
    intro _
    induction x with
    | zero => rfl
    | succ x ih =>
      show evS f l 0 x + (plcL f l (x : Int) 0).length = 0
      rw [ih (fun i hi => by omega)]
      rfl
  | succ k ih =>
    intro h
    rw [evS_next, ih (fun i hi => h i (by omega)), if_pos (h k (by omega))]
/-- Every place leads from one event to one event. -/
theorem evS_gr {x : Nat} {l : List Pc} (h : isGr (x : Int) l = true) : evS pTo l l.length x + evS pFrom l l.length x = 2 * l.length := by
  unfold isGr at h
  simp only [Bool.and_eq_true] at h
  have hb := fun i (hi : i < l.length) => all_at h.2.2 hi
  have hin : ∀ i, i < l.length → (0 ≤ pTo (l.getD i pz) ∧ pTo (l.getD i pz) < (x : Int)) ∧ (0 ≤ pFrom (l.getD i pz) ∧ pFrom (l.getD i pz) < (x : Int)) := by
    intro i hi
    have := hb i hi
    unfold plW inB at this
    simp only [Bool.and_eq_true, decide_eq_true_iff] at this
    obtain ⟨⟨a1, a2⟩, ⟨b1, b2⟩, -⟩ := this
    exact ⟨⟨b1, by show (l.getD i pz).2.1 < _; omega⟩, ⟨a1, by show (l.getD i pz).1 < _; omega⟩⟩
  rw [evS_all _ _ _ _ fun i hi => (hin i hi).1, evS_all _ _ _ _ fun i hi => (hin i hi).2]
  omega
/-- A place that is changed back is as it was. -/
theorem chg_back {e : Int} {l : List Pc} {i d t : Int} (h : (chgRes e l i d t).2.2 = 0) :
    0 ≤ i ∧ i.toNat < l.length ∧ chgRes (chgRes e l i d t).1 (chgRes e l i d t).2.1 i (l.getD i.toNat pz).2.2.1 (l.getD i.toNat pz).2.2.2 = (e, l, 0) := by
  cases hg : isGr e l with
  | false => simp [chgRes, hg] at h
  | true =>
    cases hc : (inB i 0 ((l.length : Int) - 1) && (inB d 0 1000 && inB t 0 5)) with
    | false => simp [chgRes, hg, hc] at h
    | true =>
      have hr : chgRes e l i d t = (e, l.set i.toNat (chgP (l.getD i.toNat pz) d t), 0) := by simp [chgRes, hg, hc]
      rw [hr]
      clear h hr
      simp only [Bool.and_eq_true] at hc
      obtain ⟨hi, hd, ht⟩ := hc
      have hi2 := hi
      unfold inB at hi2
      simp only [Bool.and_eq_true, decide_eq_true_iff] at hi2
      have hlt : i.toNat < l.length := by omega
      have hg2 := hg
      unfold isGr at hg2
      simp only [Bool.and_eq_true] at hg2
      have hp := all_at hg2.2.2 hlt
      have hp2 := hp
      unfold plW at hp2
      simp only [Bool.and_eq_true] at hp2
      have hgn : isGr e (l.set i.toNat (chgP (l.getD i.toNat pz) d t)) = true := by
        unfold isGr
        simp only [Bool.and_eq_true]
        refine ⟨hg2.1, by simpa using hg2.2.1, all_of fun j hj => ?_⟩
        have hj2 : j < l.length := by simpa using hj
        by_cases hji : j = i.toNat
        · subst hji
          rw [List.getD_eq_getElem?_getD, List.getElem?_set_self hlt]
          show plW (e - 1) (chgP (l.getD i.toNat pz) d t) = true
          unfold plW chgP
          simp only [Bool.and_eq_true]
          exact ⟨hp2.1, hp2.2.1, hd, ht⟩
        · rw [List.getD_eq_getElem?_getD, List.getElem?_set_ne (by omega), ← List.getD_eq_getElem?_getD]
          exact all_at hg2.2.2 hj2
      refine ⟨by omega, hlt, ?_⟩
      unfold chgRes
      have hset : (l.set i.toNat (chgP (l.getD i.toNat pz) d t)).getD i.toNat pz = chgP (l.getD i.toNat pz) d t := by
        rw [List.getD_eq_getElem?_getD, List.getElem?_set_self hlt]; rfl
      have hl2 : (l.set i.toNat (chgP (l.getD i.toNat pz) d t)).length = l.length := by simp
      rw [if_pos hgn, hl2, if_pos (by simp only [Bool.and_eq_true]; exact ⟨hi, hp2.2.2.1, hp2.2.2.2⟩), hset, List.set_set]
      have hpe : chgP (chgP (l.getD i.toNat pz) d t) (l.getD i.toNat pz).2.2.1 (l.getD i.toNat pz).2.2.2 = l[i.toNat] := by
        rw [List.getD_eq_getElem?_getD, List.getElem?_eq_getElem hlt]; rfl
      rw [hpe, List.set_getElem_self]
end M
end Go.Proofs.Ytphobmddkphofaa
