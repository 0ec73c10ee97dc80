/- Texts laid together: Frv. -/
import Derived.Test.YtjbffpmelglegaaQa64
set_option linter.unusedSimpArgs false
set_option linter.unusedVariables false
set_option linter.unusedSectionVars false
namespace Go.Proofs.Ytjbffpmelglegaa
namespace M
/-- The time that the history tells. -/
def hisF (pre : List Fr) (r x : Nat) : Int := (hsF pre x).getD (r - 1) 0
def tokF (pre : List Fr) (p : Int × Int × Int × Int) : Int := p.2.2.2 + (cntF pre p.1 : Int) - (cntF pre p.2.1 : Int)
def enB (pl : List (Int × Int × Int × Int)) (pre : List Fr) (e : Int) : Bool := !(pl.any fun p => decide (p.2.1 = e) && decide (tokF pre p = 0))
def canB (N : Nat) (pl : List (Int × Int × Int × Int)) (pre : List Fr) (last : Int) (f : Fr) : Bool :=
  decide (0 ≤ f.1 ∧ f.1 < N) && decide (f.2.1 = (cntF pre f.1 : Int) + 1) && enB pl pre f.1 && decide (rd (hisF pre) (cntF pre f.1 + 1) f.1.toNat pl last ≤ f.2.2 ∧ f.2.2 ≤ 1000000)
def lastF (l : List Fr) (k : Nat) : Int := if k = 0 then 0 else (l.getD (k - 1) fz).2.2
def runK (N : Nat) (pl : List (Int × Int × Int × Int)) (l : List Fr) : Nat → Bool
  | 0 => true
  | k + 1 => runK N pl l k && canB N pl (l.take k) (lastF l k) (l.getD k fz)
/-- What the model's readiness says. -/
def rdyS (pre : List Fr) (k : Int) (acc : Option Int) (p : Int × Int × Int × Int) (e : Int) : Option Int :=
  match acc with
  | none => none
  | some t => if p.2.1 = e ∧ p.2.2.2 < k then (match findF pre p.1 (k - p.2.2.2) with | none => none | some u => some (max t (u + p.2.2.1))) else some t
def rdyM (pl : List (Int × Int × Int × Int)) (pre : List Fr) (e : Int) : Option Int := pl.foldl (fun acc p => rdyS pre ((cntF pre e : Int) + 1) acc p e) (some 0)
/-- The state of a run that has been possible so far. -/
structure Vld (N : Nat) (pl : List (Int × Int × Int × Int)) (pre : List Fr) (last : Int) : Prop where
  find : ∀ (e : Int) (m : Nat), findF pre e m = if 1 ≤ m ∧ m ≤ cntF pre e then some ((hsF pre e).getD (m - 1) 0) else none
  tok : ∀ p ∈ pl, 0 ≤ tokF pre p
  last0 : 0 ≤ last ∧ last ≤ 1000000
  time : ∀ (e : Int) (t : Int), t ∈ hsF pre e → 0 ≤ t ∧ t ≤ last
theorem vld_nil (N : Nat) {pl : List (Int × Int × Int × Int)} (h : ∀ p ∈ pl, 0 ≤ p.2.2.2) : Vld N pl [] 0 where
  find e m := by
    rw [if_neg (by simp [cntF]; omega)]
    rfl
  tok p hp := by have := h p hp; simp [tokF, cntF]; exact this
  last0 := ⟨Int.le_refl _, by decide⟩
  time e t ht := by simp [hsF] at ht
theorem canB_iff {N : Nat} {pl : List (Int × Int × Int × Int)} {pre : List Fr} {last : Int} {f : Fr} : canB N pl pre last f = true ↔ (0 ≤ f.1 ∧ f.1 < N) ∧ f.2.1 = (cntF pre f.1 : Int) + 1 ∧ enB pl pre f.1 = true ∧ rd (hisF pre) (cntF pre f.1 + 1) f.1.toNat pl last ≤ f.2.2 ∧ f.2.2 ≤ 1000000 := by
  unfold canB
  simp only [Bool.and_eq_true, decide_eq_true_iff, and_assoc]
theorem enB_iff {pl : List (Int × Int × Int × Int)} {pre : List Fr} {e : Int} : enB pl pre e = true ↔ ∀ p ∈ pl, p.2.1 = e → tokF pre p ≠ 0 := by
  unfold enB
  rw [Bool.not_eq_true', ← Bool.not_eq_true, List.any_eq_true]
  constructor
  · intro h p hp he ht
    exact h ⟨p, hp, by simp [he, ht]⟩
  · rintro h ⟨p, hp, q⟩
    simp only [Bool.and_eq_true, decide_eq_true_iff] at q
    exact h p hp q.1 q.2
theorem Vld.stepG {N : Nat} {pl : List (Int × Int × Int × Int)} {pre : List Fr} {last : Int} (h : Vld N pl pre last) {f : Fr} {B : Int} (h2 : f.2.1 = (cntF pre f.1 : Int) + 1) (h3 : enB pl pre f.1 = true) (hl : last ≤ B) (h5 : B ≤ 1000000) (hf : 0 ≤ f.2.2 ∧ f.2.2 ≤ B) : Vld N pl (pre ++ [f]) B := by
  refine ⟨fun e m => ?_, fun p hp => ?_, ⟨by have := h.last0.1; omega, h5⟩, fun e t ht => ?_⟩
  · rw [findF_app, h.find e m, cntF_app, hsF_app]
    by_cases he : f.1 = e
    · rw [if_pos he, if_pos he]
      subst he
      by_cases q : 1 ≤ m ∧ m ≤ cntF pre f.1
      · rw [if_pos q]
        show some _ = if 1 ≤ m ∧ m ≤ cntF pre f.1 + 1 then some _ else none
        rw [if_pos (⟨q.1, by omega⟩ : 1 ≤ m ∧ m ≤ cntF pre f.1 + 1)]
        rw [List.getD_eq_getElem?_getD, List.getD_eq_getElem?_getD, List.getElem?_append_left (by rw [hsF_len]; omega)]
      · rw [if_neg q]
        show (if f.1 = f.1 ∧ f.2.1 = (m : Int) then some f.2.2 else none) = _
        by_cases q2 : m = cntF pre f.1 + 1
        · rw [if_pos ⟨rfl, by rw [h2, q2]; simp⟩, if_pos (by omega), List.getD_eq_getElem?_getD, List.getElem?_append_right (by rw [hsF_len]; omega), hsF_len, q2]
          simp
        · rw [if_neg (by rw [h2]; omega), if_neg (by omega)]
    · rw [if_neg he, if_neg he]
      by_cases q : 1 ≤ m ∧ m ≤ cntF pre e
      · rw [if_pos q]
      · rw [if_neg q]
        exact if_neg fun w => he w.1
  · have h0 := h.tok p hp
    have hn := enB_iff.1 h3 p hp
    unfold tokF at h0 hn ⊢
    rw [cntF_app, cntF_app]
    by_cases a : f.1 = p.1
    · rw [if_pos a]
      by_cases b : f.1 = p.2.1
      · rw [if_pos b]; omega
      · rw [if_neg b]; omega
    · rw [if_neg a]
      by_cases b : f.1 = p.2.1
      · have := hn b.symm
        rw [if_pos b]; omega
      · rw [if_neg b]; omega
  · rw [hsF_app] at ht
    by_cases he : f.1 = e
    · rw [if_pos he, List.mem_append] at ht
      rcases ht with ht | ht
      · have := h.time e t ht; omega
      · simp at ht; subst ht; exact hf
    · rw [if_neg he] at ht
      have := h.time e t ht; omega
theorem Vld.step {N : Nat} {pl : List (Int × Int × Int × Int)} {pre : List Fr} {last : Int} (h : Vld N pl pre last) {f : Fr} (hc : canB N pl pre last f = true) : Vld N pl (pre ++ [f]) f.2.2 := by
  obtain ⟨h1, h2, h3, h4, h5⟩ := canB_iff.1 hc
  have hl : last ≤ f.2.2 := Int.le_trans (rd_ge _ _ _ _ _) h4
  exact h.stepG h2 h3 hl h5 ⟨by have := h.last0.1; omega, Int.le_refl _⟩
/-- The firings that an enabled event waits for have come. -/
theorem Vld.has {N : Nat} {pl : List (Int × Int × Int × Int)} {pre : List Fr} {last : Int} (h : Vld N pl pre last) {e : Int} (he : enB pl pre e = true) {p : Int × Int × Int × Int} (hp : p ∈ pl) (hpe : p.2.1 = e) (hk : p.2.2.2 < (cntF pre e : Int) + 1) : (cntF pre e : Int) + 1 - p.2.2.2 ≤ cntF pre p.1 := by
  have h0 := h.tok p hp
  have h1 := enB_iff.1 he p hp hpe
  unfold tokF at h0 h1
  rw [hpe] at h0 h1
  omega
theorem foldS_none (pre : List Fr) (k e : Int) (pl : List (Int × Int × Int × Int)) : pl.foldl (fun acc p => rdyS pre k acc p e) none = none := by
  induction pl with
  | nil => rfl
  | cons p pl ih => exact ih
theorem foldS_eq {N : Nat} {pl : List (Int × Int × Int × Int)} {pre : List Fr} {last : Int} (h : Vld N pl pre last) (e : Nat) (q : List (Int × Int × Int × Int)) (hq : ∀ p ∈ q, p ∈ pl) (hpl : ∀ p ∈ pl, 0 ≤ p.1 ∧ 0 ≤ p.2.2.2) (t : Int) :
    q.foldl (fun acc p => rdyS pre ((cntF pre (e : Int) : Int) + 1) acc p e) (some t) = if enB q pre e then some (rd (hisF pre) (cntF pre (e : Int) + 1) e q t) else none := by
  induction q generalizing t with
  | nil => rfl
  | cons p q ih =>
    have hp := hq p List.mem_cons_self
    have hq' : ∀ p ∈ q, p ∈ pl := fun r hr => hq r (List.mem_cons_of_mem _ hr)
    obtain ⟨p1, p3⟩ := hpl p hp
    have h0 := h.tok p hp
    show List.foldl _ (rdyS pre _ (some t) p e) q = _
    have hen : enB (p :: q) pre e = ((!(decide (p.2.1 = (e : Int)) && decide (tokF pre p = 0))) && enB q pre e) := by
      unfold enB; rw [List.any_cons, Bool.not_or]
    have hrd : rd (hisF pre) (cntF pre (e : Int) + 1) e (p :: q) t = rd (hisF pre) (cntF pre (e : Int) + 1) e q (rdS (hisF pre) (cntF pre (e : Int) + 1) e t p) := rfl
    rw [hen, hrd]
    unfold rdyS rdS
    by_cases c : p.2.1 = (e : Int) ∧ p.2.2.2 < (cntF pre (e : Int) : Int) + 1
    · have c' : p.2.1 = (e : Int) ∧ p.2.2.2 < ((cntF pre (e : Int) + 1 : Nat) : Int) := ⟨c.1, by rw [Int.natCast_add]; exact c.2⟩
      show List.foldl _ (if _ then _ else _) q = _
      rw [if_pos c, if_pos c']
      obtain ⟨m, hm⟩ : ∃ m : Nat, (cntF pre (e : Int) : Int) + 1 - p.2.2.2 = (m : Int) := ⟨((cntF pre (e : Int) : Int) + 1 - p.2.2.2).toNat, by omega⟩
      have hf := h.find p.1 m
      rw [hm, hf]
      by_cases d : m ≤ cntF pre p.1
      · rw [if_pos ⟨by omega, d⟩]
        have hne : tokF pre p ≠ 0 := by unfold tokF at h0 ⊢; rw [c.1] at h0 ⊢; omega
        have e1 : (!(decide (p.2.1 = (e : Int)) && decide (tokF pre p = 0))) = true := by simp [hne]
        rw [e1, Bool.true_and]
        have e2 : hisF pre (cntF pre (e : Int) + 1 - p.2.2.2.toNat) p.1.toNat = (hsF pre p.1).getD (m - 1) 0 := by
          unfold hisF
          have : ((p.1.toNat : Nat) : Int) = p.1 := by omega
          rw [this]
          congr 1
          omega
        rw [e2]
        exact ih hq' _
      · rw [if_neg (by omega)]
        have hz : tokF pre p = 0 := by unfold tokF at h0 ⊢; rw [c.1] at h0 ⊢; omega
        have e1 : (!(decide (p.2.1 = (e : Int)) && decide (tokF pre p = 0))) = false := by simp [hz, c.1]
        rw [e1]
        exact foldS_none _ _ _ _
    · have c' : ¬ (p.2.1 = (e : Int) ∧ p.2.2.2 < ((cntF pre (e : Int) + 1 : Nat) : Int)) := fun w => c ⟨w.1, by have := w.2; rw [Int.natCast_add] at this; exact this⟩
      show List.foldl _ (if _ then _ else _) q = _
      rw [if_neg c, if_neg c']
      have e1 : (!(decide (p.2.1 = (e : Int)) && decide (tokF pre p = 0))) = true := by
        by_cases a : p.2.1 = (e : Int)
        · have hne : tokF pre p ≠ 0 := by
            have : ¬ p.2.2.2 < (cntF pre (e : Int) : Int) + 1 := fun b => c ⟨a, b⟩
            unfold tokF; rw [a]; omega
          simp [hne]
        · simp [a]
      rw [e1, Bool.true_and]
      exact ih hq' _
theorem rdyM_eq {N : Nat} {pl : List (Int × Int × Int × Int)} {pre : List Fr} {last : Int} (h : Vld N pl pre last) (hpl : ∀ p ∈ pl, 0 ≤ p.1 ∧ 0 ≤ p.2.2.2) (e : Nat) :
    rdyM pl pre e = if enB pl pre e then some (rd (hisF pre) (cntF pre (e : Int) + 1) e pl 0) else none := foldS_eq h e pl (fun _ q => q) hpl 0
theorem rd_max (F : Nat → Nat → Int) (k e : Nat) (q : List (Int × Int × Int × Int)) (a b : Int) : rd F k e q (max a b) = max a (rd F k e q b) := by
  unfold rd
  induction q generalizing a b with
  | nil => rfl
  | cons p q ih =>
    show List.foldl _ (rdS F k e (max a b) p) q = max a (List.foldl _ (rdS F k e b p) q)
    rw [← ih]
    congr 1
    unfold rdS
    split <;> omega
/-- What the model asks of the k-th firing. -/
def stpB (N : Nat) (pl : List (Int × Int × Int × Int)) (pre : List Fr) (last : Int) (f : Fr) : Bool :=
  decide (0 ≤ f.1 ∧ f.1 < N) && decide (f.2.1 = (cntF pre f.1 : Int) + 1) && decide (0 ≤ f.2.2 ∧ f.2.2 ≤ 1000000) && decide (last ≤ f.2.2) && (match rdyM pl pre f.1 with | none => false | some t => decide (t ≤ f.2.2))
theorem stpB_eq {N : Nat} {pl : List (Int × Int × Int × Int)} {pre : List Fr} {last : Int} (h : Vld N pl pre last) (hpl : ∀ p ∈ pl, 0 ≤ p.1 ∧ 0 ≤ p.2.2.2) (f : Fr) : stpB N pl pre last f = canB N pl pre last f := by
  unfold stpB canB
  by_cases h1 : 0 ≤ f.1 ∧ f.1 < N
  · obtain ⟨e, he⟩ : ∃ e : Nat, f.1 = (e : Int) := ⟨f.1.toNat, by omega⟩
    rw [he, rdyM_eq h hpl e]
    have hl := h.last0
    have e1 : rd (hisF pre) (cntF pre (e : Int) + 1) e pl last = max last (rd (hisF pre) (cntF pre (e : Int) + 1) e pl 0) := by
      have := rd_max (hisF pre) (cntF pre (e : Int) + 1) e pl last 0
      rwa [show max last 0 = last by omega] at this
    rw [show (e : Int).toNat = e by omega, e1]
    obtain ⟨v, hv⟩ : ∃ v, v = rd (hisF pre) (cntF pre (e : Int) + 1) e pl 0 := ⟨_, rfl⟩
    rw [← hv]
    cases enB pl pre (e : Int) with
    | false => simp
    | true =>
      simp only [if_true, Bool.and_true]
      rw [Bool.eq_iff_iff]
      simp only [Bool.and_eq_true, decide_eq_true_iff]
      constructor
      · rintro ⟨⟨⟨⟨a, b⟩, c⟩, d⟩, g⟩
        exact ⟨⟨a, b⟩, by omega, by omega⟩
      · rintro ⟨⟨a, b⟩, c, d⟩
        exact ⟨⟨⟨⟨a, b⟩, by omega, by omega⟩, by omega⟩, by omega⟩
  · have : decide (0 ≤ f.1 ∧ f.1 < (N : Int)) = false := by simpa using h1
    rw [this]; simp
theorem lastF_succ (l : List Fr) (k : Nat) : lastF l (k + 1) = (l.getD k fz).2.2 := by simp [lastF]
theorem runK_vld {N : Nat} {pl : List (Int × Int × Int × Int)} {l : List Fr} (hpl : ∀ p ∈ pl, 0 ≤ p.2.2.2) {k : Nat} (hk : k ≤ l.length) (h : runK N pl l k = true) : Vld N pl (l.take k) (lastF l k) := by
  induction k with
  | zero => exact vld_nil N hpl
  | succ k ih =>
    unfold runK at h
    rw [Bool.and_eq_true] at h
    have := (ih (by omega) h.1).step h.2
    rw [takeF_snoc l fz (by omega), lastF_succ]
    exact this
theorem runK_down {N : Nat} {pl : List (Int × Int × Int × Int)} {l : List Fr} {k m : Nat} (hm : m ≤ k) (h : runK N pl l k = true) : runK N pl l m = true := by
  induction k with
  | zero => rw [show m = 0 by omega]; rfl
  | succ k ih =>
    by_cases e : m = k + 1
    · rw [e]; exact h
    · unfold runK at h
      rw [Bool.and_eq_true] at h
      exact ih (by omega) h.1
theorem runK_no {N : Nat} {pl : List (Int × Int × Int × Int)} {l : List Fr} {k m : Nat} (hm : k < m) (h : canB N pl (l.take k) (lastF l k) (l.getD k fz) = false) : runK N pl l m = false := by
  cases hr : runK N pl l m with
  | false => rfl
  | true =>
    have := runK_down (m := k + 1) (by omega) hr
    unfold runK at this
    rw [Bool.and_eq_true, h] at this
    simp at this
end M
end Go.Proofs.Ytjbffpmelglegaa
