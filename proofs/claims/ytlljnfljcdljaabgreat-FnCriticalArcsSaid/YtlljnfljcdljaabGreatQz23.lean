/- Texts laid together: MatH. -/
import Derived.Test.YtlljnfljcdljaabGreatQz2
set_option linter.unusedSimpArgs false
set_option linter.unusedVariables false
set_option linter.unusedSectionVars false
namespace Go.Proofs.YtlljnfljcdljaabGreat
namespace M
/-- The least number from k on that fits, within so many. -/
def lv (p : Nat → Bool) : Nat → Nat → Nat
  | 0, k => k
  | f + 1, k => if p k then k else lv p f (k + 1)
theorem lv_is {p : Nat → Bool} {m : Nat} (hm : p m = true) (f : Nat) : ∀ k, k ≤ m → m < k + f → (∀ v, k ≤ v → v < m → p v = false) → lv p f k = m := by
  induction f with
  | zero => intro k h1 h2; omega
  | succ f ih =>
    intro k h1 h2 h3
    by_cases e : k = m
    · subst e; show (if p k then k else _) = _; rw [if_pos hm]
    · show (if p k then k else _) = _
      rw [h3 k (Nat.le_refl _) (by omega), if_neg (by simp)]
      exact ih (k + 1) (by omega) (by omega) fun v h4 h5 => h3 v (by omega) h5
theorem lv_ex {p : Nat → Bool} {n : Nat} (h : ∃ m, m < n ∧ p m = true) : p (lv p n 0) = true ∧ lv p n 0 < n ∧ ∀ v, v < lv p n 0 → p v = false := by
  have key : ∀ n, (∃ m, m < n ∧ p m = true) → ∃ m, m < n ∧ p m = true ∧ ∀ v, v < m → p v = false := by
    intro n
    induction n with
    | zero => rintro ⟨m, hm, _⟩; omega
    | succ n ih =>
      rintro ⟨m, hm, hp⟩
      by_cases e : ∃ m, m < n ∧ p m = true
      · obtain ⟨m, h1, h2, h3⟩ := ih e
        exact ⟨m, by omega, h2, h3⟩
      · refine ⟨m, hm, hp, fun v hv => ?_⟩
        cases h : p v with
        | false => rfl
        | true => exact absurd ⟨v, by omega, h⟩ e
  obtain ⟨m, h1, h2, h3⟩ := key n h
  rw [lv_is h2 n 0 (Nat.zero_le _) (by omega) fun v _ hv => h3 v hv]
  exact ⟨h2, h1, h3⟩
/-- Whether a heaviest path with s + 1 arcs goes on from x by v. -/
def stepB (A : Nat → Nat → Int) (n t s x v : Nat) : Bool := decide (times (cpw A n s t v) (A v x) = cpw A n (s + 1) t x)
def nxt (A : Nat → Nat → Int) (n t s x : Nat) : Nat := lv (stepB A n t s x) n 0
/-- The number of arcs. -/
def arcs (A : Nat → Nat → Int) (n f t : Nat) : Nat := lv (fun s => decide (cpw A n s t f = starF A n t f)) 11 0
/-- The nodes of the path. -/
def xs (A : Nat → Nat → Int) (n t s f : Nat) : Nat → Nat
  | 0 => f
  | k + 1 => nxt A n t (s - 1 - k) (xs A n t s f k)
def hvL (A : Nat → Nat → Int) (n t s f : Nat) (k : Nat) : List Int := (List.range k).map fun i => ((xs A n t s f i : Nat) : Int)
def heavyRes (R : List (List Int)) (f t : Int) : List Int × Int :=
  if sqB R then (if inN R.length f && inN R.length t then (if noPos (ent R) R.length then (if starF (ent R) R.length t.toNat f.toNat = -1000000000000000 then ([], 4)
    else (hvL (ent R) R.length t.toNat (arcs (ent R) R.length f.toNat t.toNat) f.toNat (arcs (ent R) R.length f.toNat t.toNat + 1), 0)) else ([], 5)) else ([], 2)) else ([], 1)
theorem hvL_len (A : Nat → Nat → Int) (n t s f k : Nat) : (hvL A n t s f k).length = k := by simp [hvL]
theorem hvL_succ (A : Nat → Nat → Int) (n t s f k : Nat) : hvL A n t s f (k + 1) = hvL A n t s f k ++ [((xs A n t s f k : Nat) : Int)] := by
  unfold hvL; rw [List.range_succ]; simp
theorem hvL_at (A : Nat → Nat → Int) (n t s f k i : Nat) (h : i < k) : (hvL A n t s f k).getD i 0 = ((xs A n t s f i : Nat) : Int) := by
  simp [hvL, h]
theorem lv_le (p : Nat → Bool) (f : Nat) : ∀ k, lv p f k ≤ k + f := by
  induction f with
  | zero => intro k; exact Nat.le_refl _
  | succ f ih =>
    intro k
    show (if p k then k else _) ≤ _
    split
    · omega
    · have := ih (k + 1); omega
theorem heavyRes_len (R : List (List Int)) (f t : Int) : (heavyRes R f t).1.length ≤ 12 := by
  unfold heavyRes
  split
  · split
    · split
      · split
        · simp
        · rw [hvL_len]
          have := lv_le (fun s => decide (cpw (ent R) R.length s t.toNat f.toNat = starF (ent R) R.length t.toNat f.toNat)) 11 0
          unfold arcs
          omega
      · simp
    · simp
  · simp
section
variable {A : Nat → Nat → Int} {n : Nat} (hn : n ≤ 10) (hA : ∀ i j, i < n → j < n → Sm 1000001000000 (A i j))
include hn hA
/-- There is a number of arcs with which the weight in the star is reached. -/
theorem arcs_is (hp : noPos A n = true) {f t : Nat} (hf : f < n) (ht : t < n) (h : starF A n t f ≠ -1000000000000000) :
    cpw A n (arcs A n f t) t f = starF A n t f ∧ arcs A n f t ≤ 10 ∧ ∀ s, s < arcs A n f t → cpw A n s t f ≠ starF A n t f := by
  have hd := o_diag hn hA hp
  have e1 : o (starF A n t f) = obm (fun i j => o (A i j)) n n t f := by
    unfold starF
    rw [← clo_star hn hA hp ht hf, o_cbm hA n (by omega) t f ht hf]
  obtain ⟨s, hs, hle⟩ := opw_star (f := fun i j => o (A i j)) ht hf (by rw [← e1]; exact fun e => h (o_none.1 e))
  have hge := opw_le hd ht hf s
  have e2 := ole_anti hge hle
  rw [← o_cpw hA s (by omega) t f ht hf, ← e1] at e2
  have e3 := o_inj e2
  obtain ⟨h1, h2, h3⟩ := lv_ex (p := fun s => decide (cpw A n s t f = starF A n t f)) (n := 11) ⟨s, by omega, by simpa using e3⟩
  refine ⟨of_decide_eq_true h1, by unfold arcs; omega, fun s hs => ?_⟩
  have := h3 s hs
  simpa using this
end
section
variable {A : Nat → Nat → Int} {n : Nat} (hA : ∀ i j, i < n → j < n → Sm 1000001000000 (A i j))
include hA
/-- A heaviest path with more than no arcs goes on. -/
theorem nxt_is {t s x : Nat} (hs : s ≤ 10) (ht : t < n) (hx : x < n) (h : cpw A n (s + 1) t x ≠ -1000000000000000) :
    nxt A n t s x < n ∧ times (cpw A n s t (nxt A n t s x)) (A (nxt A n t s x) x) = cpw A n (s + 1) t x ∧ ∀ v, v < nxt A n t s x → times (cpw A n s t v) (A v x) ≠ cpw A n (s + 1) t x := by
  have hex : ∃ v, v < n ∧ stepB A n t s x v = true := by
    have e := o_cpw hA (s + 1) (by omega) t x ht hx
    rcases osum_att n (fun u => omul (opw (fun i j => o (A i j)) n s t u) (o (A u x))) with k | ⟨u, hu, k⟩
    · exact absurd (o_none.1 (e.trans k)) h
    · refine ⟨u, hu, ?_⟩
      unfold stepB
      rw [decide_eq_true_eq]
      refine o_inj ?_
      rw [o_times (cpw_sm hA s t u ht hu) (hA u x hu hx) (by omega) (by omega), o_cpw hA s (by omega) t u ht hu]
      exact (e.trans k).symm
  obtain ⟨h1, h2, h3⟩ := lv_ex hex
  refine ⟨h2, of_decide_eq_true h1, fun v hv => ?_⟩
  have := h3 v hv
  simpa [stepB] using this
theorem nxt_fin {t s x : Nat} (hs : s ≤ 10) (ht : t < n) (hx : x < n) (h : cpw A n (s + 1) t x ≠ -1000000000000000) :
    cpw A n s t (nxt A n t s x) ≠ -1000000000000000 ∧ A (nxt A n t s x) x ≠ -1000000000000000 := by
  obtain ⟨h1, h2, -⟩ := nxt_is hA hs ht hx h
  refine ⟨fun e => h ?_, fun e => h ?_⟩
  · rw [← h2, e, bot_times]
  · rw [← h2, e, times_bot]
/-- Along the path the rest stays a heaviest one. -/
theorem xs_inv {t s f : Nat} (hs : s ≤ 10) (ht : t < n) (hf : f < n) (h : cpw A n s t f ≠ -1000000000000000) (k : Nat) (hk : k ≤ s) :
    xs A n t s f k < n ∧ cpw A n (s - k) t (xs A n t s f k) ≠ -1000000000000000 := by
  induction k with
  | zero => exact ⟨hf, h⟩
  | succ k ih =>
    obtain ⟨h1, h2⟩ := ih (by omega)
    have e : s - k = s - 1 - k + 1 := by omega
    rw [e] at h2
    show nxt A n t (s - 1 - k) (xs A n t s f k) < n ∧ cpw A n (s - (k + 1)) t (nxt A n t (s - 1 - k) (xs A n t s f k)) ≠ _
    rw [show s - (k + 1) = s - 1 - k by omega]
    exact ⟨(nxt_is hA (by omega) ht h1 h2).1, (nxt_fin hA (by omega) ht h1 h2).1⟩
/-- What is left of the weight. -/
theorem xs_need {t s f : Nat} (hs : s ≤ 10) (ht : t < n) (hf : f < n) (h : cpw A n s t f ≠ -1000000000000000) (k : Nat) (hk : k < s) :
    cpw A n (s - (k + 1)) t (xs A n t s f (k + 1)) = cpw A n (s - k) t (xs A n t s f k) - A (xs A n t s f (k + 1)) (xs A n t s f k) := by
  obtain ⟨h1, h2⟩ := xs_inv hA hs ht hf h k (by omega)
  have e : s - k = s - 1 - k + 1 := by omega
  rw [e] at h2
  have h3 := (nxt_is hA (by omega) ht h1 h2).2.1
  have h4 := nxt_fin hA (by omega) ht h1 h2
  rw [show s - (k + 1) = s - 1 - k by omega, e]
  show cpw A n (s - 1 - k) t (nxt A n t (s - 1 - k) (xs A n t s f k)) = _ - A (nxt A n t (s - 1 - k) (xs A n t s f k)) _
  unfold times at h3
  rw [if_neg (by rintro (e | e); exact h4.1 e; exact h4.2 e)] at h3
  omega
theorem xs_end {t s f : Nat} (hs : s ≤ 10) (ht : t < n) (hf : f < n) (h : cpw A n s t f ≠ -1000000000000000) : xs A n t s f s = t := by
  obtain ⟨h1, h2⟩ := xs_inv hA hs ht hf h s (Nat.le_refl _)
  rw [Nat.sub_self] at h2
  have h2 : unit t (xs A n t s f s) ≠ -1000000000000000 := h2
  unfold unit at h2
  split at h2
  · next e => exact e.symm
  · exact absurd rfl h2
end
end M
end Go.Proofs.YtlljnfljcdljaabGreat
