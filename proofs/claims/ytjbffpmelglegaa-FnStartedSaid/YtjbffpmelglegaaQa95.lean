/- Texts laid together: Rcr. -/
import Derived.Test.YtjbffpmelglegaaQa42
set_option linter.unusedSimpArgs false
set_option linter.unusedVariables false
set_option linter.unusedSectionVars false
namespace Go.Proofs.Ytjbffpmelglegaa
namespace M
section
variable {l : List (Int × Int × Int × Int)} {N : Nat} (hn : N ≤ 10) (hp : noPos (wtF fOne l) N = true) (hl : plOk l N) (ht : ∀ p ∈ l, p.2.1 < (N : Int))
include hn hp hl
/-- Induction over the firings, and over the order within one. -/
theorem fire_ind {P : Nat → Nat → Prop} (h : ∀ (k e : Nat), 1 ≤ k → e < N → (∀ p ∈ l, p.2.1 = (e : Int) → p.2.2.2 < (k : Int) → P (k - p.2.2.2.toNat) p.1.toNat) → P k e) : ∀ (k e : Nat), 1 ≤ k → e < N → P k e := by
  intro k
  induction k using Nat.strongRecOn with
  | ind k ihk =>
    intro e hk he
    obtain ⟨t, htN, hte⟩ := ord_pos hn hp he
    clear he
    induction t using Nat.strongRecOn generalizing e with
    | ind t iht =>
      obtain ⟨e', he', h1, h2, h3, h4⟩ := ord_at (uz_graph l) hn hp htN
      have hee : e' = e := by rw [hte] at h1; omega
      subst hee
      refine h k e' hk he' fun p hpl q1 q3 => ?_
      have hb := hl p hpl
      by_cases hz : p.2.2.2 = 0
      · rw [hz]
        show P k p.1.toNat
        have ha := arc_zero hpl (i := e') (j := p.1.toNat) q1 (by omega) hz
        have hd := h4 p.1.toNat (by omega) ha
        have hjN : p.1.toNat < N := by omega
        obtain ⟨s, hs, hse⟩ := ord_pos hn hp hjN
        refine iht s ?_ p.1.toNat hs hse
        rcases Nat.lt_or_ge s t with q | q
        · exact q
        · exact absurd (by rw [hse]; rfl) (ord_later hn hp (t := t) hs q hd)
      · exact ihk (k - p.2.2.2.toNat) (by omega) p.1.toNat (by omega) (by omega)
variable (st : Nat → Int)
/-- No event fires before its start. -/
theorem tab_start {n k e : Nat} (h1 : 1 ≤ k) (hk : k ≤ n) (he : e < N) : st e ≤ tabT l (ordL (wtF fOne l) N N) st n k e := by
  rw [tab_eq hn hp hl.times st h1 hk he]
  exact rd_ge _ _ _ _ _
/-- Greater starts: no firing is earlier, and none is later by more than the greatest difference. -/
theorem tab_between (su : Nat → Int) {D : Int} (hD : 0 ≤ D) (h : ∀ e, st e ≤ su e ∧ su e ≤ st e + D) {n : Nat} : ∀ (k e : Nat), 1 ≤ k → e < N → k ≤ n → tabT l (ordL (wtF fOne l) N N) st n k e ≤ tabT l (ordL (wtF fOne l) N N) su n k e ∧ tabT l (ordL (wtF fOne l) N N) su n k e ≤ tabT l (ordL (wtF fOne l) N N) st n k e + D := by
  refine fire_ind hn hp hl fun k e h1 he ih hk => ?_
  have e1 := tab_eq hn hp hl.times st h1 hk he
  have e2 := tab_eq hn hp hl.times su h1 hk he
  constructor
  · rw [e1]
    refine rd_le ?_ fun p hpl q1 q3 => ?_
    · have := rd_ge (tabT l (ordL (wtF fOne l) N N) su n) k e l (su e)
      have := h e
      rw [e2]; omega
    · have hb := hl p hpl
      have h2 := ih p hpl q1 q3 (by omega)
      have h3 := rd_at (F := tabT l (ordL (wtF fOne l) N N) su n) (least := su e) hpl q1 q3
      rw [e2]
      omega
  · rw [e2]
    refine rd_le ?_ fun p hpl q1 q3 => ?_
    · have := rd_ge (tabT l (ordL (wtF fOne l) N N) st n) k e l (st e)
      have := h e
      rw [e1]; omega
    · have hb := hl p hpl
      have h2 := ih p hpl q1 q3 (by omega)
      have h3 := rd_at (F := tabT l (ordL (wtF fOne l) N N) st n) (least := st e) hpl q1 q3
      rw [e1]
      omega
/-- Times never fall. -/
theorem tab_up {n : Nat} (h0 : ∀ e, 0 ≤ st e) : ∀ (k e : Nat), 1 ≤ k → e < N → k + 1 ≤ n → tabT l (ordL (wtF fOne l) N N) st n k e ≤ tabT l (ordL (wtF fOne l) N N) st n (k + 1) e := by
  refine fire_ind hn hp hl fun k e h1 he ih hk => ?_
  have e1 := tab_eq hn hp hl.times st h1 (n := n) (by omega) he
  have e2 := tab_eq hn hp hl.times st (k := k + 1) (n := n) (by omega) hk he
  rw [e1]
  refine rd_le ?_ fun p hpl q1 q3 => ?_
  · rw [e2]; exact rd_ge _ _ _ _ _
  · have hb := hl p hpl
    have h2 := ih p hpl q1 q3 (by omega)
    have h3 := rd_at (F := tabT l (ordL (wtF fOne l) N N) st n) (k := k + 1) (least := st e) hpl q1 (by omega)
    rw [show k + 1 - p.2.2.2.toNat = k - p.2.2.2.toNat + 1 by omega] at h3
    rw [e2]
    omega
/-- The times are determined by the recurrence: two graphs whose recurrences agree have the same times. -/
theorem tab_same13 {l' : List (Int × Int × Int × Int)} (hp' : noPos (wtF fOne l') N = true) (hl' : plOk l' N) {n : Nat} (hr : ∀ (F : Nat → Nat → Int) (k e : Nat), (∀ r x, r ≤ n → 0 ≤ F r x) → rd F k e l (st e) = rd F k e l' (st e)) (hs : ∀ e, 0 ≤ st e) {S : Int} (hS : ∀ e, st e ≤ S) : ∀ (k e : Nat), 1 ≤ k → e < N → k ≤ n → tabT l (ordL (wtF fOne l) N N) st n k e = tabT l' (ordL (wtF fOne l') N N) st n k e := by
  have hS0 : 0 ≤ S := Int.le_trans (hs 0) (hS 0)
  refine fire_ind hn hp hl fun k e h1 he ih hk => ?_
  rw [tab_eq hn hp hl.times st h1 hk he, tab_eq hn hp' hl'.times st h1 hk he, ← hr _ _ _ fun r x _ => (tabT_bd l' _ st hS0 hl'.delays (fun e => ⟨hs e, hS e⟩) n r x).1]
  refine rd_congr (fun p hpl q1 q3 => ?_) _
  have hb := hl p hpl
  exact ih p hpl q1 q3 (by omega)
end
end M
end Go.Proofs.Ytjbffpmelglegaa
