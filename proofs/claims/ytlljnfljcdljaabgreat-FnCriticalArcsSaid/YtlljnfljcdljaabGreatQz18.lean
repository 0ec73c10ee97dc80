/- Texts laid together: Per. -/
import Derived.Test.YtlljnfljcdljaabGreatQz17
import Derived.Test.YtlljnfljcdljaabGreatQz4
set_option linter.unusedSimpArgs false
set_option linter.unusedVariables false
set_option linter.unusedSectionVars false
namespace Go.Proofs.YtlljnfljcdljaabGreat
namespace M
theorem walk_join {P : Nat → Nat → Prop} {x y : Nat → Nat} {s t : Nat} (e : x s = y 0) (hx : ∀ u, u < s → P (x u) (x (u + 1))) (hy : ∀ u, u < t → P (y u) (y (u + 1))) :
    ∃ z : Nat → Nat, z 0 = x 0 ∧ z (s + t) = y t ∧ (∀ u, u < s + t → P (z u) (z (u + 1))) ∧ ∀ Q : Nat → Prop, (∀ u, u ≤ s → Q (x u)) → (∀ u, u ≤ t → Q (y u)) → ∀ u, u ≤ s + t → Q (z u) := by
  have q : ∀ u, (if s + u ≤ s then x (s + u) else y (s + u - s)) = y u := fun u => by
    split
    · obtain rfl : u = 0 := by omega
      rw [Nat.add_zero, e]
    · rw [show s + u - s = u by omega]
  refine ⟨fun u => if u ≤ s then x u else y (u - s), by simp, q t, fun u hu => ?_, fun Q h1 h2 u hu => ?_⟩
  · show P (if u ≤ s then x u else y (u - s)) (if u + 1 ≤ s then x (u + 1) else y (u + 1 - s))
    by_cases h : u + 1 ≤ s
    · rw [if_pos h, if_pos (by omega)]; exact hx u (by omega)
    · rw [if_neg h]
      by_cases h2 : u ≤ s
      · rw [if_pos h2]
        obtain rfl : u = s := by omega
        rw [e, show u + 1 - u = 0 + 1 by omega]
        exact hy 0 (by omega)
      · rw [if_neg h2, show u + 1 - s = u - s + 1 by omega]
        exact hy (u - s) (by omega)
  · show Q (if u ≤ s then x u else y (u - s))
    split
    · exact h1 u (by assumption)
    · exact h2 (u - s) (by omega)
theorem crM_iff {R : List (List Int)} (_ : sqB R = true) (_ : hasCyc (ent R) R.length = true) {i j : Nat} (hi : i < R.length) (hj : j < R.length) : ent (crM R) i j ≠ -1000000000000000 ↔ crB R j i = true := by
  unfold crM
  rw [ent_mk _ _ _ _ _ hi hj]
  unfold crF
  by_cases h : crB R j i = true
  · rw [if_pos h]
    refine ⟨fun _ => h, fun _ e => ?_⟩
    have hn := (times0 (of_decide_eq_true h)).1
    refine hn ?_
    unfold crS shf
    rw [e]
    simp
  · rw [if_neg h]
    exact ⟨fun e => absurd rfl e, fun e => absurd e h⟩
section
variable {R : List (List Int)} (h1 : sqB R = true) (h2 : hasCyc (ent R) R.length = true)
include h1 h2
/-- From the end of a critical arc there is a way back to its beginning. -/
theorem crit_back {i j : Nat} (hi : i < R.length) (hj : j < R.length) (h : crB R j i = true) : Rch (ent (crM R)) R.length i j := by
  obtain ⟨n1, n2, -⟩ := sq_sm h1
  obtain ⟨-, hS, hp⟩ := cr_t h1 h2
  have hd := o_diag n2 hS hp
  have hc := (crB_o h1 h2 hi hj).1 h
  rcases obm_att (f := fun i j => o (crS R i j)) (n := R.length) R.length j i hj hi with z | ⟨x, s, -, x0, xs, hx, z⟩
  · rw [z, omul_none] at hc; cases hc
  · -- the closed walk: from i to j by x, then the arc from j to i
    have hw : owk (fun i j => o (crS R i j)) (fun u => if u ≤ s then x u else i) (s + 1) = some 0 := by
      show omul (o (crS R (if s + 1 ≤ s then x (s + 1) else i) (if s ≤ s then x s else i))) (owk _ _ s) = some 0
      rw [if_neg (by omega), if_pos (Nat.le_refl _), xs]
      have e : owk (fun i j => o (crS R i j)) (fun u => if u ≤ s then x u else i) s = owk (fun i j => o (crS R i j)) x s := owk_congr fun u hu => by simp [hu]
      rw [e, ← z]
      exact hc
    refine ⟨s, x, x0, xs, hx, fun u hu => ?_⟩
    rw [crM_iff h1 h2 (hx _ (by omega)) (hx _ (by omega)), crB_o h1 h2 (hx _ (by omega)) (hx _ (by omega))]
    have := arc_back hd (v := fun u => if u ≤ s then x u else i) (s := s + 1) (by omega) (by show (if s + 1 ≤ s then _ else i) = if 0 ≤ s then x 0 else i; rw [if_neg (by omega), if_pos (Nat.zero_le _), x0]) (fun u _ => by
      show (if u ≤ s then x u else i) < _
      split
      · exact hx u (by assumption)
      · exact hi) (by rw [hw]; exact Int.le_refl _) (u := u) (by omega)
    simp only [show u + 1 ≤ s by omega, show u ≤ s by omega, if_true] at this
    exact this
theorem crit_symm {u v : Nat} (h : Rch (ent (crM R)) R.length u v) : Rch (ent (crM R)) R.length v u := by
  refine Rch.ind (P := fun v => Rch (ent (crM R)) R.length v u) h (fun hu => rch_self hu) fun k i hk hP hi ha => ?_
  have hkl := hk.lt.2
  exact rch_trans (crit_back h1 h2 hi hkl ((crM_iff h1 h2 hi hkl).1 ha)) hP
omit h1 h2
/-- The arcs, counted. -/
def cntF (R : List (List Int)) (i j : Nat) : Int := if crB R j i then -1 else -1000000000000000
def cntM (R : List (List Int)) : List (List Int) := mk R.length R.length (cntF R)
def st (R : List (List Int)) (v u : Nat) : Int := starF (cntF R) R.length u v
theorem cntF_o (R : List (List Int)) (i j : Nat) : o (cntF R i j) = if crB R j i then some (-1) else none := by
  unfold cntF
  split <;> rfl
theorem cnt_sm (R : List (List Int)) (i j : Nat) : Sm 1000000 (cntF R i j) := by
  unfold cntF Sm
  split <;> omega
theorem cnt_wide (R : List (List Int)) : ∀ i j, i < R.length → j < R.length → Sm 1000001000000 (cntF R i j) := fun i j _ _ => sm_wide (cnt_sm R i j)
theorem cnt_walk (R : List (List Int)) (x : Nat → Nat) : ∀ (s : Nat) (w : Int), owk (fun i j => o (cntF R i j)) x s = some w → w = -(s : Int) ∧ ∀ u, u < s → crB R (x u) (x (u + 1)) = true
  | 0, w, h => ⟨(Option.some.inj h).symm, fun u hu => absurd hu (Nat.not_lt_zero u)⟩
  | s + 1, w, h => by
    have h : omul (o (cntF R (x (s + 1)) (x s))) (owk (fun i j => o (cntF R i j)) x s) = some w := h
    rw [cntF_o] at h
    by_cases hc : crB R (x s) (x (s + 1)) = true
    · rw [if_pos hc] at h
      cases e : owk (fun i j => o (cntF R i j)) x s with
      | none => rw [e] at h; cases h
      | some z =>
        rw [e] at h
        have hz : -1 + z = w := Option.some.inj h
        obtain ⟨e1, e2⟩ := cnt_walk R x s z e
        refine ⟨by omega, fun u hu => ?_⟩
        by_cases q : u = s
        · subst q; exact hc
        · exact e2 u (by omega)
    · rw [if_neg hc] at h; cases h
theorem cnt_of (R : List (List Int)) (x : Nat → Nat) : ∀ s : Nat, (∀ u, u < s → crB R (x u) (x (u + 1)) = true) → owk (fun i j => o (cntF R i j)) x s = some (-(s : Int))
  | 0, _ => rfl
  | s + 1, h => by
    show omul (o (cntF R (x (s + 1)) (x s))) (owk (fun i j => o (cntF R i j)) x s) = _
    rw [cntF_o, if_pos (h s (by omega)), cnt_of R x s fun u hu => h u (by omega)]
    show some (-1 + -(s : Int)) = _
    congr 1; omega
theorem cnt_noPos {R : List (List Int)} (n2 : R.length ≤ 10) : noPos (cntF R) R.length = true := by
  cases e : noPos (cntF R) R.length with
  | true => rfl
  | false =>
    obtain ⟨v, s, g1, g2, g3, g4⟩ := gain_of n2 (cnt_wide R) e
    cases ew : owk (fun i j => o (cntF R i j)) v s with
    | none => rw [ew] at g4; exact absurd (ole_none _) g4
    | some w =>
      rw [ew] at g4
      have := (cnt_walk R v s w ew).1
      exact absurd (show w ≤ 0 by omega) g4
/-- A finite number of steps is that of a walk of critical arcs. -/
theorem st_walk {R : List (List Int)} (n2 : R.length ≤ 10) {v u : Nat} (hv : v < R.length) (hu : u < R.length) (h : st R v u ≠ -1000000000000000) :
    ∃ (s : Nat) (x : Nat → Nat), st R v u = -(s : Int) ∧ x 0 = v ∧ x s = u ∧ (∀ i, i ≤ s → x i < R.length) ∧ (∀ i, i < s → crB R (x i) (x (i + 1)) = true) ∧ s ≤ R.length := by
  have e1 : o (st R v u) = obm (fun i j => o (cntF R i j)) R.length R.length u v := by
    unfold st starF
    rw [← clo_star n2 (cnt_wide R) (cnt_noPos n2) hu hv, o_cbm (cnt_wide R) R.length (by omega) u v hu hv]
  rcases obm_att (f := fun i j => o (cntF R i j)) (n := R.length) R.length u v hu hv with z | ⟨x, s, hsn, x0, xs, hx, z⟩
  · rw [z] at e1; unfold o at e1; rw [if_neg h] at e1; cases e1
  · rw [z] at e1
    unfold o at e1
    rw [if_neg h] at e1
    obtain ⟨e2, e3⟩ := cnt_walk R x s _ e1.symm
    exact ⟨s, x, e2, x0, xs, hx, e3, hsn⟩
theorem st_of_rch {R : List (List Int)} (h1 : sqB R = true) (h2 : hasCyc (ent R) R.length = true) {v u : Nat} (h : Rch (ent (crM R)) R.length v u) : st R v u ≠ -1000000000000000 := by
  obtain ⟨n1, n2, -⟩ := sq_sm h1
  obtain ⟨hv, hu⟩ := h.lt
  obtain ⟨s, x, x0, xs, hx, ha⟩ := h
  have e1 : o (st R v u) = obm (fun i j => o (cntF R i j)) R.length R.length u v := by
    unfold st starF
    rw [← clo_star n2 (cnt_wide R) (cnt_noPos n2) hu hv, o_cbm (cnt_wide R) R.length (by omega) u v hu hv]
  have hw := cnt_of R x s fun u hu => (crM_iff h1 h2 (hx _ (by omega)) (hx _ (by omega))).1 (ha u hu)
  have hle := owk_star (o_diag n2 (cnt_wide R) (cnt_noPos n2)) x s hx
  rw [hw, xs, x0, ← e1] at hle
  intro e
  rw [e] at hle
  exact hle
theorem rch_of_st {R : List (List Int)} (h1 : sqB R = true) (h2 : hasCyc (ent R) R.length = true) {v u : Nat} (hv : v < R.length) (hu : u < R.length) (h : st R v u ≠ -1000000000000000) : Rch (ent (crM R)) R.length v u := by
  obtain ⟨n1, n2, -⟩ := sq_sm h1
  obtain ⟨s, x, -, x0, xs, hx, ha, -⟩ := st_walk n2 hv hu h
  exact ⟨s, x, x0, xs, hx, fun i hi => (crM_iff h1 h2 (hx _ (by omega)) (hx _ (by omega))).2 (ha i hi)⟩
end
/-- The model's period of a component. -/
def perL (R : List (List Int)) (l : List Int) : Int := l.foldl (fun g k => lenG (ent (crM R)) R.length R.length [k] g) 0
def perP (R : List (List Int)) (l : List Int) (k : Nat) : Int := (l.take k).foldl (fun g k => lenG (ent (crM R)) R.length R.length [k] g) 0
theorem perP_next {R : List (List Int)} {l : List Int} {k : Nat} (hk : k < l.length) : perP R l (k + 1) = lenG (ent (crM R)) R.length R.length [l.getD k 0] (perP R l k) := by
  unfold perP; rw [take_snoc _ _ hk, List.foldl_append]; rfl
theorem lenG_nonneg {A : Nat → Nat → Int} {n : Nat} : ∀ (f : Nat) (p : List Int) (g : Int), 0 ≤ g → 0 ≤ lenG A n f p g
  | 0, _, _, h => h
  | f + 1, p, g, h => by
    rw [lenG_eq]
    have : ∀ k, 0 ≤ lenV A n f p g k := by
      intro k
      induction k with
      | zero =>
        rw [lenV_zero]
        split
        · unfold gI; omega
        · exact h
      | succ k ih =>
        rw [lenV_next, stepL]
        split
        · exact lenG_nonneg f _ _ ih
        · exact ih
    exact this n
theorem perF_nonneg (R : List (List Int)) : ∀ (l : List Int) (g : Int), 0 ≤ g → 0 ≤ l.foldl (fun g k => lenG (ent (crM R)) R.length R.length [k] g) g
  | [], _, h => h
  | k :: l, g, h => perF_nonneg R l _ (lenG_nonneg _ _ _ h)
theorem perL_nonneg (R : List (List Int)) (l : List Int) : 0 ≤ perL R l := perF_nonneg R l 0 (Int.le_refl 0)
theorem wr_len {A : Nat → Nat → Int} {n : Nat} {q : List Int} (hq : Wr A n q) : q.length ≤ n := by
  refine diffB_len (n := n) ?_ ?_
  · unfold nodesB
    refine List.all_eq_true.2 fun x hx => ?_
    obtain ⟨i, hi, e⟩ := List.mem_iff_getElem.1 hx
    have hg := hq.2.1 i hi
    have e2 : q.getD i 0 = x := by rw [← e]; simp [hi]
    rw [e2] at hg
    rw [hg.1]
    unfold inN
    simp [hg.2]
  · unfold diffB
    refine List.all_eq_true.2 fun i hi => ?_
    have hi := List.mem_range.1 hi
    have := hasB_take hq hi
    rw [(hq.2.1 i hi).1, this]; rfl
/-- What divides the model's period: what divides the lengths of all cycles in the component. -/
theorem perL_iff {R : List (List Int)} (n1 : 1 ≤ R.length) {v : Nat} {d : Int} :
    d ∣ perL R (compL (ent (crM R)) R.length v) ↔ ∀ q, Wr (ent (crM R)) R.length q → relB (ent (crM R)) R.length v (vx q 0) = true → d ∣ (q.length : Int) := by
  obtain ⟨f, hf⟩ : ∃ f, R.length = f + 1 := ⟨R.length - 1, by omega⟩
  have hmono : ∀ (l : List Int) (g : Int), d ∣ l.foldl (fun g k => lenG (ent (crM R)) R.length R.length [k] g) g → d ∣ g := fun l g h => foldl_dvd _ (fun g k hk => lenG_mono _ _ _ hk) l g h
  constructor
  · intro h q hq hc
    have hmem : ((vx q 0 : Nat) : Int) ∈ compL (ent (crM R)) R.length v := mem_compP.2 ⟨vx q 0, (hq.2.1 0 (by have := hq.1; omega)).2, hc, rfl⟩
    have q1 := hq.1
    have hlen := wr_len hq
    have key : ∀ (l : List Int) (g : Int), ((vx q 0 : Nat) : Int) ∈ l → d ∣ l.foldl (fun g k => lenG (ent (crM R)) R.length R.length [k] g) g → d ∣ (q.length : Int) := by
      intro l
      induction l with
      | nil => intro g hm; exact absurd hm (by simp)
      | cons k l ih =>
        intro g hm hd
        rcases List.mem_cons.1 hm with e | hm
        · have hd2 : d ∣ lenG (ent (crM R)) R.length R.length [k] g := hmono l _ hd
          rw [← e] at hd2
          have e3 : [((vx q 0 : Nat) : Int)] = q.take 1 := by
            have := take_snoc q 0 (by omega)
            rw [this, (hq.2.1 0 (by omega)).1]; rfl
          rw [e3] at hd2
          have hd3 : d ∣ lenG (ent (crM R)) R.length (f + 1) (q.take 1) g := by rw [← hf]; exact hd2
          exact wr_dvd hq f 1 _ (Nat.le_refl _) (by omega) (by omega) hd3
        · exact ih _ hm hd
    exact key _ _ hmem h
  · intro H
    have hfold : ∀ (l : List Int) (g : Int), (∀ x, x ∈ l → ∃ w : Nat, w < R.length ∧ relB (ent (crM R)) R.length v w = true ∧ x = w) → d ∣ g → d ∣ l.foldl (fun g k => lenG (ent (crM R)) R.length R.length [k] g) g := by
      intro l
      induction l with
      | nil => intro g _ hg; exact hg
      | cons k l ih =>
        intro g hl hg
        refine ih _ (fun x hx => hl x (List.mem_cons_of_mem _ hx)) ?_
        obtain ⟨w, hw, hr, rfl⟩ := hl k List.mem_cons_self
        refine lenG_sub (fun q hq e => H q hq ?_) _ _ _ hg ⟨by simp, fun i hi => ?_, fun i j hi hj _ => ?_, fun i hi => ?_, fun i h1 hi => ?_⟩ rfl
        · rw [e]; show relB _ _ v (vx [(w : Int)] 0) = true; unfold vx; simpa using hr
        · obtain rfl : i = 0 := by simp at hi; omega
          unfold vx; simp; exact hw
        · simp at hi hj; omega
        · simp at hi
        · simp at hi; omega
    exact hfold _ 0 (fun x hx => mem_compP.1 hx) (Int.dvd_zero _)
/-- What the program's period is made of: the steps along each arc. -/
def ArcP (R : List (List Int)) (v : Nat) (d : Int) : Prop := ∀ u w, u < R.length → w < R.length → crB R u w = true → st R v u ≠ -1000000000000000 → d ∣ st R v u - 1 - st R v w
section
variable {R : List (List Int)} (h1 : sqB R = true) (h2 : hasCyc (ent R) R.length = true)
include h1 h2
theorem closed_v {v : Nat} {d : Int} (H : ∀ q, Wr (ent (crM R)) R.length q → relB (ent (crM R)) R.length v (vx q 0) = true → d ∣ (q.length : Int)) {m : Nat} {f : Nat → Nat} (h0 : f 0 = v) (hm : f m = v)
    (ha : ∀ i, i < m → ent (crM R) (f (i + 1)) (f i) ≠ -1000000000000000) (hl : ∀ i, i ≤ m → f i < R.length) : d ∣ (m : Int) := by
  refine closed_dvd (A := ent (crM R)) (n := R.length) (C := fun x => relB (ent (crM R)) R.length v x = true) H m f (by rw [h0, hm]) ha fun i hi => ⟨hl i hi, ?_⟩
  have hr : Rch (ent (crM R)) R.length v (f i) := ⟨i, f, h0, rfl, fun u hu => hl u (by omega), fun u hu => ha u (by omega)⟩
  exact relB_t.2 ⟨hr, crit_symm h1 h2 hr⟩
theorem arcP_iff {v : Nat} (hv : v < R.length) {d : Int} : ArcP R v d ↔ ∀ q, Wr (ent (crM R)) R.length q → relB (ent (crM R)) R.length v (vx q 0) = true → d ∣ (q.length : Int) := by
  obtain ⟨n1, n2, -⟩ := sq_sm h1
  constructor
  · intro H q hq hc
    obtain ⟨q1, q2, q3, q4, q5, q6⟩ := hq
    have hrc : ∀ k, k < q.length → Rch (ent (crM R)) R.length v (vx q k) := by
      intro k
      induction k with
      | zero => intro _; exact (relB_t.1 hc).1
      | succ k ih => intro hk; exact rch_step (ih (by omega)) (q2 _ hk).2 (q4 k hk)
    have hst : ∀ k, k < q.length → st R v (vx q k) ≠ -1000000000000000 := fun k hk => st_of_rch h1 h2 (hrc k hk)
    have hs : ∀ k, k < q.length → d ∣ st R v (vx q 0) - (k : Int) - st R v (vx q k) := by
      intro k
      induction k with
      | zero => intro _; rw [show st R v (vx q 0) - ((0 : Nat) : Int) - st R v (vx q 0) = 0 by omega]; exact Int.dvd_zero _
      | succ k ih =>
        intro hk
        have a := ih (by omega)
        have b := H (vx q k) (vx q (k + 1)) (q2 k (by omega)).2 (q2 _ hk).2 ((crM_iff h1 h2 (q2 _ hk).2 (q2 k (by omega)).2).1 (q4 k hk)) (hst k (by omega))
        have := Int.dvd_add a b
        rw [show st R v (vx q 0) - (k : Int) - st R v (vx q k) + (st R v (vx q k) - 1 - st R v (vx q (k + 1))) = st R v (vx q 0) - ((k + 1 : Nat) : Int) - st R v (vx q (k + 1)) by omega] at this
        exact this
    have a := hs (q.length - 1) (by omega)
    have b := H (vx q (q.length - 1)) (vx q 0) (q2 _ (by omega)).2 (q2 0 (by omega)).2 ((crM_iff h1 h2 (q2 0 (by omega)).2 (q2 _ (by omega)).2).1 q5) (hst _ (by omega))
    have := Int.dvd_add a b
    rw [show st R v (vx q 0) - ((q.length - 1 : Nat) : Int) - st R v (vx q (q.length - 1)) + (st R v (vx q (q.length - 1)) - 1 - st R v (vx q 0)) = -(q.length : Int) by omega] at this
    exact Int.dvd_neg.1 this
  · intro H u w hu hw hc hs
    obtain ⟨s, x, e1, x0, xs, xl, xa, -⟩ := st_walk n2 hv hu hs
    have hru := rch_of_st h1 h2 hv hu hs
    have harc := (crM_iff h1 h2 hw hu).2 hc
    have hrw := rch_step hru hw harc
    obtain ⟨t, y, e2, y0, yt, yl, ya, -⟩ := st_walk n2 hv hw (st_of_rch h1 h2 hrw)
    obtain ⟨r, z, z0, zr, zl, za⟩ := crit_symm h1 h2 hrw
    -- v to w by y, back by z
    have A1 : d ∣ ((t + r : Nat) : Int) := by
      obtain ⟨f, f0, fe, fa, fq⟩ := walk_join (P := fun a b => ent (crM R) b a ≠ -1000000000000000) (x := y) (y := z) (s := t) (t := r) (by rw [yt, z0]) (fun i hi => (crM_iff h1 h2 (yl _ (by omega)) (yl _ (by omega))).2 (ya i hi)) za
      exact closed_v h1 h2 H (by rw [f0, y0]) (by rw [fe, zr]) fa (fq (fun a => a < R.length) yl zl)
    -- v to u by x, the arc, back by z
    have A2 : d ∣ ((s + (1 + r) : Nat) : Int) := by
      obtain ⟨g, g0, ge, ga, gq⟩ := walk_join (P := fun a b => ent (crM R) b a ≠ -1000000000000000) (x := fun i => if i = 0 then u else w) (y := z) (s := 1) (t := r) (by simp [z0]) (fun i hi => by
        obtain rfl : i = 0 := by omega
        simpa using harc) za
      obtain ⟨f, f0, fe, fa, fq⟩ := walk_join (P := fun a b => ent (crM R) b a ≠ -1000000000000000) (x := x) (y := g) (s := s) (t := 1 + r) (by rw [xs, g0]; rfl) (fun i hi => (crM_iff h1 h2 (xl _ (by omega)) (xl _ (by omega))).2 (xa i hi)) ga
      refine closed_v h1 h2 H (by rw [f0, x0]) (by rw [fe, ge, zr]) fa (fq (fun a => a < R.length) xl (gq (fun a => a < R.length) (fun i hi => ?_) zl))
      show (if i = 0 then u else w) < R.length
      split
      · exact hu
      · exact hw
    have := Int.dvd_sub A1 A2
    rw [show ((t + r : Nat) : Int) - ((s + (1 + r) : Nat) : Int) = st R v u - 1 - st R v w by rw [e1, e2]; omega] at this
    exact this
theorem arc_bd {v u w : Nat} (hv : v < R.length) (hu : u < R.length) (hw : w < R.length) (hc : crB R u w = true) (hs : st R v u ≠ -1000000000000000) : -10 ≤ st R v u ∧ st R v u ≤ 0 ∧ -10 ≤ st R v w ∧ st R v w ≤ 0 := by
  obtain ⟨n1, n2, -⟩ := sq_sm h1
  obtain ⟨s, -, e1, -, -, -, -, l1⟩ := st_walk n2 hv hu hs
  have hrw := rch_step (rch_of_st h1 h2 hv hu hs) hw ((crM_iff h1 h2 hw hu).2 hc)
  obtain ⟨t, -, e2, -, -, -, -, l2⟩ := st_walk n2 hv hw (st_of_rch h1 h2 hrw)
  omega
/-- The program's period is the model's. -/
theorem per_eq {v : Nat} (hv : v < R.length) {x : Int} (hx : 0 ≤ x) (H : ∀ d, d ∣ x ↔ ArcP R v d) : x = perL R (compL (ent (crM R)) R.length v) := by
  obtain ⟨n1, n2, -⟩ := sq_sm h1
  have hd : ∀ d, d ∣ x ↔ d ∣ perL R (compL (ent (crM R)) R.length v) := fun d => by rw [H, arcP_iff h1 h2 hv, perL_iff n1]
  have a : x ∣ perL R (compL (ent (crM R)) R.length v) := (hd x).1 (Int.dvd_refl _)
  have b : perL R (compL (ent (crM R)) R.length v) ∣ x := (hd _).2 (Int.dvd_refl _)
  exact Int.dvd_antisymm hx (perL_nonneg _ _) a b
theorem per_pos {v : Nat} (hv : v < R.length) (hc : crN R v = true) : 1 ≤ perL R (compL (ent (crM R)) R.length v) ∧ perL R (compL (ent (crM R)) R.length v) ≤ R.length := by
  obtain ⟨n1, n2, -⟩ := sq_sm h1
  have hex : ∃ q, Wr (ent (crM R)) R.length q ∧ relB (ent (crM R)) R.length v (vx q 0) = true := by
    refine Classical.byContradiction fun hno => ?_
    unfold crN at hc
    obtain ⟨w, hw, hvw⟩ := List.any_eq_true.1 hc
    have hw := List.mem_range.1 hw
    obtain ⟨r, z, z0, zr, zl, za⟩ := crit_back h1 h2 hw hv hvw
    obtain ⟨g, g0, ge, ga, gq⟩ := walk_join (P := fun a b => ent (crM R) b a ≠ -1000000000000000) (x := fun i => if i = 0 then v else w) (y := z) (s := 1) (t := r) (by simp [z0]) (fun i hi => by
      obtain rfl : i = 0 := by omega
      simpa using (crM_iff h1 h2 hw hv).2 hvw) za
    have := closed_v h1 h2 (v := v) (d := 0) (fun q a b => absurd ⟨q, a, b⟩ hno) (by rw [g0]; rfl) (by rw [ge, zr]) ga (gq (fun a => a < R.length) (fun i hi => by
      show (if i = 0 then v else w) < R.length
      split
      · exact hv
      · exact hw) zl)
    have := Int.zero_dvd.1 this
    omega
  obtain ⟨q, hq, hr⟩ := hex
  have hdv := (perL_iff (R := R) n1 (v := v) (d := perL R (compL (ent (crM R)) R.length v))).1 (Int.dvd_refl _) q hq hr
  have hnn := perL_nonneg R (compL (ent (crM R)) R.length v)
  have q1 := hq.1
  have hle := Int.le_of_dvd (by omega) hdv
  have hlen := wr_len hq
  refine ⟨?_, by omega⟩
  rcases Int.lt_or_eq_of_le hnn with h | h
  · omega
  · rw [← h] at hdv
    have := Int.zero_dvd.1 hdv
    omega
end
end M
end Go.Proofs.YtlljnfljcdljaabGreat
