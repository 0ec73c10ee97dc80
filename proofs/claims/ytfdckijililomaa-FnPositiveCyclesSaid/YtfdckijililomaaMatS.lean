/- Plain facts: a found cycle is a cycle with a gain; a cycle that is turned by one place keeps its weight. -/
import Derived.Test.YtfdckijililomaaMatR
import Derived.Test.YtfdckijililomaaMatG
namespace Go.Proofs.Ytfdckijililomaa
namespace M
theorem pick_is {g : Nat → List Int} : ∀ c k, (pick g c k).length ≠ 0 → ∃ v, k ≤ v ∧ v < k + c ∧ pick g c k = g v := by
  intro c
  induction c with
  | zero => intro k h; exact absurd rfl h
  | succ c ih =>
    intro k h
    by_cases e : (g k).length = 0
    · have e2 : pick g (c + 1) k = pick g c (k + 1) := if_pos e
      rw [e2] at h
      obtain ⟨v, h1, h2, h3⟩ := ih _ h
      exact ⟨v, by omega, by omega, by rw [e2, h3]⟩
    · exact ⟨k, Nat.le_refl _, by omega, if_neg e⟩
/-- What a grown path is. -/
def Found (A : Nat → Nat → Int) (n : Nat) (q : List Int) : Prop :=
  nodesB n q = true ∧ diffB q = true ∧ 1 ≤ q.length ∧ wkc A (vx q) (q.length - 1) ≠ -1000000000000000 ∧ A (vx q 0) (lastV q) ≠ -1000000000000000 ∧ 0 < wkc A (vx q) (q.length - 1) + A (vx q 0) (lastV q)
theorem grow_is {A : Nat → Nat → Int} {n : Nat} (hA : ∀ i j, i < n → j < n → Sm 1000001000000 (A i j)) (f : Nat) : ∀ p wt, nodesB n p = true → diffB p = true → 1 ≤ p.length → p.length + f ≤ 100 → wt = wkc A (vx p) (p.length - 1) → wt ≠ -1000000000000000 → (grow A n 0 f p wt).length ≠ 0 →
    Found A n (grow A n 0 f p wt) := by
  induction f with
  | zero => intro p wt _ _ _ _ _ _ h; exact absurd rfl h
  | succ f ih =>
    intro p wt hp hd h1 hf hw hb h
    by_cases hc : clB A 0 p wt = true
    · rw [grow_yes hc]
      unfold clB at hc
      rw [Bool.and_eq_true, decide_eq_true_eq, decide_eq_true_eq] at hc
      exact ⟨hp, hd, h1, by rw [← hw]; exact hb, hc.1, by rw [← hw]; exact hc.2⟩
    · rw [grow_no (by simpa using hc)] at h ⊢
      obtain ⟨v, hv1, hv2, hv3⟩ := pick_is _ _ h
      rw [hv3] at h ⊢
      have hvn : v < n := by omega
      unfold stepG at h ⊢
      split at h
      · exact absurd rfl h
      · next hne =>
        rw [if_neg hne]
        have ha : A v (lastV p) ≠ -1000000000000000 := fun e => hne (.inl e)
        have hhb : hasB p (v : Int) = false := by
          cases e : hasB p (v : Int) with
          | false => rfl
          | true => exact absurd (.inr e) hne
        have hl : lastV p < n := vx_lt hp (by omega)
        have hsm := wkc_sm (A := A) (v := vx p) (t := p.length - 1) (fun u hu => hA _ _ (vx_lt hp (by omega)) (vx_lt hp (by omega)))
        rw [← hw] at hsm
        have hsa := hA v (lastV p) hvn hl
        refine ih (p ++ [(v : Int)]) _ (nodesB_snoc hp hvn) (diffB_snoc hd hhb) (by simp) (by simp; omega) ?_ ?_ h
        · rw [List.length_append, List.length_singleton, Nat.add_sub_cancel]
          obtain ⟨m, hm⟩ : ∃ m, p.length = m + 1 := ⟨p.length - 1, by omega⟩
          have e1 : wkc A (vx (p ++ [(v : Int)])) m = wt := by
            rw [hw, show p.length - 1 = m by omega]
            exact wkc_congr fun u hu => snoc_vx (by omega)
          have e2 : vx (p ++ [(v : Int)]) (m + 1) = v := by rw [← hm]; exact snoc_vxl
          have e3 : vx (p ++ [(v : Int)]) m = lastV p := by rw [snoc_vx (by omega)]; unfold lastV; rw [show p.length - 1 = m by omega]
          rw [hm]
          show _ = times (wkc A _ m) (A _ _)
          rw [e1, e2, e3, times_fin hb ha]
        · unfold Sm at hsm hsa
          omega
theorem over_is {A : Nat → Nat → Int} {n : Nat} (hn : n ≤ 10) (hA : ∀ i j, i < n → j < n → Sm 1000001000000 (A i j)) (h : (overL A n 0).length ≠ 0) : Found A n (overL A n 0) := by
  unfold overL at h ⊢
  obtain ⟨v, hv1, hv2, hv3⟩ := pick_is _ _ h
  rw [hv3] at h ⊢
  refine grow_is hA n [(v : Int)] 0 ?_ ?_ (by simp) (by simp; omega) rfl (by omega) h
  · unfold nodesB; simp [inN]; omega
  · exact diffB_of (fun i hi => by simp at hi; subst hi; rfl)
theorem chk_pos {a : Int} (h : 0 < a) : (chk a).2 = 3 ∨ (chk a).2 = 0 ∧ 0 < (chk a).1 := by
  unfold chk
  split
  · exact .inr ⟨rfl, h⟩
  · exact .inl rfl
theorem sm_of {R : List (List Int)} (hs : sqB R = true) : R.length ≤ 10 ∧ ∀ i j, i < R.length → j < R.length → Sm 1000001000000 (ent R i j) := by
  obtain ⟨h1, h2⟩ := sqB_t hs
  obtain ⟨-, m2, -, -, -, m6⟩ := isMat_t h1
  exact ⟨m2, fun i j hi hj => sm_wide (sm_val (m6 i hi j (by rw [← h2]; exact hj)))⟩
/-- The cycle that PositiveCycle tells has a weight over 0, or one that is no value. -/
theorem pos_gain (R : List (List Int)) (h : (posRes R).2 = 0) : (cycRes R (posRes R).1).2 = 3 ∨ (cycRes R (posRes R).1).2 = 0 ∧ 0 < (cycRes R (posRes R).1).1 := by
  by_cases hs : sqB R = true
  · obtain ⟨hn, hA⟩ := sm_of hs
    by_cases h0 : (overL (ent R) R.length 0).length = 0
    · unfold posRes at h
      rw [if_pos hs, if_pos h0] at h
      exact absurd h (by decide)
    · have e : posRes R = (overL (ent R) R.length 0, 0) := by unfold posRes; rw [if_pos hs, if_neg h0]
      rw [e]
      obtain ⟨f1, f2, f3, f4, f5, f6⟩ := over_is hn hA h0
      show (cycRes R (overL (ent R) R.length 0)).2 = 3 ∨ _
      generalize overL (ent R) R.length 0 = q at f1 f2 f3 f4 f5 f6 ⊢
      have ea : aroundW R q = wkc (ent R) (vx q) (q.length - 1) + ent R (vx q 0) (lastV q) := times_fin f4 f5
      have hl := diffB_len f1 f2
      have hb : aroundW R q ≠ -1000000000000000 := by omega
      have hc : cycB R q = true := by unfold cycB; rw [f1, f2]; simp [f3, hb]
      unfold cycRes
      rw [if_pos hs, if_pos hc]
      exact chk_pos (by omega)
  · unfold posRes at h
    rw [if_neg hs] at h
    exact absurd h (by decide)
theorem diffB_iff {l : List Int} : diffB l = true ↔ l.Nodup := by
  constructor
  · intro h
    unfold List.Nodup
    rw [List.pairwise_iff_getElem]
    intro i j hi hj hij e
    have := diffB_t h hj
    have hm : hasB (l.take j) (l.getD j 0) = true := hasB_iff.2 (by
      simp only [List.getD_eq_getElem?_getD, List.getElem?_eq_getElem hj, Option.getD_some]
      rw [← e]
      exact List.mem_take_iff_getElem.2 ⟨i, by omega, rfl⟩)
    rw [hm] at this
    cases this
  · intro h
    unfold List.Nodup at h
    rw [List.pairwise_iff_getElem] at h
    refine diffB_of fun j hj => ?_
    cases e : hasB (l.take j) (l.getD j 0) with
    | false => rfl
    | true =>
      have hm := hasB_iff.1 e
      simp only [List.getD_eq_getElem?_getD, List.getElem?_eq_getElem hj, Option.getD_some] at hm
      obtain ⟨i, hi, he⟩ := List.mem_take_iff_getElem.1 hm
      exact absurd he (h i j (by omega) hj (by omega))
theorem turn_same (f : Nat → Nat → Option Int) (v : Nat → Nat) (s r : Nat) (h2 : v s = v 0) (hr : r < s) : owk f (fun u => v ((r + u) % s)) s = owk f v s := by
  have e1 : owk f (fun u => v ((r + u) % s)) s = omul (owk f v r) (owk f (fun u => v (r + u)) (s - r)) := by
    have : owk f (fun u => v ((r + u) % s)) ((s - r) + r) = omul (owk f v r) (owk f (fun u => v (r + u)) (s - r)) := by
      rw [owk_add]
      congr 1
      · refine owk_congr fun u hu => ?_
        show v ((r + (s - r + u)) % s) = v u
        rw [show r + (s - r + u) = u + s by omega, Nat.add_mod_right, Nat.mod_eq_of_lt (by omega)]
      · refine owk_congr fun u hu => ?_
        show v ((r + u) % s) = v (r + u)
        by_cases hx : r + u < s
        · rw [Nat.mod_eq_of_lt hx]
        · obtain rfl : u = s - r := by omega
          rw [show r + (s - r) = s by omega, Nat.mod_self, h2]
    rwa [show (s - r) + r = s by omega] at this
  have e2 : owk f v s = omul (owk f (fun u => v (r + u)) (s - r)) (owk f v r) := by
    rw [← owk_add, show r + (s - r) = s by omega]
  rw [e1, e2, omul_comm]
/-- The way around, as a walk over nodes modulo the length. -/
theorem around_owk {R : List (List Int)} {n : Nat} (hA : ∀ i j, i < n → j < n → Sm 1000001000000 (ent R i j)) {l : List Int} (h1 : 1 ≤ l.length) (h2 : l.length ≤ 99) (hv : nodesB n l = true) :
    o (aroundW R l) = owk (fun i j => o (ent R i j)) (fun u => vx l (u % l.length)) l.length := by
  obtain ⟨m, hm⟩ : ∃ m, l.length = m + 1 := ⟨l.length - 1, by omega⟩
  have hlt : ∀ u, u < l.length → vx l u < n := fun u hu => vx_lt hv hu
  have e : aroundW R l = wkc (ent R) (fun u => vx l (u % l.length)) l.length := by
    rw [hm]
    show times (wkc (ent R) (vx l) (l.length - 1)) (ent R (vx l 0) (vx l (l.length - 1))) = times (wkc (ent R) (fun u => vx l (u % (m + 1))) m) (ent R (vx l ((m + 1) % (m + 1))) (vx l (m % (m + 1))))
    rw [show l.length - 1 = m by omega, Nat.mod_self, Nat.mod_eq_of_lt (show m < m + 1 by omega), wkc_congr (v' := fun u => vx l (u % (m + 1))) (fun u hu => by rw [Nat.mod_eq_of_lt (by omega)])]
  rw [e]
  exact o_wkc (by omega) (fun u hu => hA _ _ (hlt _ (Nat.mod_lt _ (by omega))) (hlt _ (Nat.mod_lt _ (by omega))))
theorem around_turn {R : List (List Int)} {n : Nat} (hA : ∀ i j, i < n → j < n → Sm 1000001000000 (ent R i j)) {x : Int} {t : List Int} (h2 : t.length < 99) (hv : nodesB n (x :: t) = true) (hv2 : nodesB n (t ++ [x]) = true) :
    aroundW R (t ++ [x]) = aroundW R (x :: t) := by
  by_cases h0 : t = []
  · subst h0; rfl
  have ht : 0 < t.length := List.length_pos_iff.2 h0
  refine o_inj ?_
  rw [around_owk hA (by simp) (by simp; omega) hv2, around_owk hA (by simp) (by simp; omega) hv]
  have hl : (t ++ [x]).length = (x :: t).length := by simp
  rw [hl, ← turn_same _ (fun u => vx (x :: t) (u % (x :: t).length)) (x :: t).length 1 (by rw [Nat.mod_self]; rfl) (by simp; omega)]
  refine owk_congr fun u hu => ?_
  show vx (t ++ [x]) (u % (x :: t).length) = vx (x :: t) ((1 + u) % (x :: t).length % (x :: t).length)
  rw [Nat.mod_mod]
  have hs : (x :: t).length = t.length + 1 := by simp
  rw [hs] at hu ⊢
  by_cases hu1 : u < t.length
  · rw [Nat.mod_eq_of_lt (show u < t.length + 1 by omega), Nat.mod_eq_of_lt (show 1 + u < t.length + 1 by omega)]
    unfold vx
    rw [Nat.add_comm 1 u]
    simp [List.getD_eq_getElem?_getD, List.getElem?_append_left hu1]
  · by_cases hu2 : u = t.length
    · subst hu2
      rw [Nat.mod_eq_of_lt (show t.length < t.length + 1 by omega), show 1 + t.length = t.length + 1 by omega, Nat.mod_self]
      unfold vx
      simp [List.getD_eq_getElem?_getD]
    · obtain rfl : u = t.length + 1 := by omega
      rw [Nat.mod_self, show 1 + (t.length + 1) = 1 + (t.length + 1) by rfl, Nat.add_mod_right, Nat.mod_eq_of_lt (show 1 < t.length + 1 by omega)]
      unfold vx
      simp only [List.getD_eq_getElem?_getD, List.getElem?_append_left ht, List.getElem?_cons_succ]
/-- A cycle that is turned by one place is a cycle of the same weight. -/
theorem cyc_turn (R : List (List Int)) (l : List Int) (h : (cycRes R l).2 = 0) : isCycB R l = true ∧ 1 ≤ l.length ∧ l.length ≤ 10 ∧ cycRes R (l.drop 1 ++ [l.getD 0 0]) = cycRes R l := by
  by_cases hs : sqB R = true
  · obtain ⟨hn, hA⟩ := sm_of hs
    by_cases hc : cycB R l = true
    · have hc' := hc
      unfold cycB at hc'
      rw [Bool.and_eq_true, Bool.and_eq_true, Bool.and_eq_true, decide_eq_true_eq, decide_eq_true_eq] at hc'
      obtain ⟨⟨⟨c1, c2⟩, c3⟩, c4⟩ := hc'
      have hl := diffB_len c2 c3
      refine ⟨by unfold isCycB; rw [hs, hc]; rfl, c1, by omega, ?_⟩
      cases l with
      | nil => exact absurd c1 (by decide)
      | cons x t =>
        show cycRes R (t ++ [x]) = _
        have v2 : nodesB R.length (t ++ [x]) = true := by
          unfold nodesB at c2 ⊢
          rw [List.all_append]
          simp only [List.all_cons, Bool.and_eq_true] at c2
          simp [c2.1, c2.2]
        have d2 : diffB (t ++ [x]) = true := by
          rw [diffB_iff] at c3 ⊢
          exact ((List.perm_append_comm (l₁ := t) (l₂ := [x])).nodup_iff).2 c3
        have ea := around_turn hA (x := x) (t := t) (by simp at hl; omega) c2 v2
        have hc2 : cycB R (t ++ [x]) = true := by unfold cycB; rw [v2, d2, ea]; simp [c4]
        unfold cycRes
        rw [hs, hc, hc2, ea]
    · unfold cycRes at h
      rw [if_pos hs, if_neg hc] at h
      exact absurd h (by decide)
  · unfold cycRes at h
    rw [if_neg hs] at h
    exact absurd h (by decide)
end M
end Go.Proofs.Ytfdckijililomaa
