/- Texts laid together: MatZ. -/
import Derived.Test.YtlofnadpgnbmdaaGreatQa1
set_option linter.unusedSimpArgs false
set_option linter.unusedVariables false
set_option linter.unusedSectionVars false
namespace Go.Proofs.YtlofnadpgnbmdaaGreat
namespace M
theorem mod_turn {r a s : Nat} (hr : r < s) (ha : a ≤ s) : (r + a) % s = if r + a < s then r + a else r + a - s := by
  split
  · next h => exact Nat.mod_eq_of_lt h
  · next h => rw [Nat.mod_eq_sub_mod (by omega), Nat.mod_eq_of_lt (by omega)]
/-- A closed path over the number is found. -/
theorem over_finds {A : Nat → Nat → Int} {n : Nat} {ov : Int} (hn : n ≤ 10) (hA : ∀ i j, i < n → j < n → Sm 1000001000000 (A i j)) {v0 : Nat → Nat} {s : Nat} (hs1 : 1 ≤ s) (hcl : v0 s = v0 0) (hv0 : ∀ u, u ≤ s → v0 u < n)
    (hdis0 : ∀ a b, a < b → b < s → v0 a ≠ v0 b) (hfin0 : wkc A v0 s ≠ -1000000000000000) (hpos0 : ov < wkc A v0 s) : (overL A n ov).length ≠ 0 := by
  obtain ⟨r, hr, hm⟩ := least_at v0 s hs1
  obtain ⟨v, hvd⟩ : ∃ v : Nat → Nat, v = fun u => v0 ((r + u) % s) := ⟨_, rfl⟩
  have hsn : s ≤ n := by
    apply Classical.byContradiction
    intro hc
    obtain ⟨a, b, hab, hb, e⟩ := pigeon n v0 (fun t ht => hv0 t (by omega))
    exact hdis0 a b hab (by omega) e
  have hlt : ∀ u, (r + u) % s < s := fun u => Nat.mod_lt _ (by omega)
  have hv : ∀ u, u ≤ s → v u < n := fun u _ => by rw [hvd]; exact hv0 _ (by have := hlt u; omega)
  have hcl0 : v s = v 0 := by rw [hvd]; show v0 ((r + s) % s) = v0 ((r + 0) % s); rw [Nat.add_mod_right, Nat.add_zero]
  have hdis : ∀ a b, a < b → b < s → v a ≠ v b := fun a b hab hb => by
    rw [hvd]
    show v0 ((r + a) % s) ≠ v0 ((r + b) % s)
    have ha := mod_turn hr (show a ≤ s by omega)
    have hb' := mod_turn hr (show b ≤ s by omega)
    have h1 := hlt a
    have h2 := hlt b
    have hne : (r + a) % s ≠ (r + b) % s := by
      rw [ha, hb']; split <;> split <;> omega
    rcases Nat.lt_or_gt_of_ne hne with h | h
    · exact hdis0 _ _ h h2
    · exact (hdis0 _ _ h h1).symm
  have hmin : ∀ u, 0 < u → u < s → v 0 < v u := fun u hu hus => by
    have h1 := hdis 0 u hu hus
    have h2 : v 0 ≤ v u := by
      rw [hvd]
      show v0 ((r + 0) % s) ≤ v0 ((r + u) % s)
      rw [Nat.add_zero, Nat.mod_eq_of_lt hr]
      exact hm _ (hlt u)
    omega
  have ew : wkc A v s = wkc A v0 s := by
    refine o_inj ?_
    rw [o_wkc (by omega) (fun u hu => hA _ _ (hv _ (by omega)) (hv _ (by omega))), o_wkc (by omega) (fun u hu => hA _ _ (hv0 _ (by omega)) (hv0 _ (by omega))), hvd]
    exact turn_same _ v0 s r hcl hr
  rw [← ew] at hfin0 hpos0
  have hw : ∀ k, k ≤ s → wkc A v k ≠ -1000000000000000 := fun k hk e => hfin0 (wkc_bot e hk)
  have harc : ∀ u, u < s → A (v (u + 1)) (v u) ≠ -1000000000000000 := fun u hu e => hw (u + 1) (by omega) (by
    show times _ (A (v (u + 1)) (v u)) = _
    unfold times; rw [if_pos (.inr e)])
  obtain ⟨m, rfl⟩ : ∃ m, s = m + 1 := ⟨s - 1, by omega⟩
  have e1 : wkc A v (m + 1) = wkc A v m + A (v 0) (v m) := by
    rw [← hcl0]
    exact times_fin (hw m (by omega)) (harc m (by omega))
  rw [e1] at hpos0
  have hc0 : A (v 0) (v m) ≠ -1000000000000000 := by rw [← hcl0]; exact harc m (by omega)
  have := dfs_finds (A := A) (n := n) (ov := ov) v (m + 1) (fun u hu => hv u (by omega)) hmin hdis (fun u hu => harc u (by omega)) (fun k hk => hw k (by omega)) (by rw [Nat.add_sub_cancel]; exact hc0) (by rw [Nat.add_sub_cancel]; exact hpos0) m 0 n (by omega) (by omega)
  exact pick_some (v := v 0) _ _ (Nat.zero_le _) (by have := hv 0 (by omega); omega) this
/-- What a grown path is. -/
def Fnd (A : Nat → Nat → Int) (n : Nat) (ov : Int) (q : List Int) : Prop :=
  nodesB n q = true ∧ diffB q = true ∧ 1 ≤ q.length ∧ wkc A (vx q) (q.length - 1) ≠ -1000000000000000 ∧ A (vx q 0) (lastV q) ≠ -1000000000000000 ∧ ov < wkc A (vx q) (q.length - 1) + A (vx q 0) (lastV q)
theorem snoc_wt {A : Nat → Nat → Int} {n : Nat} (hA : ∀ i j, i < n → j < n → Sm 1000001000000 (A i j)) {p : List Int} {wt : Int} {v : Nat} (hp : nodesB n p = true) (h1 : 1 ≤ p.length) (h2 : p.length < 100) (hw : wt = wkc A (vx p) (p.length - 1)) (hb : wt ≠ -1000000000000000) (hvn : v < n) (ha : A v (lastV p) ≠ -1000000000000000) :
    wt + A v (lastV p) = wkc A (vx (p ++ [(v : Int)])) ((p ++ [(v : Int)]).length - 1) ∧ wt + A v (lastV p) ≠ -1000000000000000 := by
  have hl : lastV p < n := vx_lt hp (by omega)
  have hsm := wkc_sm (A := A) (v := vx p) (t := p.length - 1) (fun u hu => hA _ _ (vx_lt hp (by omega)) (vx_lt hp (by omega)))
  rw [← hw] at hsm
  have hsa := hA v (lastV p) hvn hl
  refine ⟨?_, ?_⟩
  · rw [List.length_append, List.length_singleton, Nat.add_sub_cancel]
    obtain ⟨m, hm⟩ : ∃ m, p.length = m + 1 := ⟨p.length - 1, by omega⟩
    have e1 : wkc A (vx (p ++ [(v : Int)])) m = wt := by
      rw [hw, show p.length - 1 = m by omega]
      exact wkc_congr fun u hu => snoc_vx (by omega)
    have e2 : vx (p ++ [(v : Int)]) (m + 1) = v := by rw [← hm]; exact snoc_vxl
    have e3 : vx (p ++ [(v : Int)]) m = lastV p := by rw [snoc_vx (by omega)]; unfold lastV; rw [show p.length - 1 = m by omega]
    rw [hm]
    show _ = times (wkc A _ m) (A _ _)
    rw [e1, e2, e3, times_fin hb ha]
  · unfold Sm at hsm hsa
    omega
theorem grow_fnd {A : Nat → Nat → Int} {n : Nat} {ov : Int} (hA : ∀ i j, i < n → j < n → Sm 1000001000000 (A i j)) (f : Nat) : ∀ p wt, nodesB n p = true → diffB p = true → 1 ≤ p.length → p.length + f ≤ 100 → wt = wkc A (vx p) (p.length - 1) → wt ≠ -1000000000000000 → (grow A n ov f p wt).length ≠ 0 →
    Fnd A n ov (grow A n ov f p wt) ∧ ∃ t, grow A n ov f p wt = p ++ t := by
  induction f with
  | zero => intro p wt _ _ _ _ _ _ h; exact absurd rfl h
  | succ f ih =>
    intro p wt hp hd h1 hf hw hb h
    by_cases hc : clB A ov p wt = true
    · rw [grow_yes hc]
      unfold clB at hc
      rw [Bool.and_eq_true, decide_eq_true_eq, decide_eq_true_eq] at hc
      exact ⟨⟨hp, hd, h1, by rw [← hw]; exact hb, hc.1, by rw [← hw]; exact hc.2⟩, [], by simp⟩
    · rw [grow_no (by simpa using hc)] at h ⊢
      obtain ⟨v, hv1, hv2, hv3⟩ := pick_is _ _ h
      rw [hv3] at h ⊢
      have hvn : v < n := by omega
      unfold stepG at h ⊢
      split at h
      · exact absurd rfl h
      · next hne =>
        rw [if_neg hne]
        have ha : A v (lastV p) ≠ -1000000000000000 := fun e => hne (.inl e)
        have hhb : hasB p (v : Int) = false := by
          cases e : hasB p (v : Int) with
          | false => rfl
          | true => exact absurd (.inr e) hne
        obtain ⟨s1, s2⟩ := snoc_wt hA hp h1 (by omega) hw hb hvn ha
        obtain ⟨q1, t, q2⟩ := ih (p ++ [(v : Int)]) _ (nodesB_snoc hp hvn) (diffB_snoc hd hhb) (by simp) (by simp; omega) s1 s2 h
        exact ⟨q1, [(v : Int)] ++ t, by rw [q2, List.append_assoc]⟩
theorem one_ok {n v : Nat} (hv : v < n) : nodesB n [(v : Int)] = true ∧ diffB [(v : Int)] = true :=
  ⟨by unfold nodesB; simp [inN]; omega, diffB_of (fun i hi => by simp at hi; subst hi; rfl)⟩
theorem over_fnd {A : Nat → Nat → Int} {n : Nat} {ov : Int} (hn : n ≤ 10) (hA : ∀ i j, i < n → j < n → Sm 1000001000000 (A i j)) (h : (overL A n ov).length ≠ 0) : Fnd A n ov (overL A n ov) := by
  unfold overL at h ⊢
  obtain ⟨v, hv1, hv2, hv3⟩ := pick_is _ _ h
  rw [hv3] at h ⊢
  obtain ⟨o1, o2⟩ := one_ok (show v < n by omega)
  exact (grow_fnd hA n [(v : Int)] 0 o1 o2 (by simp) (by simp; omega) rfl (by omega) h).1
theorem pick_congr {g g' : Nat → List Int} : ∀ c k, (∀ v, k ≤ v → v < k + c → g v = g' v) → pick g c k = pick g' c k := by
  intro c
  induction c with
  | zero => intro k _; rfl
  | succ c ih =>
    intro k h
    show (if _ then _ else _) = (if _ then _ else _)
    rw [h k (Nat.le_refl _) (by omega), ih (k + 1) fun v h1 h2 => h v (by omega) (by omega)]
theorem clB_congr {A A' : Nat → Nat → Int} {ov wt : Int} {p : List Int} (h : A' (vx p 0) (lastV p) = A (vx p 0) (lastV p)) : clB A' ov p wt = clB A ov p wt := by unfold clB; rw [h]
/-- Arcs that lie on no cycle over the number may be left out. -/
theorem grow_cut {A A' : Nat → Nat → Int} {n : Nat} {ov : Int} (hA : ∀ i j, i < n → j < n → Sm 1000001000000 (A i j)) (hA' : ∀ i j, i < n → j < n → A' i j = A i j ∨ A' i j = -1000000000000000)
    (hk : ∀ q, Fnd A n ov q → (∀ u, u + 1 < q.length → A' (vx q (u + 1)) (vx q u) = A (vx q (u + 1)) (vx q u)) ∧ A' (vx q 0) (lastV q) = A (vx q 0) (lastV q)) (f : Nat) :
    ∀ p wt, nodesB n p = true → diffB p = true → 1 ≤ p.length → p.length + f ≤ 100 → wt = wkc A (vx p) (p.length - 1) → wt ≠ -1000000000000000 → grow A' n ov f p wt = grow A n ov f p wt := by
  induction f with
  | zero => intro p wt _ _ _ _ _ _; rfl
  | succ f ih =>
    intro p wt hp hd h1 hf hw hb
    have h0 : vx p 0 < n := vx_lt hp (by omega)
    have hl : lastV p < n := vx_lt hp (by omega)
    by_cases hc : clB A ov p wt = true
    · have hcc := hc
      unfold clB at hcc
      rw [Bool.and_eq_true, decide_eq_true_eq, decide_eq_true_eq] at hcc
      have hkk := (hk p ⟨hp, hd, h1, by rw [← hw]; exact hb, hcc.1, by rw [← hw]; exact hcc.2⟩).2
      rw [grow_yes hc, grow_yes ((clB_congr hkk).trans hc)]
    · have hc2 : clB A ov p wt = false := by simpa using hc
      have hc3 : clB A' ov p wt = false := by
        rcases hA' _ _ h0 hl with e | e
        · exact (clB_congr e).trans hc2
        · unfold clB; rw [e]; simp
      rw [grow_no hc2, grow_no hc3]
      refine pick_congr _ _ fun v hv1 hv2 => ?_
      have hvn : v < n := by omega
      by_cases ha : A v (lastV p) = -1000000000000000
      · have ha' : A' v (lastV p) = -1000000000000000 := by
          rcases hA' _ _ hvn hl with e | e
          · rw [e, ha]
          · exact e
        unfold stepG; rw [if_pos (.inl ha'), if_pos (.inl ha)]
      · cases hh : hasB p (v : Int) with
        | true => unfold stepG; rw [if_pos (.inr hh), if_pos (.inr hh)]
        | false =>
          obtain ⟨s1, s2⟩ := snoc_wt hA hp h1 (by omega) hw hb hvn ha
          rw [step_go ha hh]
          rcases hA' _ _ hvn hl with e | e
          · rw [step_go (by rw [e]; exact ha) hh, e]
            exact ih _ _ (nodesB_snoc hp hvn) (diffB_snoc hd hh) (by simp) (by simp; omega) s1 s2
          · have e2 : stepG A' n ov f p wt v = [] := by unfold stepG; rw [if_pos (.inl e)]
            rw [e2]
            apply Classical.byContradiction
            intro hne
            have hne' : (grow A n ov f (p ++ [(v : Int)]) (wt + A v (lastV p))).length ≠ 0 := fun z => hne (List.length_eq_zero_iff.1 z).symm
            obtain ⟨q1, t, q2⟩ := grow_fnd hA f _ _ (nodesB_snoc hp hvn) (diffB_snoc hd hh) (by simp) (by simp; omega) s1 s2 hne'
            have q3 := (hk _ q1).1 (p.length - 1) (by rw [q2]; simp; omega)
            rw [q2, show p.length - 1 + 1 = p.length by omega] at q3
            have v1 : vx (p ++ [(v : Int)] ++ t) p.length = v := by unfold vx; simp [List.getD_eq_getElem?_getD]
            have v2 : vx (p ++ [(v : Int)] ++ t) (p.length - 1) = lastV p := by
              unfold lastV vx
              rw [List.append_assoc, List.getD_eq_getElem?_getD, List.getElem?_append_left (by omega), ← List.getD_eq_getElem?_getD]
            rw [v1, v2, e] at q3
            exact ha q3.symm
theorem over_cut {A A' : Nat → Nat → Int} {n : Nat} {ov : Int} (hn : n ≤ 10) (hA : ∀ i j, i < n → j < n → Sm 1000001000000 (A i j)) (hA' : ∀ i j, i < n → j < n → A' i j = A i j ∨ A' i j = -1000000000000000)
    (hk : ∀ q, Fnd A n ov q → (∀ u, u + 1 < q.length → A' (vx q (u + 1)) (vx q u) = A (vx q (u + 1)) (vx q u)) ∧ A' (vx q 0) (lastV q) = A (vx q 0) (lastV q)) : overL A' n ov = overL A n ov :=
  pick_congr _ _ fun v _ hv => by
    obtain ⟨o1, o2⟩ := one_ok (show v < n by omega)
    exact grow_cut hA hA' hk n [(v : Int)] 0 o1 o2 (by simp) (by simp; omega) rfl (by omega)
end M
end Go.Proofs.YtlofnadpgnbmdaaGreat

namespace Go.Proofs.YtlofnadpgnbmdaaGreat
namespace M
theorem owk_eq {f g : Nat → Nat → Option Int} {n : Nat} (h : ∀ i j, i < n → j < n → f i j = g i j) (v : Nat → Nat) (s : Nat) (hv : ∀ u, u ≤ s → v u < n) : owk f v s = owk g v s := by
  induction s with
  | zero => rfl
  | succ s ih =>
    show omul _ _ = omul _ _
    rw [ih fun u hu => hv u (by omega), h _ _ (hv (s + 1) (by omega)) (hv s (by omega))]
/-- Weights shifted by a ratio. -/
def osh (f : Nat → Nat → Option Int) (a b : Int) (i j : Nat) : Option Int := (f i j).map fun x => b * x - a
theorem owk_sh (f : Nat → Nat → Option Int) (a b : Int) (v : Nat → Nat) (s : Nat) : owk (osh f a b) v s = (owk f v s).map fun w => b * w - s * a := by
  induction s with
  | zero => show some (0 : Int) = some (b * 0 - ((0 : Nat) : Int) * a); simp
  | succ s ih =>
    show omul (osh f a b (v (s + 1)) (v s)) (owk (osh f a b) v s) = Option.map _ (omul (f (v (s + 1)) (v s)) (owk f v s))
    rw [ih]
    unfold osh
    cases f (v (s + 1)) (v s) with
    | none => simp [omul]
    | some x =>
      cases owk f v s with
      | none => simp [omul]
      | some w =>
        simp only [omul, Option.map_some]
        congr 1
        rw [Int.mul_add, show (((s + 1 : Nat) : Int)) = (s : Int) + 1 by omega, Int.add_mul]
        omega
def shf (A : Nat → Nat → Int) (a b : Int) (i j : Nat) : Int := if A i j = -1000000000000000 then -1000000000000000 else b * A i j - a
/-- What is asked of a ratio by which a matrix is shifted. -/
def Near (a b : Int) : Prop := 1 ≤ b ∧ 1000000 * b - a ≤ 1000001000000 ∧ 1000000 * b + a ≤ 1000001000000
theorem near_rat {a b : Int} (h : isRat a b = true) : Near a b := by
  obtain ⟨h1, h2, h3, h4, -⟩ := isRat_t h
  unfold Near; omega
theorem shf_fin {A : Nat → Nat → Int} {a b : Int} (hn : Near a b) {i j : Nat} (h : Sm 1000000 (A i j)) (hb : A i j ≠ -1000000000000000) : shf A a b i j = b * A i j - a ∧ -1000001000000 ≤ b * A i j - a ∧ b * A i j - a ≤ 1000001000000 := by
  obtain ⟨h1, h2, h3⟩ := hn
  have hx : -1000000 ≤ A i j ∧ A i j ≤ 1000000 := by unfold Sm at h; omega
  have p1 := Int.mul_le_mul_of_nonneg_left hx.2 (show (0 : Int) ≤ b by omega)
  have p2 := Int.mul_le_mul_of_nonneg_left hx.1 (show (0 : Int) ≤ b by omega)
  unfold shf
  rw [if_neg hb]
  omega
theorem shf_sm {A : Nat → Nat → Int} {a b : Int} (hn : Near a b) {i j : Nat} (h : Sm 1000000 (A i j)) : Sm 1000001000000 (shf A a b i j) := by
  by_cases hb : A i j = -1000000000000000
  · left; unfold shf; rw [if_pos hb]
  · obtain ⟨h1, h2, h3⟩ := shf_fin hn h hb
    right; rw [h1]; exact ⟨h2, h3⟩
theorem o_shf {A : Nat → Nat → Int} {a b : Int} (hn : Near a b) {i j : Nat} (h : Sm 1000000 (A i j)) : o (shf A a b i j) = osh (fun i j => o (A i j)) a b i j := by
  unfold osh
  by_cases hb : A i j = -1000000000000000
  · show _ = Option.map _ (o (A i j))
    rw [hb, o_bot]
    unfold shf; rw [if_pos hb]; exact o_bot
  · obtain ⟨h1, h2, h3⟩ := shf_fin hn h hb
    show _ = Option.map _ (o (A i j))
    rw [o_fin hb, o_fin (by rw [h1]; omega), h1]; rfl
section
variable {A : Nat → Nat → Int} {n : Nat} (hn : n ≤ 10) (hA : ∀ i j, i < n → j < n → Sm 1000000 (A i j)) {a b : Int} (hab : Near a b)
include hn hA hab
omit hn in
theorem sh_sm : ∀ i j, i < n → j < n → Sm 1000001000000 (shf A a b i j) := fun i j hi hj => shf_sm hab (hA i j hi hj)
omit hn in
theorem sh_owk (v : Nat → Nat) (s : Nat) (hv : ∀ u, u ≤ s → v u < n) : owk (fun i j => o (shf A a b i j)) v s = (owk (fun i j => o (A i j)) v s).map fun w => b * w - s * a := by
  rw [← owk_sh]
  exact owk_eq (fun i j hi hj => o_shf hab (hA i j hi hj)) v s hv
/-- No cycle has a greater mean. -/
theorem noPos_walk (h : noPos (shf A a b) n = true) {v : Nat → Nat} {s : Nat} {w : Int} (hc : v s = v 0) (hv : ∀ u, u ≤ s → v u < n) (hw : owk (fun i j => o (A i j)) v s = some w) : b * w ≤ s * a := by
  have hd := owk_diag (o_diag hn (sh_sm hA hab) h) v s hv hc
  rw [sh_owk hA hab v s hv, hw] at hd
  have : b * w - s * a ≤ 0 := hd
  omega
theorem noPos_of_walk (h : ∀ (v : Nat → Nat) (s : Nat) (w : Int), 1 ≤ s → s ≤ n → v s = v 0 → (∀ u, u ≤ s → v u < n) → (∀ i j, i < j → j < s → v i ≠ v j) → owk (fun i j => o (A i j)) v s = some w → b * w ≤ s * a) : noPos (shf A a b) n = true := by
  cases e : noPos (shf A a b) n with
  | true => rfl
  | false =>
    obtain ⟨v0, s0, g0⟩ := gain_of hn (sh_sm hA hab) e
    obtain ⟨s, v, g1, hl⟩ := gain_least g0
    have hdis : ∀ i j, i < j → j < s → v i ≠ v j := fun i j hij hj => gain_simple g1 hl hij hj
    obtain ⟨h1, h2, h3, h4⟩ := g1
    have hsn : s ≤ n := by
      apply Classical.byContradiction
      intro hc
      obtain ⟨i, j, hij, hj, e⟩ := pigeon n v (fun t ht => h3 t (by omega))
      exact hdis i j hij (by omega) e
    rw [sh_owk hA hab v s h3] at h4
    cases ew : owk (fun i j => o (A i j)) v s with
    | none => rw [ew] at h4; exact absurd (ole_none _) h4
    | some w =>
      rw [ew] at h4
      have h5 : ¬ (b * w - s * a ≤ 0) := h4
      have := h v s w h1 hsn h2 h3 hdis ew
      omega
end
/-- The ratio is the greatest mean of a cycle, in lowest terms. -/
def Best (A : Nat → Nat → Int) (n : Nat) (a b : Int) : Prop :=
  1 ≤ b ∧ Int.gcd a b = 1 ∧ (∀ (v : Nat → Nat) (s : Nat) (w : Int), v s = v 0 → (∀ u, u ≤ s → v u < n) → owk (fun i j => o (A i j)) v s = some w → b * w ≤ s * a) ∧
    ∃ (v : Nat → Nat) (s : Nat) (w : Int), 1 ≤ s ∧ s ≤ n ∧ v s = v 0 ∧ (∀ u, u ≤ s → v u < n) ∧ owk (fun i j => o (A i j)) v s = some w ∧ b * w = s * a
theorem cross_le {x y a b c d : Int} (hx : 0 < x) (h1 : d * y ≤ x * c) (h2 : b * y = x * a) (hb : 0 < b) (hd : 0 < d) : a * d ≤ c * b := by
  have e1 : b * (d * y) ≤ b * (x * c) := Int.mul_le_mul_of_nonneg_left h1 (by omega)
  have e2 : b * (d * y) = x * (a * d) := by rw [Int.mul_left_comm b d y, h2, Int.mul_left_comm d x a, Int.mul_comm d a]
  have e3 : b * (x * c) = x * (c * b) := by rw [Int.mul_left_comm b x c, Int.mul_comm b c]
  rw [e2, e3] at e1
  exact Int.le_of_mul_le_mul_left e1 hx
theorem cop_dvd {a b d : Int} (h : b ∣ a * d) (h1 : Int.gcd a b = 1) : b ∣ d := by
  have e : b.natAbs ∣ a.natAbs * d.natAbs := by rw [← Int.natAbs_mul]; exact Int.natAbs_dvd_natAbs.2 h
  have c : Nat.Coprime b.natAbs a.natAbs := by rw [Nat.coprime_comm]; exact h1
  exact Int.natAbs_dvd_natAbs.1 (Nat.Coprime.dvd_of_dvd_mul_left c e)
theorem lowest_eq {a b c d : Int} (hb : 1 ≤ b) (hd : 1 ≤ d) (h1 : Int.gcd a b = 1) (h2 : Int.gcd c d = 1) (h : a * d = c * b) : a = c ∧ b = d := by
  have d1 : b ∣ d := by
    have : b ∣ a * d := ⟨c, by rw [h, Int.mul_comm]⟩
    exact cop_dvd this h1
  have d2 : d ∣ b := by
    have : d ∣ c * b := ⟨a, by rw [← h, Int.mul_comm]⟩
    exact cop_dvd this h2
  have e : b = d := by
    have l1 := Int.le_of_dvd (by omega) d1
    have l2 := Int.le_of_dvd (by omega) d2
    omega
  subst e
  exact ⟨Int.eq_of_mul_eq_mul_right (by omega) h, rfl⟩
theorem best_eq {A : Nat → Nat → Int} {n : Nat} {a b c d : Int} (h : Best A n a b) (k : Best A n c d) : a = c ∧ b = d := by
  obtain ⟨h1, h2, h3, v, s, w, h4, h5, h6, h7, h8, h9⟩ := h
  obtain ⟨k1, k2, k3, v', s', w', k4, k5, k6, k7, k8, k9⟩ := k
  have e1 := cross_le (show (0 : Int) < s by omega) (k3 v s w h6 h7 h8) h9 (by omega) (by omega)
  have e2 := cross_le (show (0 : Int) < s' by omega) (h3 v' s' w' k6 k7 k8) k9 (by omega) (by omega)
  exact lowest_eq h1 k1 h2 k2 (by omega)
/-- The greatest weights of walks with so many arcs that end at a node. -/
def Fk (A : Nat → Nat → Int) (n : Nat) : Nat → Nat → Int
  | 0 => fun _ => 0
  | k + 1 => fun v => sumN n fun u => times (A v u) (Fk A n k u)
def ofk (f : Nat → Nat → Option Int) (n : Nat) : Nat → Nat → Option Int
  | 0 => fun _ => some 0
  | k + 1 => fun v => osum n fun u => omul (f v u) (ofk f n k u)
theorem ofk_up {f : Nat → Nat → Option Int} {n : Nat} (s : Nat) : ∀ v : Nat → Nat, (∀ u, u ≤ s → v u < n) → ole (owk f v s) (ofk f n s (v s)) := by
  induction s with
  | zero => intro v _; exact ole_rfl _
  | succ s ih =>
    intro v hv
    refine ole_trans ?_ (le_osum (f := fun u => omul (f (v (s + 1)) u) (ofk f n s u)) (hv s (by omega)))
    exact omul_mono (ole_rfl _) (ih v fun u hu => hv u (by omega))
theorem ofk_att {f : Nat → Nat → Option Int} {n : Nat} (t : Nat) : ∀ i, i < n → ofk f n t i = none ∨ ∃ v : Nat → Nat, v t = i ∧ (∀ u, u ≤ t → v u < n) ∧ ofk f n t i = owk f v t := by
  induction t with
  | zero => intro i hi; exact .inr ⟨fun _ => i, rfl, fun _ _ => hi, rfl⟩
  | succ t ih =>
    intro i hi
    rcases osum_att n (fun u => omul (f i u) (ofk f n t u)) with k | ⟨u, hu, k⟩
    · exact .inl k
    · rcases ih u hu with z | ⟨v, h1, hv, z⟩
      · left
        refine k.trans ?_
        show omul (f i u) (ofk f n t u) = none
        rw [z]; exact omul_none _
      · right
        have hc : owk f (fun x => if x ≤ t then v x else i) t = owk f v t := owk_congr fun x hx => by simp [hx]
        refine ⟨fun x => if x ≤ t then v x else i, if_neg (by omega), fun x _ => ?_, ?_⟩
        · show (if x ≤ t then v x else i) < n
          split
          · next hx => exact hv x hx
          · exact hi
        · refine k.trans ?_
          show omul (f i u) (ofk f n t u) = omul (f (if t + 1 ≤ t then v (t + 1) else i) (if t ≤ t then v t else i)) (owk f (fun x => if x ≤ t then v x else i) t)
          rw [hc, z, if_neg (by omega), if_pos (Nat.le_refl _), h1]
theorem Fk_sm {A : Nat → Nat → Int} {n : Nat} (hA : ∀ i j, i < n → j < n → Sm 1000000 (A i j)) (k : Nat) : ∀ v, v < n → Sm (1000000 * k) (Fk A n k v) := by
  induction k with
  | zero => intro v _; right; show _ ≤ (0 : Int) ∧ (0 : Int) ≤ _; omega
  | succ k ih => intro v hv; exact sms fun u hu => sm_up (smt (hA v u hv hu) (ih u hu)) (by omega)
theorem o_Fk {A : Nat → Nat → Int} {n : Nat} (hA : ∀ i j, i < n → j < n → Sm 1000000 (A i j)) (k : Nat) (hk : k ≤ 11) : ∀ v, v < n → o (Fk A n k v) = ofk (fun i j => o (A i j)) n k v := by
  induction k with
  | zero => intro v _; rfl
  | succ k ih =>
    intro v hv
    show o (sumN n _) = osum n _
    rw [o_sum (L := 100000000) (fun u hu => sm_up (smt (hA v u hv hu) (Fk_sm hA k u hu)) (by omega)) (by omega)]
    refine osum_congr fun u hu => ?_
    rw [o_times (hA v u hv hu) (Fk_sm hA k u hu) (by omega) (by omega), ih (by omega) u hu]
/-- Whether there is a cycle. -/
def hasCyc (A : Nat → Nat → Int) (n : Nat) : Bool := (List.range n).any fun v => decide (Fk A n n v ≠ -1000000000000000)
/-- A closed walk of arcs that are there. -/
def Closed (A : Nat → Nat → Int) (n : Nat) (v : Nat → Nat) (s : Nat) : Prop := 1 ≤ s ∧ v s = v 0 ∧ (∀ u, u ≤ s → v u < n) ∧ owk (fun i j => o (A i j)) v s ≠ none
theorem owk_part {f : Nat → Nat → Option Int} {v : Nat → Nat} {s a b : Nat} (h : owk f v s ≠ none) (hab : a ≤ b) (hb : b ≤ s) : owk f (fun u => v (a + u)) (b - a) ≠ none := by
  intro e
  apply h
  have e1 : owk f v s = omul (owk f (fun u => v (b + u)) (s - b)) (omul (owk f (fun u => v (a + u)) (b - a)) (owk f v a)) := by
    rw [← owk_add, show a + (b - a) = b by omega, ← owk_add, show b + (s - b) = s by omega]
  rw [e1, e, none_omul, omul_none]
theorem closed_part {A : Nat → Nat → Int} {n : Nat} {v : Nat → Nat} {s a b : Nat} (hv : ∀ u, u ≤ s → v u < n) (h : owk (fun i j => o (A i j)) v s ≠ none) (hab : a < b) (hb : b ≤ s) (e : v a = v b) : Closed A n (fun u => v (a + u)) (b - a) := by
  refine ⟨by omega, ?_, fun u hu => hv _ (by omega), owk_part h (by omega) hb⟩
  show v (a + (b - a)) = v (a + 0)
  rw [show a + (b - a) = b by omega]; exact e.symm
theorem closed_simple {A : Nat → Nat → Int} {n : Nat} {v : Nat → Nat} {s : Nat} (h : Closed A n v s) : ∃ v' s', Closed A n v' s' ∧ ∀ a b, a < b → b < s' → v' a ≠ v' b := by
  induction s using Nat.strongRecOn generalizing v with
  | _ s ih =>
    by_cases e : ∃ a b, a < b ∧ b < s ∧ v a = v b
    · obtain ⟨a, b, hab, hb, e⟩ := e
      exact ih (b - a) (by omega) (closed_part h.2.2.1 h.2.2.2 hab (by omega) e)
    · exact ⟨v, s, h, fun a b hab hb k => e ⟨a, b, hab, hb, k⟩⟩
section
variable {A : Nat → Nat → Int} {n : Nat} (hn : n ≤ 10) (hA : ∀ i j, i < n → j < n → Sm 1000000 (A i j))
include hn hA
theorem cyc_closed (h : hasCyc A n = true) : ∃ v s, Closed A n v s := by
  obtain ⟨i, hi, hf⟩ := List.any_eq_true.1 h
  have hi := List.mem_range.1 hi
  simp only [decide_eq_true_eq] at hf
  have ho := o_Fk hA n (by omega) i hi
  rw [o_fin hf] at ho
  rcases ofk_att (f := fun i j => o (A i j)) (n := n) n i hi with z | ⟨v, h1, hv, z⟩
  · rw [z] at ho; cases ho
  · obtain ⟨a, b, hab, hb, e⟩ := pigeon n v (fun t ht => hv t ht)
    exact ⟨_, _, closed_part hv (by rw [← z, ← ho]; simp) hab hb e⟩
omit hn hA in
theorem owk_fin {v : Nat → Nat} {s : Nat} (h : ∀ u, u < s → (A (v (u + 1)) (v u)) ≠ -1000000000000000) : owk (fun i j => o (A i j)) v s ≠ none := by
  induction s with
  | zero => intro h; cases h
  | succ s ih =>
    have h1 := ih fun u hu => h u (by omega)
    show omul (o (A (v (s + 1)) (v s))) _ ≠ none
    rw [o_fin (h s (by omega))]
    cases e : owk (fun i j => o (A i j)) v s with
    | none => exact absurd e h1
    | some x => intro h; cases h
omit hn hA in
theorem owk_arc {v : Nat → Nat} {s : Nat} (h : owk (fun i j => o (A i j)) v s ≠ none) : ∀ u, u < s → (A (v (u + 1)) (v u)) ≠ -1000000000000000 := by
  intro u hu e
  have := owk_part (a := u) (b := u + 1) h (by omega) (by omega)
  apply this
  rw [show u + 1 - u = 1 by omega]
  show omul (o (A (v (u + 1)) (v u))) _ = none
  rw [e, o_bot, none_omul]
theorem closed_cyc {v : Nat → Nat} {s : Nat} (h : Closed A n v s) : hasCyc A n = true := by
  obtain ⟨h1, h2, h3, h4⟩ := h
  have ha := owk_arc h4
  have hlt : ∀ u, u % s < s := fun u => Nat.mod_lt _ (by omega)
  have hw : ∀ u, u ≤ n → (fun u => v (u % s)) u < n := fun u _ => h3 _ (by have := hlt u; omega)
  have hf : owk (fun i j => o (A i j)) (fun u => v (u % s)) n ≠ none := owk_fin fun u hu => by
    show A (v ((u + 1) % s)) (v (u % s)) ≠ _
    have := ha (u % s) (hlt u)
    have e : v ((u + 1) % s) = v (u % s + 1) := by
      by_cases k : u % s + 1 < s
      · rw [Nat.add_mod, show (u % s + 1 % s) % s = u % s + 1 by
          by_cases k1 : s = 1
          · omega
          · rw [Nat.mod_eq_of_lt (show 1 < s by omega), Nat.mod_eq_of_lt k]]
      · have k2 : u % s + 1 = s := by have := hlt u; omega
        rw [k2, h2]
        congr 1
        have : (u + 1) % s = (u % s + 1) % s := by rw [Nat.mod_add_mod]
        rw [this, k2, Nat.mod_self]
    rw [e]; exact this
  have hup := ofk_up (f := fun i j => o (A i j)) (n := n) n (fun u => v (u % s)) hw
  have hl := hw n (Nat.le_refl _)
  refine List.any_eq_true.2 ⟨v (n % s), List.mem_range.2 hl, ?_⟩
  rw [decide_eq_true_eq]
  intro e
  have ho := o_Fk hA n (by omega) _ hl
  have e' : Fk A n n ((fun u => v (u % s)) n) = -1000000000000000 := e
  rw [e', o_bot] at ho
  rw [← ho] at hup
  cases ew : owk (fun i j => o (A i j)) (fun u => v (u % s)) n with
  | none => exact hf ew
  | some x => rw [ew] at hup; exact hup
/-- The model finds a cycle exactly if there is one. -/
theorem over_bot : decide ((overL A n (-1000000000000000)).length ≠ 0) = hasCyc A n := by
  have hA' : ∀ i j, i < n → j < n → Sm 1000001000000 (A i j) := fun i j hi hj => sm_wide (hA i j hi hj)
  cases h : hasCyc A n with
  | true =>
    rw [decide_eq_true_eq]
    obtain ⟨v0, s0, h0⟩ := cyc_closed hn hA h
    obtain ⟨v, s, ⟨h1, h2, h3, h4⟩, hdis⟩ := closed_simple h0
    have hsn : s ≤ n := by
      apply Classical.byContradiction
      intro hc
      obtain ⟨i, j, hij, hj, e⟩ := pigeon n v (fun t ht => h3 t (by omega))
      exact hdis i j hij (by omega) e
    have ho := o_wkc (A := A) (v := v) (t := s) (by omega) (fun u hu => hA' _ _ (h3 _ (by omega)) (h3 _ (by omega)))
    have hfin : wkc A v s ≠ -1000000000000000 := fun e => h4 (by rw [← ho, e, o_bot])
    have hs := wkc_sm (A := A) (v := v) (t := s) (fun u hu => hA' _ _ (h3 _ (by omega)) (h3 _ (by omega)))
    exact over_finds hn hA' h1 h2 h3 hdis hfin (by unfold Sm at hs; omega)
  | false =>
    rw [decide_eq_false_iff_not]
    intro hne
    obtain ⟨f1, f2, f3, f4, f5, f6⟩ := over_fnd hn hA' hne
    generalize overL A n (-1000000000000000) = q at f1 f2 f3 f4 f5 f6
    have hcl : Closed A n (fun u => vx q (u % q.length)) q.length := by
      refine ⟨f3, by show vx q _ = vx q _; rw [Nat.mod_self, Nat.zero_mod], fun u _ => vx_lt f1 (Nat.mod_lt _ (by omega)), ?_⟩
      refine owk_fin fun u hu => ?_
      show A (vx q ((u + 1) % q.length)) (vx q (u % q.length)) ≠ _
      rw [Nat.mod_eq_of_lt hu]
      by_cases k : u + 1 < q.length
      · rw [Nat.mod_eq_of_lt k]
        intro e
        refine f4 (wkc_bot (k := u + 1) ?_ (by omega))
        show times _ _ = _
        unfold times; rw [if_pos (.inr e)]
      · have k2 : u + 1 = q.length := by omega
        rw [k2, Nat.mod_self]
        have : u = q.length - 1 := by omega
        subst this
        exact f5
    rw [closed_cyc hn hA hcl] at h
    cases h
end
end M
end Go.Proofs.YtlofnadpgnbmdaaGreat

namespace Go.Proofs.YtlofnadpgnbmdaaGreat
namespace M
def rle (p q : Int × Int) : Prop := p.1 * q.2 ≤ q.1 * p.2
def less (p q : Int × Int) : Bool := decide (p.1 * q.2 < q.1 * p.2)
theorem rle_rfl (p : Int × Int) : rle p p := Int.le_refl _
theorem rle_trans {p q r : Int × Int} (hp : 0 < p.2) (hq : 0 < q.2) (hr : 0 < r.2) (h : rle p q) (k : rle q r) : rle p r := by
  unfold rle at *
  have e1 : p.1 * q.2 * r.2 ≤ q.1 * p.2 * r.2 := Int.mul_le_mul_of_nonneg_right h (by omega)
  have e2 : q.1 * r.2 * p.2 ≤ r.1 * q.2 * p.2 := Int.mul_le_mul_of_nonneg_right k (by omega)
  have e3 : q.1 * p.2 * r.2 = q.1 * r.2 * p.2 := by rw [Int.mul_assoc, Int.mul_comm p.2, ← Int.mul_assoc]
  have e4 : p.1 * q.2 * r.2 = p.1 * r.2 * q.2 := by rw [Int.mul_assoc, Int.mul_comm q.2, ← Int.mul_assoc]
  have e5 : r.1 * q.2 * p.2 = r.1 * p.2 * q.2 := by rw [Int.mul_assoc, Int.mul_comm q.2, ← Int.mul_assoc]
  refine Int.le_of_mul_le_mul_right (a := q.2) ?_ hq
  omega
theorem rle_of_less {p q : Int × Int} (h : less p q = true) : rle p q := by
  unfold less at h; rw [decide_eq_true_eq] at h; unfold rle; omega
theorem rle_of_not {p q : Int × Int} (h : less p q = false) : rle q p := by
  unfold less at h; rw [decide_eq_false_iff_not] at h; unfold rle; omega
def mx (m x : Int × Int) : Int × Int := if less m x then x else m
def mn (m x : Int × Int) : Int × Int := if less x m then x else m
def maxR : List (Int × Int) → Int × Int
  | [] => (0, 0)
  | p :: l => l.foldl mx p
def minR : List (Int × Int) → Int × Int
  | [] => (0, 0)
  | p :: l => l.foldl mn p
theorem maxR_snoc {l : List (Int × Int)} (h : 1 ≤ l.length) (x : Int × Int) : maxR (l ++ [x]) = mx (maxR l) x := by
  cases l with
  | nil => exact absurd h (by decide)
  | cons p l => show (l ++ [x]).foldl mx p = _; rw [List.foldl_append]; rfl
theorem minR_snoc {l : List (Int × Int)} (h : 1 ≤ l.length) (x : Int × Int) : minR (l ++ [x]) = mn (minR l) x := by
  cases l with
  | nil => exact absurd h (by decide)
  | cons p l => show (l ++ [x]).foldl mn p = _; rw [List.foldl_append]; rfl
theorem take_next {l : List (Int × Int)} {k : Nat} (h : k < l.length) : l.take (k + 1) = l.take k ++ [l.getD k (0, 0)] := by
  rw [List.take_succ_eq_append_getElem h]; simp [h]
theorem fold_mx (l : List (Int × Int)) : ∀ m : Int × Int, 0 < m.2 → (∀ p, p ∈ l → 0 < p.2) → (l.foldl mx m = m ∨ l.foldl mx m ∈ l) ∧ rle m (l.foldl mx m) ∧ ∀ p, p ∈ l → rle p (l.foldl mx m) := by
  induction l with
  | nil => intro m _ _; exact ⟨.inl rfl, rle_rfl _, fun p hp => absurd hp (by simp)⟩
  | cons x l ih =>
    intro m hm hl
    have hx := hl x (by simp)
    have hl' : ∀ p, p ∈ l → 0 < p.2 := fun p hp => hl p (by simp [hp])
    show (l.foldl mx (mx m x) = m ∨ l.foldl mx (mx m x) ∈ x :: l) ∧ rle m (l.foldl mx (mx m x)) ∧ ∀ p, p ∈ x :: l → rle p (l.foldl mx (mx m x))
    have hpos : 0 < (mx m x).2 := by unfold mx; split <;> assumption
    obtain ⟨h1, h2, h3⟩ := ih (mx m x) hpos hl'
    have hr : 0 < (l.foldl mx (mx m x)).2 := by
      rcases h1 with h | h
      · rw [h]; exact hpos
      · exact hl' _ h
    have e1 : rle m (mx m x) := by
      unfold mx; split
      · next h => exact rle_of_less h
      · exact rle_rfl _
    have e2 : rle x (mx m x) := by
      unfold mx; split
      · exact rle_rfl _
      · next h => exact rle_of_not (by simpa using h)
    refine ⟨?_, rle_trans hm hpos hr e1 h2, fun p hp => ?_⟩
    · rcases h1 with h | h
      · rw [h]; unfold mx; split
        · right; simp
        · left; rfl
      · right; simp [h]
    · rcases List.mem_cons.1 hp with rfl | hp
      · exact rle_trans hx hpos hr e2 h2
      · exact h3 p hp
theorem fold_mn (l : List (Int × Int)) : ∀ m : Int × Int, 0 < m.2 → (∀ p, p ∈ l → 0 < p.2) → (l.foldl mn m = m ∨ l.foldl mn m ∈ l) ∧ rle (l.foldl mn m) m ∧ ∀ p, p ∈ l → rle (l.foldl mn m) p := by
  induction l with
  | nil => intro m _ _; exact ⟨.inl rfl, rle_rfl _, fun p hp => absurd hp (by simp)⟩
  | cons x l ih =>
    intro m hm hl
    have hx := hl x (by simp)
    have hl' : ∀ p, p ∈ l → 0 < p.2 := fun p hp => hl p (by simp [hp])
    show (l.foldl mn (mn m x) = m ∨ l.foldl mn (mn m x) ∈ x :: l) ∧ rle (l.foldl mn (mn m x)) m ∧ ∀ p, p ∈ x :: l → rle (l.foldl mn (mn m x)) p
    have hpos : 0 < (mn m x).2 := by unfold mn; split <;> assumption
    obtain ⟨h1, h2, h3⟩ := ih (mn m x) hpos hl'
    have hr : 0 < (l.foldl mn (mn m x)).2 := by
      rcases h1 with h | h
      · rw [h]; exact hpos
      · exact hl' _ h
    have e1 : rle (mn m x) m := by
      unfold mn; split
      · next h => exact rle_of_less h
      · exact rle_rfl _
    have e2 : rle (mn m x) x := by
      unfold mn; split
      · exact rle_rfl _
      · next h => exact rle_of_not (by simpa using h)
    refine ⟨?_, rle_trans hr hpos hm h2 e1, fun p hp => ?_⟩
    · rcases h1 with h | h
      · rw [h]; unfold mn; split
        · right; simp
        · left; rfl
      · right; simp [h]
    · rcases List.mem_cons.1 hp with rfl | hp
      · exact rle_trans hr hpos hx h2 e2
      · exact h3 p hp
theorem maxR_is {l : List (Int × Int)} (h : 1 ≤ l.length) (hl : ∀ p, p ∈ l → 0 < p.2) : maxR l ∈ l ∧ ∀ p, p ∈ l → rle p (maxR l) := by
  cases l with
  | nil => exact absurd h (by decide)
  | cons x l =>
    obtain ⟨h1, h2, h3⟩ := fold_mx l x (hl x (by simp)) (fun p hp => hl p (by simp [hp]))
    refine ⟨?_, fun p hp => ?_⟩
    · show l.foldl mx x ∈ _
      rcases h1 with h | h
      · rw [h]; simp
      · simp [h]
    · show rle p (l.foldl mx x)
      rcases List.mem_cons.1 hp with rfl | hp
      · exact h2
      · exact h3 p hp
theorem minR_is {l : List (Int × Int)} (h : 1 ≤ l.length) (hl : ∀ p, p ∈ l → 0 < p.2) : minR l ∈ l ∧ ∀ p, p ∈ l → rle (minR l) p := by
  cases l with
  | nil => exact absurd h (by decide)
  | cons x l =>
    obtain ⟨h1, h2, h3⟩ := fold_mn l x (hl x (by simp)) (fun p hp => hl p (by simp [hp]))
    refine ⟨?_, fun p hp => ?_⟩
    · show l.foldl mn x ∈ _
      rcases h1 with h | h
      · rw [h]; simp
      · simp [h]
    · show rle (l.foldl mn x) p
      rcases List.mem_cons.1 hp with rfl | hp
      · exact h2
      · exact h3 p hp
/-- A mean in lowest terms. -/
def meanR (x : Int) (k : Int) : Int × Int := (ratN x k, ratD x k)
theorem meanR_bd {x k L : Int} (hk : 1 ≤ k) (h1 : -L ≤ x) (h2 : x ≤ L) : -L ≤ (meanR x k).1 ∧ (meanR x k).1 ≤ L ∧ 1 ≤ (meanR x k).2 ∧ (meanR x k).2 ≤ k := by
  have hp := rat_pos (n := x) (d := k) (by omega)
  have a := tdiv_bdL (if k < 0 then -x else x) (Int.gcd x k) L (by split <;> omega) (by split <;> omega)
  have b := tdiv_bdL (if k < 0 then -k else k) (Int.gcd x k) k (by split <;> omega) (by split <;> omega)
  exact ⟨a.1, a.2, hp, b.2⟩
/-- The powers from the first one on. -/
def bpw (A : Nat → Nat → Int) (n : Nat) : Nat → Nat → Nat → Int
  | 0 => A
  | k + 1 => fun i j => sumN n fun u => times (bpw A n k i u) (A u j)
theorem bpw_sm {A : Nat → Nat → Int} {n : Nat} (hA : ∀ i j, i < n → j < n → Sm 1000000 (A i j)) (k : Nat) : ∀ i j, i < n → j < n → Sm (1000000 * (k + 1 : Nat)) (bpw A n k i j) := by
  induction k with
  | zero => intro i j hi hj; exact sm_up (hA i j hi hj) (by omega)
  | succ k ih => intro i j hi hj; exact sms fun u hu => sm_up (smt (ih i u hi hu) (hA u j hu hj)) (by omega)
theorem opw_one (f : Nat → Nat → Option Int) (n : Nat) {i j : Nat} (hi : i < n) : opw f n 1 i j = f i j := by
  show osum n (fun u => omul (ounit i u) (f u j)) = f i j
  refine ole_anti (osum_le fun u _ => ?_) ?_
  · by_cases e : i = u
    · subst e; rw [ounit_self, zero_omul]; exact ole_rfl _
    · rw [ounit_ne e, none_omul]; exact ole_none _
  · refine ole_trans ?_ (le_osum (f := fun u => omul (ounit i u) (f u j)) hi)
    show ole _ (omul (ounit i i) (f i j))
    rw [ounit_self, zero_omul]; exact ole_rfl _
theorem o_bpw {A : Nat → Nat → Int} {n : Nat} (hA : ∀ i j, i < n → j < n → Sm 1000000 (A i j)) (k : Nat) (hk : k ≤ 11) : ∀ i j, i < n → j < n → o (bpw A n k i j) = opw (fun i j => o (A i j)) n (k + 1) i j := by
  induction k with
  | zero => intro i j hi hj; exact (opw_one (fun i j => o (A i j)) n hi).symm
  | succ k ih =>
    intro i j hi hj
    show o (sumN n _) = osum n _
    rw [o_sum (L := 100000000) (fun u hu => sm_up (smt (bpw_sm hA k i u hi hu) (hA u j hu hj)) (by omega)) (by omega)]
    refine osum_congr fun u hu => ?_
    rw [o_times (bpw_sm hA k i u hi hu) (hA u j hu hj) (by omega) (by omega), ih (by omega) i u hi hu]
/-- The means on the diagonal of a power, before row i. -/
def dgL (A : Nat → Nat → Int) (n k i : Nat) : List (Int × Int) := (List.range i).flatMap fun j => if bpw A n k j j = -1000000000000000 then [] else [meanR (bpw A n k j j) ((k : Int) + 1)]
def mnL (A : Nat → Nat → Int) (n k : Nat) : List (Int × Int) := (List.range k).flatMap fun k => dgL A n k n
theorem dgL_next (A : Nat → Nat → Int) (n k i : Nat) : dgL A n k (i + 1) = dgL A n k i ++ (if bpw A n k i i = -1000000000000000 then [] else [meanR (bpw A n k i i) ((k : Int) + 1)]) := by
  unfold dgL; rw [List.range_succ, List.flatMap_append, List.flatMap_singleton]
theorem mnL_next (A : Nat → Nat → Int) (n k : Nat) : mnL A n (k + 1) = mnL A n k ++ dgL A n k n := by
  unfold mnL; rw [List.range_succ, List.flatMap_append, List.flatMap_singleton]
theorem dgL_len (A : Nat → Nat → Int) (n k i : Nat) : (dgL A n k i).length ≤ i := by
  induction i with
  | zero => exact Nat.le_refl _
  | succ i ih => rw [dgL_next, List.length_append]; split <;> simp <;> omega
theorem mnL_len (A : Nat → Nat → Int) (n k : Nat) : (mnL A n k).length ≤ k * n := by
  induction k with
  | zero => simp [mnL]
  | succ k ih => rw [mnL_next, List.length_append, Nat.succ_mul]; have := dgL_len A n k n; omega
theorem mem_mnL {A : Nat → Nat → Int} {n m : Nat} {p : Int × Int} : p ∈ mnL A n m ↔ ∃ k, k < m ∧ ∃ i, i < n ∧ bpw A n k i i ≠ -1000000000000000 ∧ p = meanR (bpw A n k i i) ((k : Int) + 1) := by
  unfold mnL dgL
  simp only [List.mem_flatMap, List.mem_range]
  constructor
  · rintro ⟨k, hk, i, hi, h⟩
    split at h
    · simp at h
    · next hne => exact ⟨k, hk, i, hi, hne, by simpa using h⟩
  · rintro ⟨k, hk, i, hi, hne, h⟩
    exact ⟨k, hk, i, hi, by rw [if_neg hne]; simp [h]⟩
def bestR (A : Nat → Nat → Int) (n : Nat) : Int × Int := maxR (mnL A n n)
section
variable {A : Nat → Nat → Int} {n : Nat} (hn : n ≤ 10) (hA : ∀ i j, i < n → j < n → Sm 1000000 (A i j))
include hn hA
theorem bpw_walk {v : Nat → Nat} {s : Nat} {w : Int} (h1 : 1 ≤ s) (h2 : s ≤ n) (hc : v s = v 0) (hv : ∀ u, u ≤ s → v u < n) (hw : owk (fun i j => o (A i j)) v s = some w) : bpw A n (s - 1) (v 0) (v 0) ≠ -1000000000000000 ∧ w ≤ bpw A n (s - 1) (v 0) (v 0) := by
  have hup := opw_up (f := fun i j => o (A i j)) (n := n) s v hv
  have ho := o_bpw hA (s - 1) (by omega) (v 0) (v 0) (hv 0 (by omega)) (hv 0 (by omega))
  rw [show s - 1 + 1 = s by omega] at ho
  rw [hw, hc, ← ho] at hup
  by_cases hb : bpw A n (s - 1) (v 0) (v 0) = -1000000000000000
  · rw [hb, o_bot] at hup; exact hup.elim
  · rw [o_fin hb] at hup; exact ⟨hb, hup⟩
theorem mnL_some (hc : hasCyc A n = true) : 1 ≤ (mnL A n n).length := by
  obtain ⟨v0, s0, h0⟩ := cyc_closed hn hA hc
  obtain ⟨v, s, ⟨h1, h2, h3, h4⟩, hdis⟩ := closed_simple h0
  have hsn : s ≤ n := by
    apply Classical.byContradiction
    intro hc
    obtain ⟨i, j, hij, hj, e⟩ := pigeon n v (fun t ht => h3 t (by omega))
    exact hdis i j hij (by omega) e
  cases ew : owk (fun i j => o (A i j)) v s with
  | none => exact absurd ew h4
  | some w =>
    obtain ⟨b1, b2⟩ := bpw_walk hn hA h1 hsn h2 h3 ew
    have hm : meanR (bpw A n (s - 1) (v 0) (v 0)) (((s - 1 : Nat) : Int) + 1) ∈ mnL A n n := mem_mnL.2 ⟨s - 1, by omega, v 0, h3 0 (by omega), b1, rfl⟩
    exact List.length_pos_of_mem hm
omit hn in
theorem mnL_bd {m : Nat} (hm : m ≤ 10) {p : Int × Int} (h : p ∈ mnL A n m) : -10000000 ≤ p.1 ∧ p.1 ≤ 10000000 ∧ 1 ≤ p.2 ∧ p.2 ≤ 10 := by
  obtain ⟨k, hk, i, hi, hne, rfl⟩ := mem_mnL.1 h
  have hs := bpw_sm hA k i i hi hi
  have := meanR_bd (x := bpw A n k i i) (k := (k : Int) + 1) (L := 10000000) (by omega) (by unfold Sm at hs; omega) (by unfold Sm at hs; omega)
  omega
theorem bestR_best (hc : hasCyc A n = true) : Best A n (bestR A n).1 (bestR A n).2 ∧ Near (bestR A n).1 (bestR A n).2 ∧ -10000000 ≤ (bestR A n).1 ∧ (bestR A n).1 ≤ 10000000 ∧ (bestR A n).2 ≤ 10 := by
  obtain ⟨hm, hge⟩ := maxR_is (mnL_some hn hA hc) (fun p hp => by have := mnL_bd hA hn hp; omega)
  have hbd := mnL_bd hA hn hm
  unfold bestR
  generalize maxR (mnL A n n) = r at *
  obtain ⟨k, hk, i, hi, hne, hr⟩ := mem_mnL.1 hm
  have hb := rat_back (n := bpw A n k i i) (d := (k : Int) + 1) (by omega)
  have hg := rat_gcd (n := bpw A n k i i) (d := (k : Int) + 1) (by omega)
  have hnear : Near r.1 r.2 := by unfold Near; omega
  have hnp : noPos (shf A r.1 r.2) n = true := noPos_of_walk hn hA hnear fun v s w h1 h2 h3 h4 _ hw => by
    obtain ⟨b1, b2⟩ := bpw_walk hn hA h1 h2 h3 h4 hw
    have hmem : meanR (bpw A n (s - 1) (v 0) (v 0)) (((s - 1 : Nat) : Int) + 1) ∈ mnL A n n := mem_mnL.2 ⟨s - 1, by omega, v 0, h4 0 (by omega), b1, rfl⟩
    have hq := mnL_bd hA hn hmem
    have hle := hge _ hmem
    have hb' := rat_back (n := bpw A n (s - 1) (v 0) (v 0)) (d := (((s - 1 : Nat) : Int) + 1)) (by omega)
    generalize bpw A n (s - 1) (v 0) (v 0) = x at *
    rw [show (((s - 1 : Nat) : Int) + 1) = (s : Int) by omega] at *
    have hb2 : (meanR x s).1 * s = x * (meanR x s).2 := hb'
    generalize meanR x s = q at *
    unfold rle at hle
    -- q.1 * r.2 ≤ r.1 * q.2, q.1 * s = x * q.2
    have e1 : q.1 * r.2 * s ≤ r.1 * q.2 * s := Int.mul_le_mul_of_nonneg_right hle (by omega)
    have e2 : q.1 * r.2 * s = r.2 * x * q.2 := by rw [Int.mul_right_comm, hb2, Int.mul_right_comm, Int.mul_comm x]
    have e3 : r.1 * q.2 * s = s * r.1 * q.2 := by rw [Int.mul_right_comm, Int.mul_comm r.1]
    rw [e2, e3] at e1
    have e4 := Int.le_of_mul_le_mul_right e1 (by omega)
    have e5 := Int.mul_le_mul_of_nonneg_left b2 (show (0 : Int) ≤ r.2 by omega)
    omega
  refine ⟨⟨by omega, by rw [hr]; exact hg, fun v s w h1 h2 h3 => noPos_walk hn hA hnear hnp h1 h2 h3, ?_⟩, hnear, by omega, by omega, by omega⟩
  have ho := o_bpw hA k (by omega) i i hi hi
  rw [o_fin hne] at ho
  rcases opw_att (f := fun i j => o (A i j)) (n := n) (k + 1) i i hi hi with z | ⟨v, h1, h2, h3, z⟩
  · rw [z] at ho; cases ho
  · refine ⟨v, k + 1, bpw A n k i i, by omega, by omega, by rw [h1, h2], h3, by rw [← z, ← ho], ?_⟩
    rw [hr, show ((k + 1 : Nat) : Int) = (k : Int) + 1 by omega]
    show ratD (bpw A n k i i) ((k : Int) + 1) * bpw A n k i i = ((k : Int) + 1) * ratN (bpw A n k i i) ((k : Int) + 1)
    rw [Int.mul_comm, ← hb, Int.mul_comm]
end
/-- The weight of a closed list of nodes. -/
def arW (A : Nat → Nat → Int) (q : List Int) : Int := times (wkc A (vx q) (q.length - 1)) (A (vx q 0) (lastV q))
theorem list_owk {A : Nat → Nat → Int} {n : Nat} (hA : ∀ i j, i < n → j < n → Sm 1000001000000 (A i j)) {q : List Int} (h1 : 1 ≤ q.length) (h2 : q.length ≤ 99) (hv : nodesB n q = true) :
    o (arW A q) = owk (fun i j => o (A i j)) (fun u => vx q (u % q.length)) q.length := by
  obtain ⟨m, hm⟩ : ∃ m, q.length = m + 1 := ⟨q.length - 1, by omega⟩
  have hlt : ∀ u, u < q.length → vx q u < n := fun u hu => vx_lt hv hu
  have e : arW A q = wkc A (fun u => vx q (u % q.length)) q.length := by
    unfold arW lastV
    rw [hm]
    show times (wkc A (vx q) (m + 1 - 1)) (A (vx q 0) (vx q (m + 1 - 1))) = times (wkc A (fun u => vx q (u % (m + 1))) m) (A (vx q ((m + 1) % (m + 1))) (vx q (m % (m + 1))))
    rw [Nat.add_sub_cancel, Nat.mod_self, Nat.mod_eq_of_lt (show m < m + 1 by omega), wkc_congr (v' := fun u => vx q (u % (m + 1))) (fun u hu => by rw [Nat.mod_eq_of_lt (by omega)])]
  rw [e]
  exact o_wkc (by omega) (fun u hu => hA _ _ (hlt _ (Nat.mod_lt _ (by omega))) (hlt _ (Nat.mod_lt _ (by omega))))
/-- An arc of a closed walk that weighs 0 or more weighs as much as the best way back takes off. -/
theorem arc_back {f : Nat → Nat → Option Int} {n : Nat} (hd : ∀ m, m < n → ole (ofw f m m m) (some 0)) {v : Nat → Nat} {s : Nat} (hs : 1 ≤ s) (hc : v s = v 0) (hv : ∀ u, u ≤ s → v u < n) (hw : ole (some 0) (owk f v s)) {u : Nat} (hu : u < s) :
    omul (f (v (u + 1)) (v u)) (obm f n n (v u) (v (u + 1))) = some 0 := by
  have hvu := hv u (by omega)
  have hvu1 := hv (u + 1) (by omega)
  refine ole_anti ?_ ?_
  · rcases obm_att (f := f) (n := n) n (v u) (v (u + 1)) hvu hvu1 with z | ⟨y, t, ht, y0, yt, hy, z⟩
    · rw [z, omul_none]; exact ole_none _
    · rw [z]
      have hcl := owk_diag hd (fun x => if x ≤ t then y x else v (u + 1)) (t + 1) (fun x _ => by
        show (if x ≤ t then y x else v (u + 1)) < n
        split
        · next hx => exact hy x hx
        · exact hvu1) (by show (if t + 1 ≤ t then _ else v (u + 1)) = (if 0 ≤ t then y 0 else _); rw [if_neg (by omega), if_pos (Nat.zero_le _), y0])
      have e : owk f (fun x => if x ≤ t then y x else v (u + 1)) (t + 1) = omul (f (v (u + 1)) (v u)) (owk f y t) := by
        show omul (f (if t + 1 ≤ t then y (t + 1) else v (u + 1)) (if t ≤ t then y t else v (u + 1))) (owk f (fun x => if x ≤ t then y x else v (u + 1)) t) = _
        rw [if_neg (by omega), if_pos (Nat.le_refl _), yt, owk_congr (v' := y) (fun x hx => if_pos hx)]
      rw [e] at hcl
      exact hcl
  · have hr : (u + 1) % s < s := Nat.mod_lt _ (by omega)
    have hlt : ∀ t, ((u + 1) % s + t) % s < s := fun t => Nat.mod_lt _ (by omega)
    have ht := turn_same f v s ((u + 1) % s) hc hr
    obtain ⟨m, rfl⟩ : ∃ m, s = m + 1 := ⟨s - 1, by omega⟩
    have e0 : v (((u + 1) % (m + 1) + (m + 1)) % (m + 1)) = v (u + 1) := by
      rw [Nat.add_mod_right, Nat.mod_mod]
      by_cases k : u + 1 < m + 1
      · rw [Nat.mod_eq_of_lt k]
      · have : u + 1 = m + 1 := by omega
        rw [this, Nat.mod_self, hc]
    have e1 : v (((u + 1) % (m + 1) + m) % (m + 1)) = v u := by
      rw [Nat.mod_add_mod, show u + 1 + m = u + (m + 1) by omega, Nat.add_mod_right, Nat.mod_eq_of_lt hu]
    have e2 : v (((u + 1) % (m + 1) + 0) % (m + 1)) = v (u + 1) := by
      rw [← e0, Nat.add_zero, Nat.add_mod_right]
    have e3 : owk f (fun t => v (((u + 1) % (m + 1) + t) % (m + 1))) (m + 1) = omul (f (v (u + 1)) (v u)) (owk f (fun t => v (((u + 1) % (m + 1) + t) % (m + 1))) m) := by
      show omul (f (v (((u + 1) % (m + 1) + (m + 1)) % (m + 1))) (v (((u + 1) % (m + 1) + m) % (m + 1)))) _ = _
      rw [e0, e1]
    rw [← ht, e3] at hw
    refine ole_trans hw (omul_mono (ole_rfl _) ?_)
    have := owk_star hd (fun t => v (((u + 1) % (m + 1) + t) % (m + 1))) m (fun t _ => hv _ (by have := hlt t; omega))
    rw [e1, e2] at this
    exact this
/-- The arcs of the best cycles alone. -/
def bestF (S : Nat → Nat → Int) (n i j : Nat) : Int := if times (S i j) (starF S n j i) = 0 then S i j else -1000000000000000
theorem best_over {S : Nat → Nat → Int} {n : Nat} (hn : n ≤ 10) (hS : ∀ i j, i < n → j < n → Sm 1000001000000 (S i j)) (hp : noPos S n = true) : overL (bestF S n) n (-1) = overL S n (-1) := by
  have hd := o_diag hn hS hp
  refine over_cut hn hS (fun i j _ _ => ?_) (fun q hq => ?_)
  · unfold bestF; split
    · exact .inl rfl
    · exact .inr rfl
  · obtain ⟨f1, f2, f3, f4, f5, f6⟩ := hq
    have hl := diffB_len f1 f2
    have ha : arW S q = wkc S (vx q) (q.length - 1) + S (vx q 0) (lastV q) := times_fin f4 f5
    have ho := list_owk hS f3 (by omega) f1
    have hw : ole (some 0) (owk (fun i j => o (S i j)) (fun u => vx q (u % q.length)) q.length) := by
      rw [← ho, ha, o_fin (by omega)]
      show (0 : Int) ≤ _
      omega
    have hlt : ∀ u, u % q.length < q.length := fun u => Nat.mod_lt _ (by omega)
    have key : ∀ u, u < q.length → bestF S n (vx q ((u + 1) % q.length)) (vx q (u % q.length)) = S (vx q ((u + 1) % q.length)) (vx q (u % q.length)) := fun u hu => by
      have hb := arc_back hd (v := fun u => vx q (u % q.length)) (s := q.length) f3 (by show vx q _ = vx q _; rw [Nat.mod_self, Nat.zero_mod]) (fun u _ => vx_lt f1 (hlt u)) hw hu
      have n1 : vx q ((u + 1) % q.length) < n := vx_lt f1 (hlt _)
      have n2 : vx q (u % q.length) < n := vx_lt f1 (hlt _)
      have hb : omul (o (S (vx q ((u + 1) % q.length)) (vx q (u % q.length)))) (obm (fun i j => o (S i j)) n n (vx q (u % q.length)) (vx q ((u + 1) % q.length))) = some 0 := hb
      generalize vx q ((u + 1) % q.length) = i at *
      generalize vx q (u % q.length) = j at *
      have e1 : o (starF S n j i) = obm (fun i j => o (S i j)) n n j i := by
        unfold starF
        rw [← clo_star hn hS hp n2 n1, o_cbm hS n (by omega) j i n2 n1]
      rw [← e1, ← o_times (hS i j n1 n2) (star_sm hn hS hp n2 n1) (by omega) (by omega)] at hb
      have hz : times (S i j) (starF S n j i) = 0 := o_inj (by rw [hb]; rfl)
      unfold bestF; rw [if_pos hz]
    refine ⟨fun u hu => ?_, ?_⟩
    · have := key u (by omega)
      rw [Nat.mod_eq_of_lt hu, Nat.mod_eq_of_lt (show u < q.length by omega)] at this
      exact this
    · have := key (q.length - 1) (by omega)
      rw [show q.length - 1 + 1 = q.length by omega, Nat.mod_self, Nat.mod_eq_of_lt (show q.length - 1 < q.length by omega)] at this
      exact this
end M
end Go.Proofs.YtlofnadpgnbmdaaGreat

namespace Go.Proofs.YtlofnadpgnbmdaaGreat
namespace M
def cMean (A : Nat → Nat → Int) (q : List Int) : Int × Int := meanR (arW A q) q.length
theorem arW_fin {A : Nat → Nat → Int} {q : List Int} (h : arW A q ≠ -1000000000000000) : wkc A (vx q) (q.length - 1) ≠ -1000000000000000 ∧ A (vx q 0) (lastV q) ≠ -1000000000000000 := by
  unfold arW times at h
  split at h
  · exact absurd rfl h
  · next k => exact ⟨fun e => k (.inl e), fun e => k (.inr e)⟩
theorem arW_sm {A : Nat → Nat → Int} {n : Nat} (hA : ∀ i j, i < n → j < n → Sm 1000000 (A i j)) {q : List Int} (hv : nodesB n q = true) (h1 : 1 ≤ q.length) : Sm (1000000 * (q.length : Int)) (arW A q) := by
  have hw : ∀ t, t < q.length → Sm (1000000 * (t : Int)) (wkc A (vx q) t) := fun t => by
    induction t with
    | zero => intro _; right; show (_ ≤ (0 : Int)) ∧ (0 : Int) ≤ _; omega
    | succ t ih => intro ht; exact sm_up (smt (ih (by omega)) (hA _ _ (vx_lt hv ht) (vx_lt hv (by omega)))) (by omega)
  exact sm_up (smt (hw (q.length - 1) (by omega)) (hA _ _ (vx_lt hv (by omega)) (vx_lt hv (by omega)))) (by omega)
section
variable {A : Nat → Nat → Int} {n : Nat} (hn : n ≤ 10) (hA : ∀ i j, i < n → j < n → Sm 1000000 (A i j))
include hn hA
omit hn in
theorem cMean_near {q : List Int} (h1 : 1 ≤ q.length) (h2 : q.length ≤ 10) (hv : nodesB n q = true) (hf : arW A q ≠ -1000000000000000) : Near (cMean A q).1 (cMean A q).2 ∧ -10000000 ≤ arW A q ∧ arW A q ≤ 10000000 ∧ -10000000 ≤ (cMean A q).1 ∧ (cMean A q).1 ≤ 10000000 ∧ 1 ≤ (cMean A q).2 ∧ (cMean A q).2 ≤ 10 := by
  have hs := arW_sm hA hv h1
  have hb : -10000000 ≤ arW A q ∧ arW A q ≤ 10000000 := by unfold Sm at hs; omega
  have := meanR_bd (x := arW A q) (k := (q.length : Int)) (L := 10000000) (by omega) hb.1 hb.2
  unfold cMean Near
  omega
omit hn in
theorem list_sh {a b : Int} (hab : Near a b) {q : List Int} (h1 : 1 ≤ q.length) (h2 : q.length ≤ 10) (hv : nodesB n q = true) : o (arW (shf A a b) q) = (o (arW A q)).map fun w => b * w - (q.length : Int) * a := by
  rw [list_owk (fun i j hi hj => sm_wide (hA i j hi hj)) h1 (by omega) hv, list_owk (sh_sm hA hab) h1 (by omega) hv]
  exact sh_owk hA hab _ _ (fun u _ => vx_lt hv (Nat.mod_lt _ (by omega)))
/-- Where no cycle has a greater mean, the mean is the greatest one. -/
theorem fnd_best {q : List Int} (f1 : nodesB n q = true) (f2 : diffB q = true) (f3 : 1 ≤ q.length) (hf : arW A q ≠ -1000000000000000) (h : noPos (shf A (cMean A q).1 (cMean A q).2) n = true) : Best A n (cMean A q).1 (cMean A q).2 := by
  have hl := diffB_len f1 f2
  obtain ⟨h1, h2, h3, h4, h5, h6, h7⟩ := cMean_near hA f3 (by omega) f1 hf
  have hg := rat_gcd (n := arW A q) (d := (q.length : Int)) (by omega)
  have hb := rat_back (n := arW A q) (d := (q.length : Int)) (by omega)
  refine ⟨h6, hg, fun v s w c1 c2 c3 => noPos_walk hn hA h1 h c1 c2 c3, fun u => vx q (u % q.length), q.length, arW A q, f3, hl, ?_, fun u _ => vx_lt f1 (Nat.mod_lt _ (by omega)), ?_, ?_⟩
  · show vx q _ = vx q _; rw [Nat.mod_self, Nat.zero_mod]
  · rw [← list_owk (fun i j hi hj => sm_wide (hA i j hi hj)) f3 (by omega) f1, o_fin hf]
  · show ratD (arW A q) q.length * arW A q = (q.length : Int) * ratN (arW A q) q.length
    rw [Int.mul_comm, ← hb, Int.mul_comm]
theorem fnd_is {q : List Int} (f1 : nodesB n q = true) (f2 : diffB q = true) (f3 : 1 ≤ q.length) (hf : arW A q ≠ -1000000000000000) (h : (overL (shf A (cMean A q).1 (cMean A q).2) n 0).length = 0) : hasCyc A n = true ∧ cMean A q = bestR A n := by
  have hl := diffB_len f1 f2
  obtain ⟨h1, -⟩ := cMean_near hA f3 (by omega) f1 hf
  have hp : noPos (shf A (cMean A q).1 (cMean A q).2) n = true := by
    cases e : noPos (shf A (cMean A q).1 (cMean A q).2) n with
    | true => rfl
    | false => exact absurd h (over_some hn (sh_sm hA h1) e)
  have hb := fnd_best hn hA f1 f2 f3 hf hp
  have hc : hasCyc A n = true := closed_cyc hn hA (v := fun u => vx q (u % q.length)) (s := q.length) ⟨f3, by show vx q _ = vx q _; rw [Nat.mod_self, Nat.zero_mod], fun u _ => vx_lt f1 (Nat.mod_lt _ (by omega)), by
    rw [← list_owk (fun i j hi hj => sm_wide (hA i j hi hj)) f3 (by omega) f1, o_fin hf]; simp⟩
  obtain ⟨e1, e2⟩ := best_eq hb (bestR_best hn hA hc).1
  exact ⟨hc, Prod.ext e1 e2⟩
/-- A cycle over the mean of another one has a greater mean. -/
theorem fnd_up {q q' : List Int} (f1 : nodesB n q = true) (f2 : diffB q = true) (f3 : 1 ≤ q.length) (hf : arW A q ≠ -1000000000000000) (h : Fnd (shf A (cMean A q).1 (cMean A q).2) n 0 q') : nodesB n q' = true ∧ diffB q' = true ∧ 1 ≤ q'.length ∧ q'.length ≤ 10 ∧ arW A q' ≠ -1000000000000000 ∧ arW A q * q'.length < arW A q' * q.length := by
  have hl := diffB_len f1 f2
  obtain ⟨h1, h2, h3, h4, h5, h6, h7⟩ := cMean_near hA f3 (by omega) f1 hf
  obtain ⟨g1, g2, g3, g4, g5, g6⟩ := h
  have hl' := diffB_len g1 g2
  have hb := rat_back (n := arW A q) (d := (q.length : Int)) (by omega)
  have hs := list_sh hA h1 g3 (by omega) g1
  have hw : arW (shf A (cMean A q).1 (cMean A q).2) q' = wkc (shf A (cMean A q).1 (cMean A q).2) (vx q') (q'.length - 1) + shf A (cMean A q).1 (cMean A q).2 (vx q' 0) (lastV q') := times_fin g4 g5
  rw [o_fin (by omega)] at hs
  by_cases hf' : arW A q' = -1000000000000000
  · rw [hf', o_bot] at hs; cases hs
  · rw [o_fin hf'] at hs
    have hs : arW (shf A (cMean A q).1 (cMean A q).2) q' = (cMean A q).2 * arW A q' - (q'.length : Int) * (cMean A q).1 := Option.some.inj hs
    rw [hw] at hs
    refine ⟨g1, g2, g3, by omega, hf', ?_⟩
    have hb' : (cMean A q).1 * (q.length : Int) = arW A q * (cMean A q).2 := hb
    generalize (cMean A q).1 = a at *
    generalize (cMean A q).2 = b at *
    -- len' * a < b * w', a * len = w * b
    have e0 : (q'.length : Int) * a < b * arW A q' := by omega
    have e1 : (q'.length : Int) * a * q.length < b * arW A q' * q.length := Int.mul_lt_mul_of_pos_right e0 (by omega)
    have e2 : (q'.length : Int) * a * q.length = b * (arW A q * q'.length) := by
      rw [Int.mul_assoc, hb']; ac_rfl
    rw [e2, Int.mul_assoc] at e1
    exact Int.lt_of_mul_lt_mul_left e1 (by omega)
end
theorem div2520 {l : Nat} (h1 : 1 ≤ l) (h2 : l ≤ 10) : (l : Int) * ((2520 / l : Nat) : Int) = 2520 ∧ (0 : Int) < ((2520 / l : Nat) : Int) ∧ ((2520 / l : Nat) : Int) ≤ 2520 := by
  have : l = 1 ∨ l = 2 ∨ l = 3 ∨ l = 4 ∨ l = 5 ∨ l = 6 ∨ l = 7 ∨ l = 8 ∨ l = 9 ∨ l = 10 := by omega
  rcases this with rfl | rfl | rfl | rfl | rfl | rfl | rfl | rfl | rfl | rfl <;> decide
/-- How far a mean may still grow. -/
def mu (A : Nat → Nat → Int) (q : List Int) : Nat := (25200000000 - arW A q * ((2520 / q.length : Nat) : Int)).toNat
theorem mu_lt {A : Nat → Nat → Int} {q q' : List Int} (h1 : 1 ≤ q.length) (h2 : q.length ≤ 10) (k1 : 1 ≤ q'.length) (k2 : q'.length ≤ 10) (b1 : arW A q' ≤ 10000000) (h : arW A q * q'.length < arW A q' * q.length) : mu A q' < mu A q := by
  obtain ⟨e1, e2, e3⟩ := div2520 h1 h2
  obtain ⟨d1, d2, d3⟩ := div2520 k1 k2
  unfold mu
  generalize ((2520 / q.length : Nat) : Int) = c at *
  generalize ((2520 / q'.length : Nat) : Int) = c' at *
  generalize arW A q = w at *
  generalize arW A q' = w' at *
  have p1 : w * q'.length * (c * c') < w' * q.length * (c * c') := Int.mul_lt_mul_of_pos_right h (Int.mul_pos e2 d2)
  have p2 : w * q'.length * (c * c') = w * c * 2520 := by
    rw [← d1]; ac_rfl
  have p3 : w' * q.length * (c * c') = w' * c' * 2520 := by
    rw [← e1]; ac_rfl
  rw [p2, p3] at p1
  have p4 : w' * c' ≤ 25200000000 := by
    by_cases hw : 0 ≤ w'
    · have := Int.mul_le_mul b1 d3 (by omega) (by omega)
      omega
    · have := Int.mul_neg_of_neg_of_pos (show w' < 0 by omega) d2
      omega
  omega
def lim (r : Int × Int) : (Int × Int) × Int := if isRat r.1 r.2 then (r, 0) else ((0, 0), 3)
def meanRes (R : List (List Int)) (l : List Int) : (Int × Int) × Int := if sqB R then (if cycB R l then lim (meanR (aroundW R l) l.length) else ((0, 0), 4)) else ((0, 0), 1)
def cycMeanRes (R : List (List Int)) : (Int × Int) × Int := if sqB R then (if hasCyc (ent R) R.length then lim (bestR (ent R) R.length) else ((0, 0), 4)) else ((0, 0), 1)
/-- The slopes of the table's column v, before row k. -/
def slL (A : Nat → Nat → Int) (n v k : Nat) : List (Int × Int) := (List.range k).map fun k => meanR (Fk A n n v - Fk A n k v) ((n : Int) - k)
def tbL (A : Nat → Nat → Int) (n v : Nat) : List (Int × Int) := (List.range v).flatMap fun v => if Fk A n n v = -1000000000000000 then [] else [minR (slL A n v n)]
def tabR (A : Nat → Nat → Int) (n : Nat) : Int × Int := maxR (tbL A n n)
def tabRes (R : List (List Int)) : (Int × Int) × Int := if sqB R then (if hasCyc (ent R) R.length then lim (tabR (ent R) R.length) else ((0, 0), 4)) else ((0, 0), 1)
theorem slL_next (A : Nat → Nat → Int) (n v k : Nat) : slL A n v (k + 1) = slL A n v k ++ [meanR (Fk A n n v - Fk A n k v) ((n : Int) - k)] := by
  unfold slL; rw [List.range_succ, List.map_append, List.map_singleton]
theorem tbL_next (A : Nat → Nat → Int) (n v : Nat) : tbL A n (v + 1) = tbL A n v ++ (if Fk A n n v = -1000000000000000 then [] else [minR (slL A n v n)]) := by
  unfold tbL; rw [List.range_succ, List.flatMap_append, List.flatMap_singleton]
theorem ofk_less {f : Nat → Nat → Option Int} {n : Nat} {k v : Nat} (hv : v < n) (h : ofk f n (k + 1) v ≠ none) : ofk f n k v ≠ none := by
  rcases ofk_att (f := f) (n := n) (k + 1) v hv with z | ⟨x, x1, x2, z⟩
  · exact absurd z h
  · rw [z] at h
    have hp := owk_part (a := 1) (b := k + 1) h (by omega) (Nat.le_refl _)
    rw [Nat.add_sub_cancel] at hp
    have hup := ofk_up (f := f) (n := n) k (fun u => x (1 + u)) (fun u hu => x2 _ (by omega))
    rw [show (1 : Nat) + k = k + 1 by omega, x1] at hup
    intro e
    rw [e] at hup
    cases ew : owk f (fun u => x (1 + u)) k with
    | none => exact hp ew
    | some w => rw [ew] at hup; exact hup
theorem Fk_less {A : Nat → Nat → Int} {n : Nat} (hA : ∀ i j, i < n → j < n → Sm 1000000 (A i j)) {k m v : Nat} (hm : m ≤ 11) (hv : v < n) (hk : k ≤ m) (h : Fk A n m v ≠ -1000000000000000) : Fk A n k v ≠ -1000000000000000 := by
  induction m with
  | zero => obtain rfl : k = 0 := by omega
            exact h
  | succ m ih =>
    by_cases e : k = m + 1
    · subst e; exact h
    · refine ih (by omega) (by omega) fun e2 => ?_
      have h1 := o_Fk hA (m + 1) hm v hv
      have h2 := o_Fk hA m (by omega) v hv
      rw [o_fin h] at h1
      rw [e2, o_bot] at h2
      exact ofk_less hv (by rw [← h1]; simp) h2.symm
def shM (R : List (List Int)) (a b : Int) : List (List Int) := mk R.length R.length (shf (ent R) a b)
def shiftRes (R : List (List Int)) (a b : Int) : List (List Int) × Int := if sqB R && isRat a b then (if isMat (shM R a b) then (shM R a b, 0) else ([], 3)) else ([], 1)
/-- A potential, for a square matrix and a valid ratio. -/
def holdsB (R : List (List Int)) (a b : Int) (x : List Int) : Bool := decide (x.length = R.length) && x.all isFin && (List.range R.length).all fun i => decide (sumN R.length (fun j => times (shf (ent R) a b i j) (x.getD j 0)) ≤ x.getD i 0)
def isPotB (R : List (List Int)) (a b : Int) (x : List Int) : Bool := sqB R && isRat a b && holdsB R a b x
def zerosL (n : Nat) : List Int := List.replicate n 0
def potL (R : List (List Int)) (a b : Int) : List Int := applyM (starM (shM R a b) R.length) (zerosL R.length)
def potRes (R : List (List Int)) (a b : Int) : List Int × Int := if sqB R && isRat a b then (if noPos (shf (ent R) a b) R.length then (if isVec (potL R a b) then (potL R a b, 0) else ([], 3)) else ([], 5)) else ([], 1)
def bestCyc (R : List (List Int)) : List Int := overL (shf (ent R) (bestR (ent R) R.length).1 (bestR (ent R) R.length).2) R.length (-1)
def bestRes (R : List (List Int)) : List Int × Int := if sqB R then (if hasCyc (ent R) R.length then (bestCyc R, 0) else ([], 4)) else ([], 1)
/-- The mean, the cycle, the potential and the code. -/
def certRes (R : List (List Int)) : (Int × Int) × List Int × List Int × Int :=
  if (cycMeanRes R).2 = 0 then (if (potRes R (cycMeanRes R).1.1 (cycMeanRes R).1.2).2 = 0 then ((cycMeanRes R).1, bestCyc R, (potRes R (cycMeanRes R).1.1 (cycMeanRes R).1.2).1, 0) else ((0, 0), [], [], (potRes R (cycMeanRes R).1.1 (cycMeanRes R).1.2).2)) else ((0, 0), [], [], (cycMeanRes R).2)
def certB (R : List (List Int)) (a b : Int) (l x : List Int) : Bool := isPotB R a b x && (cycB R l && decide (meanR (aroundW R l) l.length = (a, b)))
end M
end Go.Proofs.YtlofnadpgnbmdaaGreat

namespace Go.Proofs.YtlofnadpgnbmdaaGreat
namespace M
theorem omap_le {b c : Int} (hb : 1 ≤ b) {x y : Option Int} (h : ole x y) : ole (x.map fun w => b * w - c) (y.map fun w => b * w - c) := by
  cases x with
  | none => exact ole_none _
  | some x =>
    cases y with
    | none => exact h.elim
    | some y =>
      show b * x - c ≤ b * y - c
      have h : x ≤ y := h
      have := Int.mul_le_mul_of_nonneg_left h (show (0 : Int) ≤ b by omega)
      omega
theorem ofk_sh (f : Nat → Nat → Option Int) {n : Nat} {a b : Int} (hb : 1 ≤ b) (k : Nat) {v : Nat} (hv : v < n) : ofk (osh f a b) n k v = (ofk f n k v).map fun x => b * x - k * a := by
  refine ole_anti ?_ ?_
  · rcases ofk_att (f := osh f a b) (n := n) k v hv with z | ⟨y, y1, y2, z⟩
    · rw [z]; exact ole_none _
    · rw [z, owk_sh]
      have := ofk_up (f := f) (n := n) k y y2
      rw [y1] at this
      exact omap_le hb this
  · rcases ofk_att (f := f) (n := n) k v hv with z | ⟨y, y1, y2, z⟩
    · rw [z]; exact ole_none _
    · rw [z, ← owk_sh]
      have := ofk_up (f := osh f a b) (n := n) k y y2
      rw [y1] at this
      exact this
section
variable {g : Nat → Nat → Option Int} {n : Nat} (hc : ∀ (v : Nat → Nat) (s : Nat), v s = v 0 → (∀ u, u ≤ s → v u < n) → ole (owk g v s) (some 0))
include hc
theorem cut_one {v : Nat → Nat} {s : Nat} (hs : n ≤ s) (hv : ∀ u, u ≤ s → v u < n) : ∃ (v' : Nat → Nat) (s' : Nat), s' < s ∧ v' s' = v s ∧ (∀ u, u ≤ s' → v' u < n) ∧ ole (owk g v s) (owk g v' s') := by
  obtain ⟨a, b, hab, hb, e⟩ := pigeon n v (fun t ht => hv t (by omega))
  have hin := hc (fun u => v (a + u)) (b - a) (by show v (a + (b - a)) = v (a + 0); rw [show a + (b - a) = b by omega]; exact e.symm) (fun u hu => hv _ (by omega))
  obtain ⟨v', q1, q2, q3, q4⟩ := skip g v s a b hab (by omega) e hv hin
  exact ⟨v', s - (b - a), by omega, q2, q3, q4⟩
/-- With n arcs a walk is no better than with fewer. -/
theorem karp_hi {v : Nat} (hv : v < n) : ofk g n n v = none ∨ ∃ k, k < n ∧ ole (ofk g n n v) (ofk g n k v) := by
  rcases ofk_att (f := g) (n := n) n v hv with z | ⟨y, y1, y2, z⟩
  · exact .inl z
  · right
    obtain ⟨y', s', h1, h2, h3, h4⟩ := cut_one hc (Nat.le_refl n) y2
    have := ofk_up (f := g) (n := n) s' y' h3
    rw [h2, y1] at this
    exact ⟨s', h1, by rw [z]; exact ole_trans h4 this⟩
/-- The best walk to a node. -/
theorem best_to {u : Nat} (hu : u < n) : ∃ m, m < n ∧ ofk g n m u ≠ none ∧ ∀ (x : Nat → Nat) (t : Nat), x t = u → (∀ i, i ≤ t → x i < n) → ole (owk g x t) (ofk g n m u) := by
  have hmax : ∀ k, 1 ≤ k → ∃ m, m < k ∧ ofk g n m u ≠ none ∧ ∀ j, j < k → ole (ofk g n j u) (ofk g n m u) := by
    intro k
    induction k with
    | zero => intro h; omega
    | succ k ih =>
      intro _
      by_cases hk : k = 0
      · subst hk
        refine ⟨0, by omega, (by intro h; cases h), fun j hj => ?_⟩
        obtain rfl : j = 0 := by omega
        exact ole_rfl _
      · obtain ⟨m, m1, m2, m3⟩ := ih (by omega)
        rcases osup_cases (ofk g n m u) (ofk g n k u) with e | e
        · refine ⟨m, by omega, m2, fun j hj => ?_⟩
          by_cases ej : j = k
          · subst ej; rw [← e]; exact osup_r _ _
          · exact m3 j (by omega)
        · refine ⟨k, by omega, ?_, fun j hj => ?_⟩
          · intro z
            have := osup_l (ofk g n m u) (ofk g n k u)
            rw [e, z] at this
            cases e2 : ofk g n m u with
            | none => exact m2 e2
            | some w => rw [e2] at this; exact this
          · by_cases ej : j = k
            · subst ej; exact ole_rfl _
            · refine ole_trans (m3 j (by omega)) ?_
              have := osup_l (ofk g n m u) (ofk g n k u)
              rw [e] at this
              exact this
  obtain ⟨m, m1, m2, m3⟩ := hmax n (by omega)
  refine ⟨m, m1, m2, fun x t => ?_⟩
  induction t using Nat.strongRecOn generalizing x with
  | _ t ih =>
    intro hx hn
    by_cases ht : t < n
    · have := ofk_up (f := g) (n := n) t x hn
      rw [hx] at this
      exact ole_trans this (m3 t ht)
    · obtain ⟨x', t', h1, h2, h3, h4⟩ := cut_one hc (by omega) hn
      exact ole_trans h4 (ih t' h1 x' (h2.trans hx) h3)
omit hc in
theorem join_walk {x y : Nat → Nat} {s t : Nat} (e : x s = y 0) (hx : ∀ i, i ≤ s → x i < n) (hy : ∀ i, i ≤ t → y i < n) : ∃ z : Nat → Nat, z 0 = x 0 ∧ z (s + t) = y t ∧ (∀ i, i ≤ s + t → z i < n) ∧ owk g z (s + t) = omul (owk g y t) (owk g x s) := by
  have q : ∀ u, (if s + u ≤ s then x (s + u) else y (s + u - s)) = y u := fun u => by
    split
    · obtain rfl : u = 0 := by omega
      rw [Nat.add_zero, e]
    · rw [Nat.add_sub_cancel_left]
  refine ⟨fun u => if u ≤ s then x u else y (u - s), if_pos (Nat.zero_le _), q t, fun i hi => ?_, ?_⟩
  · show (if i ≤ s then x i else y (i - s)) < n
    split
    · next h => exact hx i h
    · exact hy _ (by omega)
  · rw [owk_add]
    congr 1
    · exact owk_congr fun u _ => q u
    · exact owk_congr fun u hu => if_pos hu
/-- Somewhere on a closed walk that weighs 0 a walk of n arcs is as good as any shorter one. -/
theorem karp_lo {z : Nat → Nat} {s : Nat} (hs : 1 ≤ s) (hz : z s = z 0) (hn : ∀ u, u ≤ s → z u < n) (hw : owk g z s = some 0) : ∃ v, v < n ∧ ofk g n n v ≠ none ∧ ∀ k, k < n → ole (ofk g n k v) (ofk g n n v) := by
  have hlt : ∀ u, u % s < s := fun u => Nat.mod_lt _ (by omega)
  have hzz : ∀ u, z (u % s) < n := fun u => hn _ (by have := hlt u; omega)
  have hround : ∀ q, owk g (fun u => z (u % s)) (q * s) = some 0 := by
    intro q
    induction q with
    | zero => rw [Nat.zero_mul]; rfl
    | succ q ih =>
      rw [Nat.succ_mul, owk_add, ih, omul_zero]
      rw [← hw]
      have : owk g (fun u => z ((q * s + u) % s)) s = owk g z s := by
        refine owk_congr fun u hu => ?_
        rw [Nat.add_comm, Nat.add_mul_mod_self_right]
        by_cases e : u = s
        · subst e; rw [Nat.mod_self, hz]
        · rw [Nat.mod_eq_of_lt (by omega)]
      exact this
  obtain ⟨m, m1, m2, m3⟩ := best_to hc (hzz 0)
  obtain ⟨d, hd⟩ : ∃ d, n = m + d := ⟨n - m, by omega⟩
  have hns : d ≤ n * s := by
    have : n * 1 ≤ n * s := Nat.mul_le_mul_left n hs
    omega
  -- the walk from the first node on, and back to it
  have hall := hround n
  have hsp : owk g (fun u => z (u % s)) (n * s) = omul (owk g (fun u => z ((d + u) % s)) (n * s - d)) (owk g (fun u => z (u % s)) d) := by
    rw [← owk_add (v := fun u => z (u % s)), show d + (n * s - d) = n * s by omega]
  rw [hall] at hsp
  have hend : z ((d + (n * s - d)) % s) = z (0 % s) := by
    rw [show d + (n * s - d) = 0 + n * s by omega, Nat.add_mul_mod_self_right]
  rcases ofk_att (f := g) (n := n) m (z (0 % s)) (hzz 0) with e | ⟨y, y1, y2, e⟩
  · exact absurd e m2
  · obtain ⟨p, -, p2, p3, p4⟩ := join_walk (x := y) (y := fun u => z (u % s)) (s := m) (t := d) y1 y2 (fun i _ => hzz i)
    have hup := ofk_up (f := g) (n := n) (m + d) p p3
    rw [← hd] at hup p2 p4
    rw [p2, p4, ← e] at hup
    have hup : ole (omul (owk g (fun u => z (u % s)) d) (ofk g n m (z (0 % s)))) (ofk g n n (z (d % s))) := hup
    refine ⟨z (d % s), hzz d, ?_, fun k hk => ?_⟩
    · intro hnone
      rw [hnone] at hup
      cases e1 : owk g (fun u => z (u % s)) d with
      | none => rw [e1, omul_none] at hsp; cases hsp
      | some w =>
        cases e2 : ofk g n m (z (0 % s)) with
        | none => exact m2 e2
        | some w' => rw [e1, e2] at hup; exact hup
    · rcases ofk_att (f := g) (n := n) k (z (d % s)) (hzz d) with e3 | ⟨x, x1, x2, e3⟩
      · rw [e3]; exact ole_none _
      · obtain ⟨r, -, r2, r3, r4⟩ := join_walk (x := x) (y := fun u => z ((d + u) % s)) (s := k) (t := n * s - d) x1 x2 (fun i _ => hzz _)
        have hb := m3 r (k + (n * s - d)) (r2.trans hend) r3
        rw [r4, ← e3] at hb
        refine ole_trans ?_ hup
        have e5 : ofk g n k (z (d % s)) = omul (owk g (fun u => z (u % s)) d) (omul (owk g (fun u => z ((d + u) % s)) (n * s - d)) (ofk g n k (z (d % s)))) := by
          rw [← omul_assoc, omul_comm (owk g (fun u => z (u % s)) d), ← hsp, zero_omul]
        rw [e5]
        exact omul_mono (ole_rfl _) hb
end
theorem slL_len (A : Nat → Nat → Int) (n v k : Nat) : (slL A n v k).length = k := by simp [slL]
theorem mem_slL {A : Nat → Nat → Int} {n v m : Nat} {p : Int × Int} : p ∈ slL A n v m ↔ ∃ k, k < m ∧ p = meanR (Fk A n n v - Fk A n k v) ((n : Int) - k) := by
  unfold slL
  simp only [List.mem_map, List.mem_range]
  exact ⟨fun ⟨k, h1, h2⟩ => ⟨k, h1, h2.symm⟩, fun ⟨k, h1, h2⟩ => ⟨k, h1, h2.symm⟩⟩
theorem mem_tbL {A : Nat → Nat → Int} {n m : Nat} {p : Int × Int} : p ∈ tbL A n m ↔ ∃ v, v < m ∧ Fk A n n v ≠ -1000000000000000 ∧ p = minR (slL A n v n) := by
  unfold tbL
  simp only [List.mem_flatMap, List.mem_range]
  constructor
  · rintro ⟨v, hv, h⟩
    split at h
    · simp at h
    · next hne => exact ⟨v, hv, hne, by simpa using h⟩
  · rintro ⟨v, hv, hne, h⟩
    exact ⟨v, hv, by rw [if_neg hne]; simp [h]⟩
theorem tbL_len (A : Nat → Nat → Int) (n v : Nat) : (tbL A n v).length ≤ v := by
  induction v with
  | zero => exact Nat.le_refl _
  | succ v ih => rw [tbL_next, List.length_append]; split <;> simp <;> omega
theorem mean_le {x a b k : Int} {p : Int × Int} (hk : 1 ≤ k) (hp : p = meanR x k) (hb : 1 ≤ b) (h : b * x ≤ k * a) : rle p (a, b) := by
  have hr : p.1 * k = x * p.2 := by rw [hp]; exact rat_back (n := x) (d := k) (by omega)
  have hq : 1 ≤ p.2 := by rw [hp]; exact rat_pos (n := x) (d := k) (by omega)
  show p.1 * b ≤ a * p.2
  have e1 : b * x * p.2 ≤ k * a * p.2 := Int.mul_le_mul_of_nonneg_right h (by omega)
  have e2 : b * x * p.2 = k * (p.1 * b) := by rw [Int.mul_assoc, ← hr]; ac_rfl
  have e3 : k * a * p.2 = k * (a * p.2) := by ac_rfl
  rw [e2, e3] at e1
  exact Int.le_of_mul_le_mul_left e1 (by omega)
theorem mean_ge {x a b k : Int} {p : Int × Int} (hk : 1 ≤ k) (hp : p = meanR x k) (hb : 1 ≤ b) (h : k * a ≤ b * x) : rle (a, b) p := by
  have hr : p.1 * k = x * p.2 := by rw [hp]; exact rat_back (n := x) (d := k) (by omega)
  have hq : 1 ≤ p.2 := by rw [hp]; exact rat_pos (n := x) (d := k) (by omega)
  show a * p.2 ≤ p.1 * b
  have e1 : k * a * p.2 ≤ b * x * p.2 := Int.mul_le_mul_of_nonneg_right h (by omega)
  have e2 : b * x * p.2 = k * (p.1 * b) := by rw [Int.mul_assoc, ← hr]; ac_rfl
  have e3 : k * a * p.2 = k * (a * p.2) := by ac_rfl
  rw [e2, e3] at e1
  exact Int.le_of_mul_le_mul_left e1 (by omega)
section
variable {A : Nat → Nat → Int} {n : Nat} (hn : n ≤ 10) (hA : ∀ i j, i < n → j < n → Sm 1000000 (A i j))
include hn hA
theorem slL_bd {v m : Nat} (hv : v < n) (hf : Fk A n n v ≠ -1000000000000000) (hm : m ≤ n) {p : Int × Int} (h : p ∈ slL A n v m) : -20000000 ≤ p.1 ∧ p.1 ≤ 20000000 ∧ 1 ≤ p.2 ∧ p.2 ≤ 10 ∧ Int.gcd p.1 p.2 = 1 := by
  obtain ⟨k, hk, rfl⟩ := mem_slL.1 h
  have h1 := Fk_sm hA n v hv
  have h2 := Fk_sm hA k v hv
  have h3 := Fk_less hA (m := n) (k := k) (by omega) hv (by omega) hf
  have h4 := meanR_bd (x := Fk A n n v - Fk A n k v) (k := (n : Int) - k) (L := 20000000) (by omega) (by unfold Sm at h1 h2; omega) (by unfold Sm at h1 h2; omega)
  have h5 := rat_gcd (n := Fk A n n v - Fk A n k v) (d := (n : Int) - k) (by omega)
  exact ⟨h4.1, h4.2.1, h4.2.2.1, by omega, h5⟩
theorem tbL_bd {m : Nat} (hm : m ≤ n) {p : Int × Int} (h : p ∈ tbL A n m) : -20000000 ≤ p.1 ∧ p.1 ≤ 20000000 ∧ 1 ≤ p.2 ∧ p.2 ≤ 10 ∧ Int.gcd p.1 p.2 = 1 := by
  obtain ⟨v, hv, hf, rfl⟩ := mem_tbL.1 h
  have := (minR_is (l := slL A n v n) (by rw [slL_len]; omega) (fun p hp => by have := slL_bd hn hA (by omega) hf (Nat.le_refl _) hp; omega)).1
  exact slL_bd hn hA (by omega) hf (Nat.le_refl _) this
omit hn hA in
theorem tbL_some (hc : hasCyc A n = true) : 1 ≤ (tbL A n n).length := by
  obtain ⟨i, hi, hf⟩ := List.any_eq_true.1 hc
  simp only [decide_eq_true_eq] at hf
  exact List.length_pos_of_mem (mem_tbL.2 ⟨i, List.mem_range.1 hi, hf, rfl⟩)
/-- The table's mean is the greatest mean of a cycle. -/
theorem tab_best (hc : hasCyc A n = true) : tabR A n = bestR A n := by
  obtain ⟨⟨b1, b2, b3, z, s, w, c1, c2, c3, c4, c5, c6⟩, hnear, -⟩ := bestR_best hn hA hc
  generalize bestR A n = r at *
  have hpos : ∀ p, p ∈ tbL A n n → 0 < p.2 := fun p hp => by have := tbL_bd hn hA (Nat.le_refl _) hp; omega
  obtain ⟨t1, t2⟩ := maxR_is (tbL_some hc) hpos
  have tb := tbL_bd hn hA (Nat.le_refl _) t1
  have hT : tabR A n = maxR (tbL A n n) := rfl
  rw [← hT] at t1 t2 tb
  have hg : ∀ (v : Nat → Nat) (s : Nat), v s = v 0 → (∀ u, u ≤ s → v u < n) → ole (owk (osh (fun i j => o (A i j)) (r).1 (r).2) v s) (some 0) := fun v s h1 h2 => by
    rw [owk_sh]
    cases e : owk (fun i j => o (A i j)) v s with
    | none => exact ole_none _
    | some w =>
      have := b3 v s w h1 h2 e
      show (r).2 * w - s * (r).1 ≤ 0
      omega
  have hz : owk (osh (fun i j => o (A i j)) (r).1 (r).2) z s = some 0 := by
    rw [owk_sh, c5]
    show some ((r).2 * w - s * (r).1) = some 0
    congr 1; omega
  have hF : ∀ k v, k ≤ n → v < n → ofk (osh (fun i j => o (A i j)) (r).1 (r).2) n k v = (o (Fk A n k v)).map fun x => (r).2 * x - k * (r).1 := fun k v hk hv => by
    rw [ofk_sh _ b1 k hv, o_Fk hA k (by omega) v hv]
  have hsl : ∀ v, v < n → Fk A n n v ≠ -1000000000000000 → minR (slL A n v n) ∈ slL A n v n ∧ (∀ p, p ∈ slL A n v n → rle (minR (slL A n v n)) p) ∧ (∀ p, p ∈ slL A n v n → 0 < p.2) := fun v hv hf => by
    have hp : ∀ p, p ∈ slL A n v n → 0 < p.2 := fun p hp => by have := slL_bd hn hA hv hf (Nat.le_refl _) hp; omega
    obtain ⟨q1, q2⟩ := minR_is (l := slL A n v n) (by rw [slL_len]; omega) hp
    exact ⟨q1, q2, hp⟩
  have hmk : ∀ x k : Int, (r).2 * (x - k) = (r).2 * x - (r).2 * k := fun x k => Int.mul_sub _ _ _
  -- no column has more
  have hup : rle (tabR A n) (r) := by
    obtain ⟨v, hv, hf, hp⟩ := mem_tbL.1 t1
    obtain ⟨q1, q2, q3⟩ := hsl v hv hf
    rw [hp]
    rcases karp_hi hg hv with e | ⟨k, hk, hle⟩
    · rw [hF n v (Nat.le_refl _) hv, o_fin hf] at e; cases e
    · have hfk := Fk_less hA (m := n) (k := k) (by omega) hv (by omega) hf
      rw [hF n v (Nat.le_refl _) hv, hF k v (by omega) hv, o_fin hf, o_fin hfk] at hle
      have hle : (r).2 * Fk A n n v - n * (r).1 ≤ (r).2 * Fk A n k v - k * (r).1 := hle
      have hm : meanR (Fk A n n v - Fk A n k v) ((n : Int) - k) ∈ slL A n v n := mem_slL.2 ⟨k, hk, rfl⟩
      refine rle_trans (q3 _ q1) (q3 _ hm) (by omega) (q2 _ hm) (mean_le (a := r.1) (b := r.2) (x := Fk A n n v - Fk A n k v) (k := (n : Int) - k) (by omega) rfl b1 ?_)
      rw [hmk, Int.sub_mul]
      omega
  have hlo : rle (r) (tabR A n) := by
    obtain ⟨v, hv, hne, hall⟩ := karp_lo hg c1 c3 c4 hz
    have hf : Fk A n n v ≠ -1000000000000000 := fun e => hne (by rw [hF n v (Nat.le_refl _) hv, e, o_bot]; rfl)
    obtain ⟨q1, q2, q3⟩ := hsl v hv hf
    have hin : minR (slL A n v n) ∈ tbL A n n := mem_tbL.2 ⟨v, hv, hf, rfl⟩
    refine rle_trans (by omega) (q3 _ q1) (hpos _ t1) ?_ (t2 _ hin)
    obtain ⟨k, hk, he⟩ := mem_slL.1 q1
    have hfk := Fk_less hA (m := n) (k := k) (by omega) hv (by omega) hf
    have hle := hall k hk
    rw [hF n v (Nat.le_refl _) hv, hF k v (by omega) hv, o_fin hf, o_fin hfk] at hle
    have hle : (r).2 * Fk A n k v - k * (r).1 ≤ (r).2 * Fk A n n v - n * (r).1 := hle
    refine mean_ge (a := r.1) (b := r.2) (x := Fk A n n v - Fk A n k v) (k := (n : Int) - k) (by omega) he b1 ?_
    rw [hmk, Int.sub_mul]
    omega
  have heq : (tabR A n).1 * (r).2 = (r).1 * (tabR A n).2 := by
    unfold rle at hup hlo; omega
  obtain ⟨e1, e2⟩ := lowest_eq (by omega) b1 tb.2.2.2.2 b2 heq
  exact Prod.ext e1 e2
end
end M
end Go.Proofs.YtlofnadpgnbmdaaGreat

namespace Go.Proofs.YtlofnadpgnbmdaaGreat
namespace M
theorem cfw_congr {A A' : Nat → Nat → Int} {n : Nat} (h : ∀ i j, i < n → j < n → A i j = A' i j) (k : Nat) (hk : k ≤ n) : ∀ i j, i < n → j < n → cfw A k i j = cfw A' k i j := by
  induction k with
  | zero => exact h
  | succ k ih =>
    intro i j hi hj
    show max _ (times _ _) = max _ (times _ _)
    rw [ih (by omega) i j hi hj, ih (by omega) i k hi (by omega), ih (by omega) k j (by omega) hj]
theorem noPos_congr {A A' : Nat → Nat → Int} {n : Nat} (h : ∀ i j, i < n → j < n → A i j = A' i j) : noPos A n = noPos A' n := by
  have e : ∀ k, k < n → cfw A k k k = cfw A' k k k := fun k hk => cfw_congr h k (by omega) k k hk hk
  cases h1 : noPos A n with
  | true => exact (noPos_of fun k hk => by rw [← e k hk]; exact noPos_t h1 hk).symm
  | false =>
    cases h2 : noPos A' n with
    | false => rfl
    | true =>
      have : noPos A n = true := noPos_of fun k hk => by rw [e k hk]; exact noPos_t h2 hk
      rw [h1] at this; cases this
theorem starF_congr {A A' : Nat → Nat → Int} {n : Nat} (h : ∀ i j, i < n → j < n → A i j = A' i j) {i j : Nat} (hi : i < n) (hj : j < n) : starF A n i j = starF A' n i j := by
  unfold starF; rw [cfw_congr h n (Nat.le_refl _) i j hi hj]
theorem over_congr {A A' : Nat → Nat → Int} {n : Nat} {ov : Int} (hn : n ≤ 10) (hA : ∀ i j, i < n → j < n → Sm 1000001000000 (A i j)) (h : ∀ i j, i < n → j < n → A' i j = A i j) : overL A' n ov = overL A n ov :=
  over_cut hn hA (fun i j hi hj => .inl (h i j hi hj)) fun q hq => by
    obtain ⟨f1, f2, f3, -⟩ := hq
    exact ⟨fun u hu => h _ _ (vx_lt f1 hu) (vx_lt f1 (by omega)), h _ _ (vx_lt f1 (by omega)) (vx_lt f1 (by omega))⟩
theorem sh_ent (R : List (List Int)) (a b : Int) {i j : Nat} (hi : i < R.length) (hj : j < R.length) : ent (shM R a b) i j = shf (ent R) a b i j := ent_mk _ _ _ _ _ hi hj
theorem sh_len (R : List (List Int)) (a b : Int) : (shM R a b).length = R.length := mk_length _ _ _
theorem sq_sm {R : List (List Int)} (hs : sqB R = true) : 1 ≤ R.length ∧ R.length ≤ 10 ∧ ∀ i j, i < R.length → j < R.length → Sm 1000000 (ent R i j) := by
  obtain ⟨h1, h2⟩ := sqB_t hs
  obtain ⟨m1, m2, -, -, -, m6⟩ := isMat_t h1
  exact ⟨m1, m2, fun i j hi hj => sm_val (m6 i hi j (by rw [← h2]; exact hj))⟩
theorem sum_ge {n : Nat} {f : Nat → Int} {t : Nat} (h : t < n) : f t ≤ sumN n f := by
  induction n with
  | zero => omega
  | succ n ih =>
    show _ ≤ max (sumN n f) (f n)
    by_cases e : t = n
    · subst e; omega
    · have := ih (by omega); omega
theorem sum_le {n : Nat} {f : Nat → Int} {c : Int} (hc : -1000000000000000 ≤ c) (h : ∀ t, t < n → f t ≤ c) : sumN n f ≤ c := by
  induction n with
  | zero => exact hc
  | succ n ih =>
    show max (sumN n f) (f n) ≤ c
    have := ih fun t ht => h t (by omega)
    have := h n (by omega)
    omega
theorem zeros_at (n i : Nat) : (zerosL n).getD i 0 = 0 := by
  unfold zerosL
  rw [List.getD_eq_getElem?_getD, List.getElem?_replicate]
  split <;> rfl
theorem pot_len (R : List (List Int)) (a b : Int) : (potL R a b).length = R.length := by
  unfold potL applyM starM; simp [mk]
theorem pot_at (R : List (List Int)) (a b : Int) {i : Nat} (hi : i < R.length) : (potL R a b).getD i 0 = sumN R.length fun j => times (starF (shf (ent R) a b) R.length i j) 0 := by
  unfold potL applyM
  have hl : (starM (shM R a b) R.length).length = R.length := mk_length _ _ _
  have hz : (zerosL R.length).length = R.length := by simp [zerosL]
  rw [hl, hz, List.getD_eq_getElem?_getD, List.getElem?_map, List.getElem?_range hi]
  show dotV _ _ i _ = _
  unfold dotV
  refine sumN_congr fun j hj => ?_
  unfold starM
  rw [zeros_at, ent_mk _ _ _ _ _ hi hj, starF_congr (A' := shf (ent R) a b) (fun i j hi hj => sh_ent R a b hi hj) hi hj]
section
variable {R : List (List Int)} {a b : Int} (hs : sqB R = true) (hr : isRat a b = true) (hp : noPos (shf (ent R) a b) R.length = true)
include hs hr hp
omit hs hr hp in
theorem star_self {i : Nat} (hi : i < R.length) : starF (shf (ent R) a b) R.length i i = 0 := if_pos rfl
theorem pot_term {i j : Nat} (hi : i < R.length) (hj : j < R.length) : Sm 11000011000000 (times (starF (shf (ent R) a b) R.length i j) 0) ∧ o (times (starF (shf (ent R) a b) R.length i j) 0) = obm (fun i j => o (shf (ent R) a b i j)) R.length R.length i j := by
  obtain ⟨n1, n2, hA⟩ := sq_sm hs
  have hS := sh_sm hA (near_rat hr)
  have h1 := star_sm n2 hS hp hi hj
  have h2 := smt h1 (.inr (by omega) : Sm 0 0)
  refine ⟨sm_up h2 (by omega), ?_⟩
  rw [o_times h1 (.inr (by omega) : Sm 0 0) (by omega) (by omega)]
  show omul _ (some 0) = _
  rw [omul_zero]
  unfold starF
  rw [← clo_star n2 hS hp hi hj, o_cbm hS R.length (by omega) i j hi hj]
theorem pot_sm {i : Nat} (hi : i < R.length) : Sm 11000011000000 ((potL R a b).getD i 0) ∧ 0 ≤ (potL R a b).getD i 0 ∧ o ((potL R a b).getD i 0) = osum R.length fun j => obm (fun i j => o (shf (ent R) a b i j)) R.length R.length i j := by
  rw [pot_at R a b hi]
  refine ⟨sms fun t ht => (pot_term hs hr hp hi ht).1, ?_, ?_⟩
  · have := sum_ge (f := fun j => times (starF (shf (ent R) a b) R.length i j) 0) hi
    have e : times (starF (shf (ent R) a b) R.length i i) 0 = 0 := by rw [star_self hi]; rfl
    rw [e] at this
    exact this
  · rw [o_sum (fun t ht => (pot_term hs hr hp hi ht).1) (by omega)]
    exact osum_congr fun t ht => (pot_term hs hr hp hi ht).2
/-- What PotentialOf tells is a potential. -/
theorem pot_holds (hv : isVec (potL R a b) = true) : holdsB R a b (potL R a b) = true := by
  obtain ⟨n1, n2, hA⟩ := sq_sm hs
  have hS := sh_sm hA (near_rat hr)
  have hd := o_diag n2 hS hp
  obtain ⟨-, -, hval⟩ := isVec_t hv
  unfold holdsB
  rw [Bool.and_eq_true, Bool.and_eq_true, decide_eq_true_eq]
  refine ⟨⟨pot_len R a b, ?_⟩, List.all_eq_true.2 fun i hi => ?_⟩
  · refine List.all_eq_true.2 fun x hx => ?_
    obtain ⟨i, hi, rfl⟩ := List.mem_iff_getElem.1 hx
    have h1 := (pot_sm hs hr hp (i := i) (by rw [← pot_len R a b]; exact hi)).2.1
    have h2 := isVal_t (hval i hi)
    have e : (potL R a b).getD i 0 = (potL R a b)[i] := by simp [hi]
    rw [e] at h1 h2
    simp [isFin]; omega
  · have hi := List.mem_range.1 hi
    rw [decide_eq_true_eq]
    obtain ⟨s1, s2, s3⟩ := pot_sm hs hr hp hi
    refine sum_le (by omega) fun j hj => ?_
    obtain ⟨t1, t2, t3⟩ := pot_sm hs hr hp hj
    have h1 : o (times (shf (ent R) a b i j) ((potL R a b).getD j 0)) = omul (o (shf (ent R) a b i j)) (o ((potL R a b).getD j 0)) := o_times (hS i j hi hj) t1 (by omega) (by omega)
    refine (o_le (L := 100000000000000) (sm_up (smt (hS i j hi hj) t1) (by omega)) (sm_up s1 (by omega)) (by omega)).1 ?_
    rw [h1, t3, s3]
    rcases osum_att R.length (fun k => obm (fun i j => o (shf (ent R) a b i j)) R.length R.length j k) with z | ⟨k, hk, z⟩
    · rw [z, omul_none]; exact ole_none _
    · rw [z]
      refine ole_trans ?_ (le_osum (f := fun k => obm (fun i j => o (shf (ent R) a b i j)) R.length R.length i k) hk)
      show ole _ (obm _ R.length R.length i k)
      rw [← obm_stable hd hi hk]
      refine ole_trans ?_ (osup_r _ _)
      exact le_osum (f := fun u => omul (o (shf (ent R) a b i u)) (obm (fun i j => o (shf (ent R) a b i j)) R.length R.length u k)) hj
end
theorem pot_t {R : List (List Int)} {a b : Int} (h : (potRes R a b).2 = 0) : sqB R = true ∧ isRat a b = true ∧ noPos (shf (ent R) a b) R.length = true ∧ isVec (potL R a b) = true ∧ potRes R a b = (potL R a b, 0) := by
  unfold potRes at h ⊢
  by_cases h1 : (sqB R && isRat a b) = true
  · rw [if_pos h1] at h ⊢
    rw [Bool.and_eq_true] at h1
    by_cases h2 : noPos (shf (ent R) a b) R.length = true
    · rw [if_pos h2] at h ⊢
      by_cases h3 : isVec (potL R a b) = true
      · rw [if_pos h3]; exact ⟨h1.1, h1.2, h2, h3, rfl⟩
      · rw [if_neg h3] at h; exact absurd h (by decide)
    · rw [if_neg h2] at h; exact absurd h (by decide)
  · rw [if_neg h1] at h; exact absurd h (by decide)
theorem pot_is {R : List (List Int)} {a b : Int} (h : (potRes R a b).2 = 0) : isPotB R a b (potRes R a b).1 = true := by
  obtain ⟨h1, h2, h3, h4, h5⟩ := pot_t h
  rw [h5]
  unfold isPotB
  rw [h1, h2, pot_holds h1 h2 h3 h4]; rfl
theorem cyc_t {R : List (List Int)} (h : (cycMeanRes R).2 = 0) : sqB R = true ∧ hasCyc (ent R) R.length = true ∧ isRat (bestR (ent R) R.length).1 (bestR (ent R) R.length).2 = true ∧ cycMeanRes R = (bestR (ent R) R.length, 0) := by
  unfold cycMeanRes lim at h ⊢
  by_cases h1 : sqB R = true
  · rw [if_pos h1] at h ⊢
    by_cases h2 : hasCyc (ent R) R.length = true
    · rw [if_pos h2] at h ⊢
      by_cases h3 : isRat (bestR (ent R) R.length).1 (bestR (ent R) R.length).2 = true
      · rw [if_pos h3]; exact ⟨h1, h2, h3, rfl⟩
      · rw [if_neg h3] at h; exact absurd h (by decide)
    · rw [if_neg h2] at h; exact absurd h (by decide)
  · rw [if_neg h1] at h; exact absurd h (by decide)
theorem tab_same (R : List (List Int)) : tabRes R = cycMeanRes R := by
  unfold tabRes cycMeanRes
  by_cases h1 : sqB R = true
  · rw [if_pos h1, if_pos h1]
    by_cases h2 : hasCyc (ent R) R.length = true
    · obtain ⟨n1, n2, hA⟩ := sq_sm h1
      rw [if_pos h2, if_pos h2, tab_best n2 hA h2]
    · rw [if_neg h2, if_neg h2]
  · rw [if_neg h1, if_neg h1]
/-- A ratio has a potential exactly if the greatest mean is not greater. -/
theorem pot_cmp {R : List (List Int)} {a b : Int} (hs : sqB R = true) (hc : hasCyc (ent R) R.length = true) (hr : isRat a b = true) :
    noPos (shf (ent R) a b) R.length = decide ((bestR (ent R) R.length).1 * b ≤ a * (bestR (ent R) R.length).2) := by
  obtain ⟨n1, n2, hA⟩ := sq_sm hs
  obtain ⟨⟨b1, b2, b3, v, s, w, c1, c2, c3, c4, c5, c6⟩, -⟩ := bestR_best n2 hA hc
  have hnear := near_rat hr
  obtain ⟨-, -, r1, -, -⟩ := isRat_t hr
  generalize bestR (ent R) R.length = m at *
  cases h : noPos (shf (ent R) a b) R.length with
  | true => exact (decide_eq_true (cross_le (show (0 : Int) < s by omega) (noPos_walk n2 hA hnear h c3 c4 c5) c6 (by omega) (by omega))).symm
  | false =>
    refine (decide_eq_false fun hle => ?_).symm
    have : noPos (shf (ent R) a b) R.length = true := noPos_of_walk n2 hA hnear fun v s w h1 _ h3 h4 _ h6 => by
      have e0 := b3 v s w h3 h4 h6
      have e1 : b * (m.2 * w) ≤ b * (s * m.1) := Int.mul_le_mul_of_nonneg_left e0 (by omega)
      have e2 : s * (m.1 * b) ≤ s * (a * m.2) := Int.mul_le_mul_of_nonneg_left hle (by omega)
      have e3 : b * (s * m.1) = s * (m.1 * b) := by ac_rfl
      have e4 : b * (m.2 * w) = m.2 * (b * w) := by ac_rfl
      have e5 : s * (a * m.2) = m.2 * (s * a) := by ac_rfl
      rw [e3, e4] at e1
      rw [e5] at e2
      exact Int.le_of_mul_le_mul_left (Int.le_trans e1 e2) (by omega)
    rw [h] at this; cases this
theorem around_arW (R : List (List Int)) (l : List Int) : aroundW R l = arW (ent R) l := rfl
/-- The mean of a cycle against the greatest one. -/
theorem mean_most {R : List (List Int)} {l : List Int} (h : (meanRes R l).2 = 0) : (cycMeanRes R).2 = 3 ∨ (cycMeanRes R).2 = 0 ∧ (cmpOf (meanRes R l).1.1 (meanRes R l).1.2 (cycMeanRes R).1.1 (cycMeanRes R).1.2).2 = 0 ∧ (cmpOf (meanRes R l).1.1 (meanRes R l).1.2 (cycMeanRes R).1.1 (cycMeanRes R).1.2).1 ≤ 0 := by
  unfold meanRes lim at h ⊢
  by_cases h1 : sqB R = true
  · rw [if_pos h1] at h ⊢
    by_cases h2 : cycB R l = true
    · rw [if_pos h2] at h ⊢
      by_cases h3 : isRat (meanR (aroundW R l) l.length).1 (meanR (aroundW R l) l.length).2 = true
      · rw [if_pos h3]
        obtain ⟨n1, n2, hA⟩ := sq_sm h1
        unfold cycB at h2
        rw [Bool.and_eq_true, Bool.and_eq_true, Bool.and_eq_true, decide_eq_true_eq, decide_eq_true_eq] at h2
        obtain ⟨⟨⟨c1, c2⟩, c3⟩, c4⟩ := h2
        have hl := diffB_len c2 c3
        have ho := list_owk (A := ent R) (fun i j hi hj => sm_wide (hA i j hi hj)) c1 (by omega) c2
        have hcl : Closed (ent R) R.length (fun u => vx l (u % l.length)) l.length := ⟨c1, by show vx l _ = vx l _; rw [Nat.mod_self, Nat.zero_mod], fun u _ => vx_lt c2 (Nat.mod_lt _ (by omega)), by
          rw [← ho, ← around_arW, o_fin c4]; simp⟩
        have hc := closed_cyc n2 hA hcl
        obtain ⟨⟨b1, b2, b3, -⟩, -⟩ := bestR_best n2 hA hc
        have hw := b3 _ l.length (aroundW R l) hcl.2.1 hcl.2.2.1 (by rw [← ho, ← around_arW, o_fin c4])
        have hle := mean_le (a := (bestR (ent R) R.length).1) (b := (bestR (ent R) R.length).2) (x := aroundW R l) (k := (l.length : Int)) (by omega) rfl b1 hw
        unfold cycMeanRes lim
        rw [if_pos h1, if_pos hc]
        by_cases h4 : isRat (bestR (ent R) R.length).1 (bestR (ent R) R.length).2 = true
        · rw [if_pos h4]
          right
          unfold cmpOf
          rw [h3, h4, if_pos (by rfl)]
          refine ⟨rfl, rfl, ?_⟩
          have hle : (meanR (aroundW R l) l.length).1 * (bestR (ent R) R.length).2 ≤ (bestR (ent R) R.length).1 * (meanR (aroundW R l) l.length).2 := hle
          show cmpZ ((meanR (aroundW R l) l.length).1 * (bestR (ent R) R.length).2) ((bestR (ent R) R.length).1 * (meanR (aroundW R l) l.length).2) ≤ 0
          unfold cmpZ
          split
          · omega
          · rw [if_neg (by omega)]; omega
        · left; rw [if_neg h4]
      · rw [if_neg h3] at h; exact absurd h (by decide)
    · rw [if_neg h2] at h; exact absurd h (by decide)
  · rw [if_neg h1] at h; exact absurd h (by decide)
/-- The best cycle has the greatest mean. -/
theorem best_cyc {R : List (List Int)} (hs : sqB R = true) (hc : hasCyc (ent R) R.length = true) : cycB R (bestCyc R) = true ∧ meanR (aroundW R (bestCyc R)) (bestCyc R).length = bestR (ent R) R.length ∧ 1 ≤ (bestCyc R).length ∧ (bestCyc R).length ≤ 10 := by
  obtain ⟨n1, n2, hA⟩ := sq_sm hs
  obtain ⟨⟨b1, b2, b3, z, s, w, c1, c2, c3, c4, c5, c6⟩, hnear, -⟩ := bestR_best n2 hA hc
  have hS := sh_sm hA hnear
  have hne : (bestCyc R).length ≠ 0 := by
    -- a closed walk that weighs 0, as short as possible
    have hex : ∃ (s : Nat) (v : Nat → Nat), 1 ≤ s ∧ v s = v 0 ∧ (∀ u, u ≤ s → v u < R.length) ∧ ole (some 0) (owk (fun i j => o (shf (ent R) (bestR (ent R) R.length).1 (bestR (ent R) R.length).2 i j)) v s) := ⟨s, z, c1, c3, c4, by
      rw [sh_owk hA hnear z s c4, c5]
      show (0 : Int) ≤ (bestR (ent R) R.length).2 * w - s * (bestR (ent R) R.length).1
      omega⟩
    have hleast : ∃ (s : Nat) (v : Nat → Nat), (1 ≤ s ∧ v s = v 0 ∧ (∀ u, u ≤ s → v u < R.length) ∧ ole (some 0) (owk (fun i j => o (shf (ent R) (bestR (ent R) R.length).1 (bestR (ent R) R.length).2 i j)) v s)) ∧ ∀ i j, i < j → j < s → v i ≠ v j := by
      obtain ⟨s, hs'⟩ := hex
      induction s using Nat.strongRecOn with
      | _ s ih =>
        obtain ⟨v, d1, d2, d3, d4⟩ := hs'
        by_cases e : ∃ i j, i < j ∧ j < s ∧ v i = v j
        · obtain ⟨i, j, hij, hj, e⟩ := e
          have hin : ole (owk (fun i j => o (shf (ent R) (bestR (ent R) R.length).1 (bestR (ent R) R.length).2 i j)) (fun u => v (i + u)) (j - i)) (some 0) := by
            rw [sh_owk hA hnear _ _ (fun u hu => d3 _ (by omega))]
            cases ew : owk (fun i j => o (ent R i j)) (fun u => v (i + u)) (j - i) with
            | none => exact ole_none _
            | some x =>
              have := b3 (fun u => v (i + u)) (j - i) x (by show v (i + (j - i)) = v (i + 0); rw [show i + (j - i) = j by omega]; exact e.symm) (fun u hu => d3 _ (by omega)) ew
              show (bestR (ent R) R.length).2 * x - ((j - i : Nat) : Int) * (bestR (ent R) R.length).1 ≤ 0
              omega
          obtain ⟨v', q1, q2, q3, q4⟩ := skip _ v s i j hij (by omega) e d3 hin
          exact ih (s - (j - i)) (by omega) ⟨v', by omega, by rw [q1, q2, d2], q3, ole_trans d4 q4⟩
        · exact ⟨s, v, ⟨d1, d2, d3, d4⟩, fun i j hij hj k => e ⟨i, j, hij, hj, k⟩⟩
    obtain ⟨s, v, ⟨d1, d2, d3, d4⟩, hdis⟩ := hleast
    have hsn : s ≤ R.length := by
      apply Classical.byContradiction
      intro hc
      obtain ⟨i, j, hij, hj, e⟩ := pigeon R.length v (fun t ht => d3 t (by omega))
      exact hdis i j hij (by omega) e
    have ho := o_wkc (A := shf (ent R) (bestR (ent R) R.length).1 (bestR (ent R) R.length).2) (v := v) (t := s) (by omega) (fun u hu => hS _ _ (d3 _ (by omega)) (d3 _ (by omega)))
    rw [← ho] at d4
    have hfin : wkc (shf (ent R) (bestR (ent R) R.length).1 (bestR (ent R) R.length).2) v s ≠ -1000000000000000 := fun e => by
      rw [e, o_bot] at d4; exact d4
    rw [o_fin hfin] at d4
    have d4 : 0 ≤ wkc (shf (ent R) (bestR (ent R) R.length).1 (bestR (ent R) R.length).2) v s := d4
    exact over_finds n2 hS d1 d2 d3 hdis hfin (by omega)
  obtain ⟨f1, f2, f3, f4, f5, f6⟩ := over_fnd n2 hS hne
  have hq : overL (shf (ent R) (bestR (ent R) R.length).1 (bestR (ent R) R.length).2) R.length (-1) = bestCyc R := rfl
  rw [hq] at f1 f2 f3 f4 f5 f6
  generalize bestCyc R = q at *
  have hl := diffB_len f1 f2
  have ha : arW (shf (ent R) (bestR (ent R) R.length).1 (bestR (ent R) R.length).2) q = wkc (shf (ent R) (bestR (ent R) R.length).1 (bestR (ent R) R.length).2) (vx q) (q.length - 1) + shf (ent R) (bestR (ent R) R.length).1 (bestR (ent R) R.length).2 (vx q 0) (lastV q) := times_fin f4 f5
  have hsh := list_sh hA hnear f3 (by omega) f1
  rw [ha, o_fin (by omega)] at hsh
  have hf : arW (ent R) q ≠ -1000000000000000 := fun e => by rw [e, o_bot] at hsh; cases hsh
  have hw := b3 (fun u => vx q (u % q.length)) q.length (arW (ent R) q) (by show vx q _ = vx q _; rw [Nat.mod_self, Nat.zero_mod]) (fun u _ => vx_lt f1 (Nat.mod_lt _ (by omega))) (by
    rw [← list_owk (fun i j hi hj => sm_wide (hA i j hi hj)) f3 (by omega) f1, o_fin hf])
  rw [o_fin hf] at hsh
  have hsh : _ = (bestR (ent R) R.length).2 * arW (ent R) q - (q.length : Int) * (bestR (ent R) R.length).1 := Option.some.inj hsh
  have hb := rat_back (n := arW (ent R) q) (d := (q.length : Int)) (by omega)
  have hg := rat_gcd (n := arW (ent R) q) (d := (q.length : Int)) (by omega)
  have hpos := rat_pos (n := arW (ent R) q) (d := (q.length : Int)) (by omega)
  refine ⟨?_, ?_, f3, by omega⟩
  · unfold cycB
    rw [f1, f2, around_arW]
    simp [f3, hf]
  · rw [around_arW]
    have heq : (bestR (ent R) R.length).2 * arW (ent R) q = (q.length : Int) * (bestR (ent R) R.length).1 := by omega
    have e : ratN (arW (ent R) q) q.length * (bestR (ent R) R.length).2 = (bestR (ent R) R.length).1 * ratD (arW (ent R) q) q.length := by
      refine Int.eq_of_mul_eq_mul_left (a := (q.length : Int)) (by omega) ?_
      have e1 : (q.length : Int) * (ratN (arW (ent R) q) q.length * (bestR (ent R) R.length).2) = ratN (arW (ent R) q) q.length * q.length * (bestR (ent R) R.length).2 := by ac_rfl
      have e2 : (q.length : Int) * ((bestR (ent R) R.length).1 * ratD (arW (ent R) q) q.length) = (q.length : Int) * (bestR (ent R) R.length).1 * ratD (arW (ent R) q) q.length := by ac_rfl
      rw [e1, e2, hb, ← heq]; ac_rfl
    obtain ⟨e1, e2⟩ := lowest_eq hpos b1 hg b2 e
    exact Prod.ext e1 e2
/-- The certificate proves the mean from both sides. -/
theorem cert_ok {R : List (List Int)} (h : (certRes R).2.2.2 = 0) : certB R (certRes R).1.1 (certRes R).1.2 (certRes R).2.1 (certRes R).2.2.1 = true := by
  unfold certRes at h ⊢
  by_cases h1 : (cycMeanRes R).2 = 0
  · rw [if_pos h1] at h ⊢
    by_cases h2 : (potRes R (cycMeanRes R).1.1 (cycMeanRes R).1.2).2 = 0
    · rw [if_pos h2]
      obtain ⟨c1, c2, c3, c4⟩ := cyc_t h1
      have hp := pot_is h2
      obtain ⟨q1, q2, -⟩ := best_cyc c1 c2
      rw [c4] at hp ⊢
      show certB R (bestR (ent R) R.length).1 (bestR (ent R) R.length).2 (bestCyc R) (potRes R (bestR (ent R) R.length).1 (bestR (ent R) R.length).2).1 = true
      unfold certB
      rw [q1, q2, hp]; simp
    · rw [if_neg h2] at h; exact absurd h h2
  · rw [if_neg h1] at h; exact absurd h h1
end M
end Go.Proofs.YtlofnadpgnbmdaaGreat
