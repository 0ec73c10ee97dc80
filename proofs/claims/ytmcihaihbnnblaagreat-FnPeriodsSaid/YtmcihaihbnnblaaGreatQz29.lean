/- Texts laid together: Pel. -/
import Derived.Test.YtmcihaihbnnblaaGreatQz28
set_option linter.unusedSimpArgs false
set_option linter.unusedVariables false
set_option linter.unusedSectionVars false
namespace Go.Proofs.YtmcihaihbnnblaaGreat
namespace M
section
variable {R : List (List Int)} (h1 : sqB R = true) (h2 : hasCyc (ent R) R.length = true)
include h1 h2
theorem cyc_dvd {k : Nat} : ∀ m, k < m → m ≤ (crComps R).length → perL R ((crComps R).getD k []) ∣ cycP R m := by
  intro m
  induction m with
  | zero => intro h _; omega
  | succ m ih =>
    intro h hm
    have b := (cycP_bd h1 h2 m (by omega)).1
    have p := (comp_per h1 h2 (k := m) (by omega)).1
    rw [cycP_next (by omega)]
    by_cases e : k = m
    · subst e; exact Int.dvd_mul_left _ _
    · rw [← (lcm_two b p).1]
      exact Int.dvd_trans (ih (by omega) (by omega)) (Int.dvd_mul_right _ _)
theorem node_comp {v : Nat} (hv : v < R.length) (hc : crN R v = true) : perL R (compL (ent (crM R)) R.length v) ∣ cycP R (crComps R).length := by
  have : ∃ k, k < (crComps R).length ∧ hasB ((crComps R).getD k []) (v : Int) = true := by
    refine Classical.byContradiction fun hno => ?_
    have := comp_no hv fun k hk => by
      cases e : hasB ((crComps R).getD k []) (v : Int) with
      | false => rfl
      | true => exact absurd ⟨k, hk, e⟩ hno
    rw [this] at hc; cases hc
  obtain ⟨k, hk, hb⟩ := this
  rw [← (comp_has hk hv hb).1]
  exact cyc_dvd h1 h2 _ hk (Nat.le_refl _)
theorem best_per : crN R (vx (bestCyc R) 0) = true ∧ vx (bestCyc R) 0 < R.length ∧ (bestCyc R).getD 0 0 = (vx (bestCyc R) 0 : Int) ∧ perL R (compL (ent (crM R)) R.length (vx (bestCyc R) 0)) ∣ ((bestCyc R).length : Int) := by
  obtain ⟨n1, n2, -⟩ := sq_sm h1
  obtain ⟨q1, q2, q3, q4⟩ := best_cyc h1 h2
  have hcr := crit_cyc h1 h2 q1
  rw [decide_eq_true q2] at hcr
  obtain ⟨-, hnod, -, -⟩ := crCycB_t q1
  have hall : ∀ u, u < (bestCyc R).length → crB R (vx (bestCyc R) u) (vx (bestCyc R) ((u + 1) % (bestCyc R).length)) = true := fun u hu => List.all_eq_true.1 hcr.symm u (List.mem_range.2 hu)
  have hlt : ∀ u, u % (bestCyc R).length < (bestCyc R).length := fun u => Nat.mod_lt _ (by omega)
  have hn : ∀ u, vx (bestCyc R) (u % (bestCyc R).length) < R.length := fun u => vx_lt hnod (hlt u)
  have h0 := nodesB_at hnod (k := 0) (by omega)
  refine ⟨List.any_eq_true.2 ⟨_, List.mem_range.2 (hn 1), by have := hall 0 (by omega); rwa [Nat.zero_add] at this⟩, by have := hn 0; rwa [Nat.zero_mod] at this, by unfold vx; omega, ?_⟩
  refine closed_v h1 h2 ((perL_iff n1).1 (Int.dvd_refl _)) (f := fun u => vx (bestCyc R) (u % (bestCyc R).length)) (by show vx _ (0 % _) = _; rw [Nat.zero_mod]) (by show vx _ (_ % _) = _; rw [Nat.mod_self]) (fun i hi => ?_) (fun i _ => hn i)
  refine (crM_iff h1 h2 (hn _) (hn _)).2 ?_
  have := hall _ (hlt i)
  rw [Nat.mod_add_mod] at this
  exact this
end
theorem per_best {R : List (List Int)} (h : crCode R = 0) : ∃ q, perRes R ((bestCyc R).getD 0 0) = (q, 0) ∧ 1 ≤ q ∧ q ≤ 10 ∧ ((bestCyc R).length : Int).tmod q = 0 ∧ (cycP R (crComps R).length).tmod q = 0 := by
  obtain ⟨h1, h2⟩ := cr_code h
  obtain ⟨n1, n2, -⟩ := sq_sm h1
  obtain ⟨a, b, c, d⟩ := best_per h1 h2
  have hp := per_pos h1 h2 b a
  refine ⟨_, ?_, hp.1, by omega, Int.tmod_eq_zero_of_dvd d, Int.tmod_eq_zero_of_dvd (node_comp h1 h2 b a)⟩
  unfold perRes
  rw [if_pos h, c]
  have : inN R.length ((vx (bestCyc R) 0 : Nat) : Int) = true := by unfold inN; simp [b]
  rw [if_pos this, Int.toNat_natCast, if_pos a]
theorem per_any {R : List (List Int)} {x : Int} (h : crCode R = 0) (hp : (perRes R x).2 = 0) : 0 < (perRes R x).1 ∧ (perRes R x).1 ≤ 10 ∧ (cycP R (crComps R).length).tmod (perRes R x).1 = 0 := by
  obtain ⟨h1, h2⟩ := cr_code h
  obtain ⟨n1, n2, -⟩ := sq_sm h1
  unfold perRes at hp ⊢
  rw [if_pos h] at hp ⊢
  by_cases e : inN R.length x = true
  · rw [if_pos e] at hp ⊢
    have hx := inN_t e
    by_cases e2 : crN R x.toNat = true
    · rw [if_pos e2]
      have hv : x.toNat < R.length := by omega
      have hp := per_pos h1 h2 hv e2
      exact ⟨by show 0 < perL _ _; omega, by show perL _ _ ≤ 10; omega, Int.tmod_eq_zero_of_dvd (node_comp h1 h2 hv e2)⟩
    · rw [if_neg e2] at hp; exact absurd hp (by simp)
  · rw [if_neg e] at hp; exact absurd hp (by simp)
end M
end Go.Proofs.YtmcihaihbnnblaaGreat
