/- Plain facts: a positive cycle is found by growing paths exactly if some node comes back to itself with a gain. -/
import Derived.Test.YtfdckijililomaaMatG
import Derived.Test.YtfdckijililomaaMatL
namespace Go.Proofs.Ytfdckijililomaa
namespace M
theorem pick_some {g : Nat → List Int} {v : Nat} : ∀ c k, k ≤ v → v < k + c → (g v).length ≠ 0 → (pick g c k).length ≠ 0 := by
  intro c
  induction c with
  | zero => intro k h1 h2; omega
  | succ c ih =>
    intro k h1 h2 h3
    show (if _ then _ else _ : List Int).length ≠ 0
    split
    · next h =>
      by_cases e : k = v
      · subst e; exact absurd h h3
      · exact ih (k + 1) (by omega) (by omega) h3
    · next h => exact h
theorem pick_from {g : Nat → List Int} : ∀ c k, (pick g c k).length ≠ 0 → ∃ v, k ≤ v ∧ v < k + c ∧ (g v).length ≠ 0 := by
  intro c
  induction c with
  | zero => intro k h; exact absurd rfl h
  | succ c ih =>
    intro k h
    by_cases e : (g k).length = 0
    · have h : (if (g k).length = 0 then pick g c (k + 1) else g k).length ≠ 0 := h
      rw [if_pos e] at h
      obtain ⟨v, h1, h2, h3⟩ := ih _ h
      exact ⟨v, by omega, by omega, h3⟩
    · exact ⟨k, Nat.le_refl _, by omega, e⟩
theorem times_fin {a b : Int} (ha : a ≠ -1000000000000000) (hb : b ≠ -1000000000000000) : times a b = a + b := by
  unfold times; rw [if_neg]; rintro (h | h) <;> contradiction
theorem snoc_vx {p : List Int} {v : Nat} {u : Nat} (h : u < p.length) : vx (p ++ [(v : Int)]) u = vx p u := by
  unfold vx; rw [List.getD_eq_getElem?_getD, List.getElem?_append_left h, ← List.getD_eq_getElem?_getD]
theorem snoc_vxl {p : List Int} {v : Nat} : vx (p ++ [(v : Int)]) p.length = v := by
  unfold vx; simp
/-- What is found is a closed path with a gain. -/
theorem grow_sound {A : Nat → Nat → Int} {n : Nat} (hA : ∀ i j, i < n → j < n → Sm 1000001000000 (A i j)) (f : Nat) : ∀ p wt, nodesB n p = true → 1 ≤ p.length → p.length + f ≤ 50 → wt = wkc A (vx p) (p.length - 1) → wt ≠ -1000000000000000 → (grow A n 0 f p wt).length ≠ 0 →
    ∃ q, nodesB n q = true ∧ 1 ≤ q.length ∧ q.length ≤ 50 ∧ wkc A (vx q) (q.length - 1) ≠ -1000000000000000 ∧ A (vx q 0) (lastV q) ≠ -1000000000000000 ∧ 0 < wkc A (vx q) (q.length - 1) + A (vx q 0) (lastV q) := by
  induction f with
  | zero => intro p wt _ _ _ _ _ h; exact absurd rfl h
  | succ f ih =>
    intro p wt hp h1 hf hw hb h
    by_cases hc : clB A 0 p wt = true
    · unfold clB at hc
      rw [Bool.and_eq_true, decide_eq_true_eq, decide_eq_true_eq] at hc
      exact ⟨p, hp, h1, by omega, by rw [← hw]; exact hb, hc.1, by rw [← hw]; exact hc.2⟩
    · rw [grow_no (by simpa using hc)] at h
      obtain ⟨v, hv1, hv2, hv3⟩ := pick_from _ _ h
      have hvn : v < n := by omega
      unfold stepG at hv3
      split at hv3
      · exact absurd rfl hv3
      · next hne =>
        have ha : A v (lastV p) ≠ -1000000000000000 := fun e => hne (.inl e)
        have hl : lastV p < n := vx_lt hp (by omega)
        have hsm := wkc_sm (A := A) (v := vx p) (t := p.length - 1) (fun u hu => hA _ _ (vx_lt hp (by omega)) (vx_lt hp (by omega)))
        rw [← hw] at hsm
        have hsa := hA v (lastV p) hvn hl
        refine ih (p ++ [(v : Int)]) _ (nodesB_snoc hp hvn) (by simp) (by simp; omega) ?_ ?_ hv3
        · rw [List.length_append, List.length_singleton, Nat.add_sub_cancel]
          obtain ⟨m, hm⟩ : ∃ m, p.length = m + 1 := ⟨p.length - 1, by omega⟩
          have e1 : wkc A (vx (p ++ [(v : Int)])) m = wt := by
            rw [hw, show p.length - 1 = m by omega]
            exact wkc_congr fun u hu => snoc_vx (by omega)
          have e2 : vx (p ++ [(v : Int)]) (m + 1) = v := by rw [← hm]; exact snoc_vxl
          have e3 : vx (p ++ [(v : Int)]) m = lastV p := by rw [snoc_vx (by omega)]; unfold lastV; rw [show p.length - 1 = m by omega]
          rw [hm]
          show _ = times (wkc A _ m) (A _ _)
          rw [e1, e2, e3, times_fin hb ha]
        · unfold Sm at hsm hsa
          omega
/-- No gain, no cycle. -/
theorem over_none {A : Nat → Nat → Int} {n : Nat} (hn : n ≤ 10) (hA : ∀ i j, i < n → j < n → Sm 1000001000000 (A i j)) (h : noPos A n = true) : (overL A n 0).length = 0 := by
  apply Classical.byContradiction
  intro hne
  obtain ⟨v, -, hv, hg⟩ := pick_from _ _ hne
  have hvn : v < n := by omega
  obtain ⟨q, q1, q2, q3, q4, q5, q6⟩ := grow_sound hA n [(v : Int)] 0 (by simp [nodesB, inN]; omega) (by simp) (by simp; omega) rfl (by omega) hg
  obtain ⟨m, hm⟩ : ∃ m, q.length = m + 1 := ⟨q.length - 1, by omega⟩
  have hlast : lastV q = vx q m := by unfold lastV; rw [hm, Nat.add_sub_cancel]
  rw [hm, Nat.add_sub_cancel] at q4 q6
  rw [hlast] at q5 q6
  have hq : ∀ u, u ≤ m → vx q u < n := fun u hu => vx_lt q1 (by omega)
  let w : Nat → Nat := fun u => if u ≤ m then vx q u else vx q 0
  have hw : ∀ u, u ≤ m + 1 → w u < n := fun u _ => by
    show (if u ≤ m then vx q u else vx q 0) < n
    split
    · next h => exact hq u h
    · exact hq 0 (by omega)
  have e1 : w (m + 1) = vx q 0 := by show (if m + 1 ≤ m then _ else _) = _; rw [if_neg (by omega)]
  have e2 : w m = vx q m := by show (if m ≤ m then _ else _) = _; rw [if_pos (Nat.le_refl _)]
  have e3 : wkc A w (m + 1) = wkc A (vx q) m + A (vx q 0) (vx q m) := by
    show times (wkc A w m) (A (w (m + 1)) (w m)) = _
    rw [e1, e2, wkc_congr (v' := vx q) (fun u hu => by show (if u ≤ m then _ else _) = _; rw [if_pos hu]), times_fin q4 q5]
  have ho := o_wkc (A := A) (v := w) (t := m + 1) (by omega) (fun u hu => hA _ _ (hw _ (by omega)) (hw _ (by omega)))
  have hd := owk_diag (o_diag hn hA h) w (m + 1) hw (by rw [e1]; show _ = (if 0 ≤ m then _ else _); rw [if_pos (Nat.zero_le _)])
  rw [← ho, e3, o_fin (by omega)] at hd
  have : wkc A (vx q) m + A (vx q 0) (vx q m) ≤ 0 := hd
  omega

section opt
variable {f : Nat → Nat → Option Int} {n : Nat}
/-- A closed walk with a gain. -/
def Gain (f : Nat → Nat → Option Int) (n : Nat) (v : Nat → Nat) (s : Nat) : Prop := 1 ≤ s ∧ v s = v 0 ∧ (∀ u, u ≤ s → v u < n) ∧ ¬ ole (owk f v s) (some 0)
theorem gain_least {s : Nat} {v : Nat → Nat} (h : Gain f n v s) : ∃ t w, Gain f n w t ∧ ∀ t' w', t' < t → ¬ Gain f n w' t' := by
  induction s using Nat.strongRecOn generalizing v with
  | _ s ih =>
    by_cases e : ∃ t' w', t' < s ∧ Gain f n w' t'
    · obtain ⟨t', w', h1, h2⟩ := e
      exact ih t' h1 h2
    · exact ⟨s, v, h, fun t' w' h1 h2 => e ⟨t', w', h1, h2⟩⟩
/-- A shortest one has no node twice. -/
theorem gain_simple {s : Nat} {v : Nat → Nat} (h : Gain f n v s) (hl : ∀ t' w', t' < s → ¬ Gain f n w' t') {a b : Nat} (hab : a < b) (hb : b < s) : v a ≠ v b := by
  intro e
  obtain ⟨h1, h2, h3, h4⟩ := h
  by_cases hin : ole (owk f (fun u => v (a + u)) (b - a)) (some 0)
  · obtain ⟨v', q1, q2, q3, q4⟩ := skip f v s a b hab (by omega) e h3 hin
    exact hl (s - (b - a)) v' (by omega) ⟨by omega, by rw [q1, q2, h2], q3, fun hx => h4 (ole_trans q4 hx)⟩
  · refine hl (b - a) (fun u => v (a + u)) (by omega) ⟨by omega, ?_, fun u hu => h3 _ (by omega), hin⟩
    show v (a + (b - a)) = v (a + 0)
    rw [show a + (b - a) = b by omega]; exact e.symm
theorem least_at (v : Nat → Nat) (s : Nat) (hs : 1 ≤ s) : ∃ r, r < s ∧ ∀ u, u < s → v r ≤ v u := by
  induction s with
  | zero => omega
  | succ s ih =>
    by_cases h0 : s = 0
    · subst h0; exact ⟨0, by omega, fun u hu => by obtain rfl : u = 0 := by omega
                                                   exact Nat.le_refl _⟩
    · obtain ⟨r, hr, hm⟩ := ih (by omega)
      by_cases hc : v r ≤ v s
      · exact ⟨r, by omega, fun u hu => by
          by_cases e : u = s
          · subst e; exact hc
          · exact hm u (by omega)⟩
      · exact ⟨s, by omega, fun u hu => by
          by_cases e : u = s
          · subst e; exact Nat.le_refl _
          · have := hm u (by omega); omega⟩
/-- It may begin with any of its nodes. -/
theorem gain_turn {s r : Nat} {v : Nat → Nat} (h : Gain f n v s) (hr : r < s) : Gain f n (fun u => v ((r + u) % s)) s := by
  obtain ⟨h1, h2, h3, h4⟩ := h
  refine ⟨h1, ?_, fun u _ => h3 _ (by have := Nat.mod_lt (r + u) (show s > 0 by omega); omega), ?_⟩
  · show v ((r + s) % s) = v ((r + 0) % s)
    rw [Nat.add_mod_right, Nat.add_zero]
  · have e : owk f (fun u => v ((r + u) % s)) s = owk f v s := by
      have e1 : owk f (fun u => v ((r + u) % s)) s = omul (owk f v r) (owk f (fun u => v (r + u)) (s - r)) := by
        have : owk f (fun u => v ((r + u) % s)) ((s - r) + r) = omul (owk f v r) (owk f (fun u => v (r + u)) (s - r)) := by
          rw [owk_add]
          congr 1
          · refine owk_congr fun u hu => ?_
            show v ((r + (s - r + u)) % s) = v u
            rw [show r + (s - r + u) = u + s by omega, Nat.add_mod_right, Nat.mod_eq_of_lt (by omega)]
          · refine owk_congr fun u hu => ?_
            show v ((r + u) % s) = v (r + u)
            by_cases hx : r + u < s
            · rw [Nat.mod_eq_of_lt hx]
            · obtain rfl : u = s - r := by omega
              rw [show r + (s - r) = s by omega, Nat.mod_self, h2]
        rwa [show (s - r) + r = s by omega] at this
      have e2 : owk f v s = omul (owk f (fun u => v (r + u)) (s - r)) (owk f v r) := by
        rw [← owk_add, show r + (s - r) = s by omega]
      rw [e1, e2, omul_comm]
    rw [e]; exact h4
end opt
theorem gain_of {A : Nat → Nat → Int} {n : Nat} (hn : n ≤ 10) (hA : ∀ i j, i < n → j < n → Sm 1000001000000 (A i j)) (h : noPos A n = false) : ∃ v s, Gain (fun i j => o (A i j)) n v s := by
  obtain ⟨i, j, hi, hj, hne⟩ := clo_pos hn hA h
  have e1 := o_cbm hA (n + 1) (by omega) i j hi hj
  have e2 := o_cbm hA n (by omega) i j hi hj
  have hlt : ¬ ole (obm (fun i j => o (A i j)) n (n + 1) i j) (obm (fun i j => o (A i j)) n n i j) := fun hle => by
    have := ole_anti hle (obm_mono (Nat.le_succ n) hi hj)
    rw [← e1, ← e2] at this
    exact hne (o_inj this)
  rcases obm_att (n + 1) i j hi hj with e | ⟨v, s, hs, h0, h1, hv, e⟩
  · rw [e] at hlt; exact absurd (ole_none _) hlt
  · rw [e] at hlt
    have hsn : s = n + 1 := by
      apply Classical.byContradiction
      intro hc
      have := obm_up (f := fun i j => o (A i j)) (n := n) n v s (by omega) hv
      rw [h0, h1] at this
      exact hlt this
    subst hsn
    obtain ⟨a, b, hab, hb, eab⟩ := pigeon n v (fun t ht => hv t (by omega))
    by_cases hin : ole (owk (fun i j => o (A i j)) (fun u => v (a + u)) (b - a)) (some 0)
    · obtain ⟨v', q1, q2, q3, q4⟩ := skip (fun i j => o (A i j)) v (n + 1) a b hab (by omega) eab hv hin
      have := obm_up (f := fun i j => o (A i j)) (n := n) n v' (n + 1 - (b - a)) (by omega) q3
      rw [q1, q2, h0, h1] at this
      exact absurd (ole_trans q4 this) hlt
    · refine ⟨fun u => v (a + u), b - a, by omega, ?_, fun u hu => hv _ (by omega), hin⟩
      show v (a + (b - a)) = v (a + 0)
      rw [show a + (b - a) = b by omega]; exact eab.symm

/-- A cycle that begins with its least node is found. -/
theorem dfs_finds {A : Nat → Nat → Int} {n : Nat} {ov : Int} (v : Nat → Nat) (s : Nat) (hv : ∀ u, u < s → v u < n) (hmin : ∀ u, 0 < u → u < s → v 0 < v u) (hdis : ∀ a b, a < b → b < s → v a ≠ v b)
    (harc : ∀ u, u + 1 < s → A (v (u + 1)) (v u) ≠ -1000000000000000) (hw : ∀ k, k < s → wkc A v k ≠ -1000000000000000) (hcl : A (v 0) (v (s - 1)) ≠ -1000000000000000) (hpos : ov < wkc A v (s - 1) + A (v 0) (v (s - 1))) :
    ∀ d k f, k + d + 1 = s → d + 1 ≤ f → (grow A n ov f ((List.range (k + 1)).map fun u => ((v u : Nat) : Int)) (wkc A v k)).length ≠ 0 := by
  intro d
  induction d with
  | zero =>
    intro k f hk hf
    obtain ⟨f, rfl⟩ : ∃ m, f = m + 1 := ⟨f - 1, by omega⟩
    have hvx : vx ((List.range (k + 1)).map fun u => ((v u : Nat) : Int)) 0 = v 0 := by unfold vx; simp
    have hla : lastV ((List.range (k + 1)).map fun u => ((v u : Nat) : Int)) = v k := by unfold lastV vx; simp
    have hks : s - 1 = k := by omega
    rw [hks] at hcl hpos
    have hc : clB A ov ((List.range (k + 1)).map fun u => ((v u : Nat) : Int)) (wkc A v k) = true := by
      unfold clB
      rw [hvx, hla]
      simp [hcl, hpos]
    rw [grow_yes hc]
    simp
  | succ d ih =>
    intro k f hk hf
    obtain ⟨f, rfl⟩ : ∃ m, f = m + 1 := ⟨f - 1, by omega⟩
    have hvx : vx ((List.range (k + 1)).map fun u => ((v u : Nat) : Int)) 0 = v 0 := by unfold vx; simp
    have hla : lastV ((List.range (k + 1)).map fun u => ((v u : Nat) : Int)) = v k := by unfold lastV vx; simp
    by_cases hc : clB A ov ((List.range (k + 1)).map fun u => ((v u : Nat) : Int)) (wkc A v k) = true
    · rw [grow_yes hc]; simp
    · rw [grow_no (by simpa using hc), hvx]
      have hlt := hmin (k + 1) (by omega) (by omega)
      have hvn := hv (k + 1) (by omega)
      refine pick_some (v := v (k + 1)) _ _ (by omega) (by omega) ?_
      have hhas : hasB ((List.range (k + 1)).map fun u => ((v u : Nat) : Int)) ((v (k + 1) : Nat) : Int) = false := by
        cases e : hasB ((List.range (k + 1)).map fun u => ((v u : Nat) : Int)) ((v (k + 1) : Nat) : Int) with
        | false => rfl
        | true =>
          rw [hasB_iff, List.mem_map] at e
          obtain ⟨u, hu, he⟩ := e
          have := hdis u (k + 1) (List.mem_range.1 hu) (by omega)
          omega
      have ha := harc k (by omega)
      rw [step_go (by rw [hla]; exact ha) hhas, hla]
      have := ih (k + 1) f (by omega) (by omega)
      have e1 : (List.range (k + 1 + 1)).map (fun u => ((v u : Nat) : Int)) = (List.range (k + 1)).map (fun u => ((v u : Nat) : Int)) ++ [((v (k + 1) : Nat) : Int)] := by
        rw [List.range_succ, List.map_append, List.map_singleton]
      have e2 : wkc A v (k + 1) = wkc A v k + A (v (k + 1)) (v k) := times_fin (hw k (by omega)) ha
      rw [e1, e2] at this
      exact this
/-- A gain, a cycle. -/
theorem over_some {A : Nat → Nat → Int} {n : Nat} (hn : n ≤ 10) (hA : ∀ i j, i < n → j < n → Sm 1000001000000 (A i j)) (h : noPos A n = false) : (overL A n 0).length ≠ 0 := by
  obtain ⟨v0, s0, g0⟩ := gain_of hn hA h
  obtain ⟨s, v1, g1, hl⟩ := gain_least g0
  obtain ⟨r, hr, hm⟩ := least_at v1 s g1.1
  have g2 := gain_turn g1 hr
  obtain ⟨v, hvd⟩ : ∃ v : Nat → Nat, v = fun u => v1 ((r + u) % s) := ⟨_, rfl⟩
  rw [← hvd] at g2
  have hs1 := g1.1
  have hdis : ∀ a b, a < b → b < s → v a ≠ v b := fun a b hab hb => gain_simple g2 hl hab hb
  have hmin : ∀ u, 0 < u → u < s → v 0 < v u := fun u hu hus => by
    have h1 := hdis 0 u hu hus
    have h2 : v 0 ≤ v u := by
      rw [hvd]
      show v1 ((r + 0) % s) ≤ v1 ((r + u) % s)
      rw [Nat.add_zero, Nat.mod_eq_of_lt hr]
      exact hm _ (Nat.mod_lt _ (by omega))
    omega
  obtain ⟨-, hcl0, hv, hgain⟩ := g2
  have hsn : s ≤ n := by
    apply Classical.byContradiction
    intro hc
    obtain ⟨a, b, hab, hb, e⟩ := pigeon n v (fun t ht => hv t (by omega))
    exact hdis a b hab (by omega) e
  have hsm : ∀ u, u < s → Sm 1000001000000 (A (v (u + 1)) (v u)) := fun u hu => hA _ _ (hv _ (by omega)) (hv _ (by omega))
  have ho : ∀ k, k ≤ s → o (wkc A v k) = owk (fun i j => o (A i j)) v k := fun k hk => o_wkc (by omega) (fun u hu => hsm u (by omega))
  have hfin : wkc A v s ≠ -1000000000000000 := fun e => hgain (by rw [← ho s (Nat.le_refl _), e, o_bot]; exact ole_none _)
  have hw : ∀ k, k ≤ s → wkc A v k ≠ -1000000000000000 := fun k hk e => hfin (wkc_bot e hk)
  have harc : ∀ u, u < s → A (v (u + 1)) (v u) ≠ -1000000000000000 := fun u hu e => hw (u + 1) (by omega) (by
    show times _ (A (v (u + 1)) (v u)) = _
    unfold times; rw [if_pos (.inr e)])
  obtain ⟨m, rfl⟩ : ∃ m, s = m + 1 := ⟨s - 1, by omega⟩
  have e1 : wkc A v (m + 1) = wkc A v m + A (v 0) (v m) := by
    rw [← hcl0]
    exact times_fin (hw m (by omega)) (harc m (by omega))
  have hpos : 0 < wkc A v m + A (v 0) (v m) := by
    rw [← ho (m + 1) (Nat.le_refl _), o_fin hfin, e1] at hgain
    have : ¬ (wkc A v m + A (v 0) (v m) ≤ 0) := hgain
    omega
  have hc0 : A (v 0) (v m) ≠ -1000000000000000 := by rw [← hcl0]; exact harc m (by omega)
  have := dfs_finds (A := A) (n := n) v (m + 1) (fun u hu => hv u (by omega)) hmin hdis (fun u hu => harc u (by omega)) (fun k hk => hw k (by omega)) (by rw [Nat.add_sub_cancel]; exact hc0) (by rw [Nat.add_sub_cancel]; exact hpos) m 0 n (by omega) (by omega)
  refine pick_some (v := v 0) _ _ (Nat.zero_le _) (by have := hv 0 (by omega); omega) ?_
  exact this
end M
end Go.Proofs.Ytfdckijililomaa
