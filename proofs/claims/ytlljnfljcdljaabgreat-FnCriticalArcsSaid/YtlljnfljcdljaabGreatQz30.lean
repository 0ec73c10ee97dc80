/- Texts laid together: Col. -/
import Derived.Test.YtlljnfljcdljaabGreatQz15
import Derived.Test.YtlljnfljcdljaabGreatQz28
import Derived.Test.YtlljnfljcdljaabGreatQz29
set_option linter.unusedSimpArgs false
set_option linter.unusedVariables false
set_option linter.unusedSectionVars false
namespace Go.Proofs.YtlljnfljcdljaabGreat
namespace M
/-- From a critical node on, and towards one, all is critical. -/
theorem crN_rch {R : List (List Int)} {n r c : Nat} (hn : R.length = n) (h : Rch (ent (crM R)) n r c) (hc : crN R c = true) : crN R r = true := by
  obtain ⟨s, f, h0, hs, hlt, harc⟩ := h
  cases s with
  | zero => rw [← h0, hs]; exact hc
  | succ s =>
    have h1 := harc 0 (by omega)
    have l0 := hlt 0 (by omega)
    have l1 := hlt 1 (by omega)
    subst hn
    unfold crM at h1
    rw [ent_mk _ _ _ _ _ l1 l0] at h1
    unfold crF at h1
    unfold crN
    rw [← h0]
    refine List.any_eq_true.2 ⟨f 1, List.mem_range.2 l1, ?_⟩
    cases e : crB R (f 0) (f 1) with
    | true => rfl
    | false => rw [e] at h1; exact absurd rfl h1
theorem crComps_pos {R : List (List Int)} (h1 : sqB R = true) (h2 : hasCyc (ent R) R.length = true) : 1 ≤ (crComps R).length := by
  obtain ⟨q1, q2, q3, q4⟩ := best_cyc h1 h2
  have hcr := crit_cyc h1 h2 q1
  rw [decide_eq_true q2] at hcr
  obtain ⟨-, hnod, -, -⟩ := crCycB_t q1
  have hall := List.all_eq_true.1 hcr.symm 0 (List.mem_range.2 (by omega))
  have hc := vx_lt hnod (k := 0) (by omega)
  have ht := vx_lt hnod (k := (0 + 1) % (bestCyc R).length) (Nat.mod_lt _ (by omega))
  have hcn : crN R (vx (bestCyc R) 0) = true := List.any_eq_true.2 ⟨_, List.mem_range.2 ht, hall⟩
  generalize vx (bestCyc R) 0 = c at *
  obtain ⟨r1, r2, r3⟩ := rep_t (A := ent (crM R)) hc
  have hrc := (relB_t.1 r2).2
  have hrn := crN_rch rfl hrc hcn
  have he := compL_eq r2
  have hrr : repN (ent (crM R)) R.length (repN (ent (crM R)) R.length c) = repN (ent (crM R)) R.length c := by
    show ((compL (ent (crM R)) R.length (repN (ent (crM R)) R.length c)).getD 0 0).toNat = _
    rw [← he]; rfl
  have hm : compL (ent (crM R)) R.length (repN (ent (crM R)) R.length c) ∈ crComps R := by
    refine List.mem_filter.2 ⟨mem_compsP.2 ⟨_, r1, hrr, rfl⟩, ?_⟩
    have : vx (compL (ent (crM R)) R.length (repN (ent (crM R)) R.length c)) 0 = repN (ent (crM R)) R.length c := hrr
    rw [this]
    exact hrn
  exact List.length_pos_of_mem hm
theorem comps_up (A : Nat → Nat → Int) (n m : Nat) : (compsP A n m).Pairwise (fun x y => vx x 0 < vx y 0) ∧ ∀ l, l ∈ compsP A n m → vx l 0 < m := by
  refine ⟨?_, fun l hl => ?_⟩
  · induction m with
    | zero => exact List.Pairwise.nil
    | succ m ih =>
      rw [compsP_next]
      refine List.pairwise_append.2 ⟨ih, ?_, fun x hx y hy => ?_⟩
      · split
        · exact List.pairwise_singleton ..
        · exact List.Pairwise.nil
      · obtain ⟨v, hv, hr, rfl⟩ := mem_compsP.1 hx
        split at hy
        · next h =>
          rw [List.mem_singleton.1 hy]
          have e1 : vx (compL A n v) 0 = v := hr
          have e2 : vx (compL A n m) 0 = m := h
          omega
        · exact absurd hy List.not_mem_nil
  · obtain ⟨v, hv, hr, rfl⟩ := mem_compsP.1 hl
    have e1 : vx (compL A n v) 0 = v := hr
    omega
theorem rect_stc (S : Nat → Nat → Int) (n : Nat) : (stcM S n).length = n ∧ ∀ c, c < n → ((stcM S n).getD c []).length = n := ⟨by unfold stcM; simp, fun c hc => by unfold stcM; exact mk_rowlen _ _ _ _ hc⟩
def colIds (R : List (List Int)) : List Nat := (crComps R).map fun l => vx l 0
theorem colIds_up (R : List (List Int)) : (colIds R).Pairwise (fun x y => x < y) := by
  unfold colIds
  rw [List.pairwise_map]
  exact List.Pairwise.filter _ (comps_up _ _ _).1
theorem colIds_lt {R : List (List Int)} {i : Nat} (h : i ∈ colIds R) : i < R.length := by
  obtain ⟨l, hl, rfl⟩ := List.mem_map.1 h
  exact (comps_up _ _ _).2 l (List.mem_filter.1 hl).1
/-- The columns. -/
def colsL (R : List (List Int)) : List (List Int) := (colIds R).map fun i => (stcM (crS R) R.length).getD i []
def colsRes (R : List (List Int)) : List (List Int) × Int := if crCode R = 0 then (if (colsL R).all isVec then (colsL R, 0) else ([], 3)) else ([], crCode R)
theorem cols_row {R : List (List Int)} {i : Nat} (h : i < R.length) : ((stcM (crS R) R.length).getD i []).length = R.length := by
  unfold stcM
  exact mk_rowlen _ _ _ _ h
theorem colsL_len (R : List (List Int)) : (colsL R).length = (crComps R).length := by unfold colsL colIds; simp
theorem crComps_len (R : List (List Int)) : (crComps R).length ≤ R.length := by
  unfold crComps
  have h1 := List.length_filter_le (fun l => crN R (vx l 0)) (compsL (ent (crM R)) R.length)
  have h2 := compsP_len (ent (crM R)) R.length R.length
  unfold compsL at h1 ⊢
  omega
theorem cols_at {R : List (List Int)} {k : Nat} (h : k < (colsL R).length) : ((colsL R).getD k []).length = R.length := by
  unfold colsL at h ⊢
  rw [List.getD_eq_getElem?_getD, List.getElem?_eq_getElem h, Option.getD_some, List.getElem_map]
  exact cols_row (colIds_lt (List.getElem_mem _))
theorem cols_mat {R : List (List Int)} (h1 : sqB R = true) (h2 : hasCyc (ent R) R.length = true) : isMat (colsL R) = (colsL R).all isVec := by
  obtain ⟨n1, n2, -⟩ := sq_sm h1
  have hp := crComps_pos h1 h2
  have hl := colsL_len R
  have hm := crComps_len R
  unfold isMat
  rw [decide_eq_true (show 1 ≤ (colsL R).length by omega), decide_eq_true (show (colsL R).length ≤ 10 by omega), Bool.true_and, Bool.true_and]
  have hw : wid (colsL R) = R.length := cols_at (k := 0) (by omega)
  rw [hw]
  apply Bool.eq_iff_iff.2
  rw [List.all_eq_true, List.all_eq_true]
  refine ⟨fun h x hx => ?_, fun h x hx => ?_⟩
  · have := h x hx; rw [Bool.and_eq_true] at this; exact this.1
  · rw [Bool.and_eq_true]
    refine ⟨h x hx, ?_⟩
    obtain ⟨k, hk, e⟩ := List.mem_iff_getElem.1 hx
    have := cols_at hk
    rw [List.getD_eq_getElem?_getD, List.getElem?_eq_getElem hk, Option.getD_some, e] at this
    exact decide_eq_true this
theorem col_at {R : List (List Int)} {n k : Nat} (hn : R.length = n) (hk : k < (crComps R).length) : ∃ c : Nat, c < n ∧ 1 ≤ ((crComps R).getD k []).length ∧ ((crComps R).getD k []).getD 0 0 = (c : Int) ∧ (colsL R).getD k [] = (stcM (crS R) n).getD c [] ∧ (colIds R).take (k + 1) = (colIds R).take k ++ [c] := by
  subst hn
  have hm : (crComps R).getD k [] ∈ crComps R := by rw [List.getD_eq_getElem?_getD, List.getElem?_eq_getElem hk]; exact List.getElem_mem hk
  have hg : (crComps R).getD k [] = (crComps R)[k] := by rw [List.getD_eq_getElem?_getD, List.getElem?_eq_getElem hk]; rfl
  have hi : k < (colIds R).length := by unfold colIds; simpa using hk
  have hc : (colIds R)[k] = vx ((crComps R).getD k []) 0 := by rw [hg]; exact List.getElem_map _
  refine ⟨vx ((crComps R).getD k []) 0, (comps_up _ _ _).2 _ (List.mem_filter.1 hm).1, ?_, ?_, ?_, ?_⟩
  · obtain ⟨v, hv, -, e⟩ := mem_compsP.1 (List.mem_filter.1 hm).1
    rw [e]; exact compL_pos hv
  · obtain ⟨v, hv, -, e⟩ := mem_compsP.1 (List.mem_filter.1 hm).1
    rw [e]
    have := (rep_t (A := ent (crM R)) hv).2.2
    exact this
  · rw [← hc]
    unfold colsL
    rw [List.getD_eq_getElem?_getD, List.getElem?_map, List.getElem?_eq_getElem hi]
    rfl
  · rw [← hc, List.take_add_one, List.getElem?_eq_getElem hi]
    rfl
theorem takeL_next {L : List (List Int)} {k : Nat} (h : k < L.length) : L.take (k + 1) = L.take k ++ [L.getD k []] := by
  rw [List.take_add_one, List.getElem?_eq_getElem h, List.getD_eq_getElem?_getD, List.getElem?_eq_getElem h]
  rfl
theorem all_take {L : List (List Int)} {k : Nat} (h : k < L.length) (hv : isVec (L.getD k []) = false) : L.all isVec = false := by
  apply Bool.eq_false_iff.2
  intro e
  have := List.all_eq_true.1 e (L.getD k []) (by rw [List.getD_eq_getElem?_getD, List.getElem?_eq_getElem h]; exact List.getElem_mem h)
  rw [hv] at this
  exact Bool.false_ne_true this
theorem all_take_next {L : List (List Int)} {k : Nat} (h : k < L.length) (hv : isVec (L.getD k []) = true) (ha : (L.take k).all isVec = true) : (L.take (k + 1)).all isVec = true := by
  rw [takeL_next h, List.all_append, ha, List.all_cons, hv]
  rfl
theorem colsRes_ok (R : List (List Int)) : okM (colsRes R).1 := by
  unfold colsRes
  by_cases h : crCode R = 0
  · rw [if_pos h]
    obtain ⟨h1, h2⟩ := cr_code h
    by_cases hv : (colsL R).all isVec = true
    · rw [if_pos hv]; right; rw [cols_mat h1 h2]; exact hv
    · rw [if_neg hv]; exact .inl rfl
  · rw [if_neg h]; exact .inl rfl
end M
end Go.Proofs.YtlljnfljcdljaabGreat
