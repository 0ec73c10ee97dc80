/- Texts laid together: Pca. -/
import Derived.Test.YtlljnfljcdljaabGreatQz18
import Derived.Test.YtlljnfljcdljaabGreatQz30
import Derived.Test.YtlljnfljcdljaabGreatQz20
set_option linter.unusedSimpArgs false
set_option linter.unusedVariables false
set_option linter.unusedSectionVars false
namespace Go.Proofs.YtlljnfljcdljaabGreat
namespace M
theorem mem_arcs {R : List (List Int)} {x : List Int} : x ∈ arcsL R ↔ ∃ j i : Nat, j < R.length ∧ i < R.length ∧ crB R j i = true ∧ x = [(j : Int), (i : Int)] := by
  unfold arcsL arcsP arcRow
  constructor
  · intro h
    obtain ⟨j, hj, h⟩ := List.mem_flatMap.1 h
    obtain ⟨i, hi, h⟩ := List.mem_flatMap.1 h
    by_cases e : crB R j i = true
    · rw [if_pos e] at h
      exact ⟨j, i, List.mem_range.1 hj, List.mem_range.1 hi, e, by simpa using h⟩
    · rw [if_neg e] at h; cases h
  · rintro ⟨j, i, hj, hi, e, rfl⟩
    refine List.mem_flatMap.2 ⟨j, List.mem_range.2 hj, List.mem_flatMap.2 ⟨i, List.mem_range.2 hi, ?_⟩⟩
    rw [if_pos e]; simp
theorem arc_tail {R : List (List Int)} {j i : Nat} (hi : i < R.length) (h : crB R j i = true) : crN R j = true := by
  unfold crN
  rw [List.any_eq_true]
  exact ⟨i, List.mem_range.2 hi, h⟩
theorem arc_ok {R : List (List Int)} (h : crCode R = 0) {k : Nat} (hk : k < (arcsL R).length) : ∃ j i : Nat, j < R.length ∧ i < R.length ∧ (arcsL R).getD k [] = [(j : Int), (i : Int)] ∧ (j : Int) ∈ nodesL R ∧ (i : Int) ∈ nodesL R ∧ crF R i j = ent R i j := by
  obtain ⟨h1, h2⟩ := cr_code h
  have hm : (arcsL R).getD k [] ∈ arcsL R := by
    rw [List.getD_eq_getElem?_getD, List.getElem?_eq_getElem hk, Option.getD_some]
    exact List.getElem_mem hk
  obtain ⟨j, i, hj, hi, e, he⟩ := mem_arcs.1 hm
  have nj := arc_tail hi e
  have ni := crN_rch rfl (crit_back h1 h2 hi hj e) nj
  refine ⟨j, i, hj, hi, he, mem_nodesL.2 ⟨j, hj, nj, rfl⟩, mem_nodesL.2 ⟨i, hi, ni, rfl⟩, ?_⟩
  unfold crF
  rw [if_pos e]
theorem nodes_in {n : Nat} {l : List Int} (h : nodesB n l = true) {k : Nat} (hk : k < l.length) : ∃ v : Nat, v < n ∧ l.getD k 0 = (v : Int) ∧ vx l k = v := ⟨vx l k, vx_lt h hk, (vx_cast h hk).symm, rfl⟩
/-- Is the arc behind place k of a cycle among the arcs? -/
theorem all_in {R : List (List Int)} {l : List Int} (hn : nodesB R.length l = true) : crAll R l = true ↔ ∀ k, k < l.length → [l.getD k 0, l.getD ((k + 1) % l.length) 0] ∈ arcsL R := by
  unfold crAll
  rw [List.all_eq_true]
  constructor
  · intro h k hk
    have h0 := h k (List.mem_range.2 hk)
    obtain ⟨v, hv, e1, e2⟩ := nodes_in hn hk
    obtain ⟨u, hu, e3, e4⟩ := nodes_in hn (Nat.mod_lt (k + 1) (show 0 < l.length by omega))
    rw [e2, e4] at h0
    rw [e1, e3]
    exact mem_arcs.2 ⟨v, u, hv, hu, h0, rfl⟩
  · intro h k hk
    have hk := List.mem_range.1 hk
    obtain ⟨v, hv, e1, e2⟩ := nodes_in hn hk
    obtain ⟨u, hu, e3, e4⟩ := nodes_in hn (Nat.mod_lt (k + 1) (show 0 < l.length by omega))
    have h0 := h k hk
    rw [e1, e3] at h0
    obtain ⟨j, i, hj, hi, e, he⟩ := mem_arcs.1 h0
    injection he with he1 he2
    injection he2 with he2 _
    rw [e2, e4, show v = j by omega, show u = i by omega]
    exact e
end M
end Go.Proofs.YtlljnfljcdljaabGreat
