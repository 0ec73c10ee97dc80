/- Texts laid together: Gpl. -/
import Derived.Test.YtjljplolonpldaaQa14
set_option linter.unusedSimpArgs false
set_option linter.unusedVariables false
set_option linter.unusedSectionVars false
namespace Go.Proofs.Ytjljplolonpldaa
namespace M
theorem gp_law {R : List (List Int)} {n i j : Int} (h : (peRes R n i j).2 = 0) (hn : n ≤ 100) :
    ∃ ni jn : Nat, i = ni ∧ j = jn ∧ ni < R.length ∧ jn < R.length ∧ ((powRes R n).2 = 3 ∨ ((powRes R n).2 = 0 ∧ (powRes R n).1.length = R.length ∧ ((powRes R n).1.getD ni []).length = R.length ∧ ent (powRes R n).1 ni jn = (peRes R n i j).1)) := by
  unfold peRes at h ⊢
  by_cases hs : sqB R = true
  · rw [if_pos hs] at h ⊢
    by_cases hc : 0 ≤ n ∧ n ≤ 100000 ∧ nodesB R.length [i, j] = true
    · rw [if_pos hc] at h ⊢
      obtain ⟨n0, -, hno⟩ := hc
      simp only [nodesB, inN, List.all_cons, List.all_nil, Bool.and_true, Bool.and_eq_true, decide_eq_true_eq] at hno
      obtain ⟨⟨i1, i2⟩, j1, j2⟩ := hno
      obtain ⟨ni, rfl⟩ := Int.eq_ofNat_of_zero_le i1
      obtain ⟨jn, rfl⟩ := Int.eq_ofNat_of_zero_le j1
      obtain ⟨nn, rfl⟩ := Int.eq_ofNat_of_zero_le n0
      refine ⟨ni, jn, rfl, rfl, by omega, by omega, ?_⟩
      by_cases hd : (fnd R (unitM R.length)).2.2.2 = 0
      · rw [if_pos hd] at h ⊢
        obtain ⟨hm, hw⟩ := sqB_t hs
        obtain ⟨a1, a2, -⟩ := isMat_t hm
        have hf : ∃ s c g, fnd R (unitM R.length) = (s, c, g, 0) := ⟨_, _, _, Prod.ext rfl (Prod.ext rfl (Prod.ext rfl hd))⟩
        obtain ⟨s, c, g, hf⟩ := hf
        rw [hf] at h ⊢
        obtain ⟨k, e, rfl, rfl, q1, q2, q3, q4, q5, q6⟩ := out_spec 100 0 rfl (show okQ R (unitM R.length) 0 = true from unitM_ok a1 a2) hf
        have hchk : chk (peVal R nn ni jn k ((e : Int) - k) g) = (peVal R nn ni jn k ((e : Int) - k) g, 0) := by
          unfold chk at h ⊢
          split
          · rfl
          · rename_i hv; rw [if_neg hv] at h; simp at h
        show (powRes R nn).2 = 3 ∨ _
        by_cases hp : (powN R nn).2 = true
        · right
          rw [powRes_y hm (by omega) hw hp]
          have hl := powN_len hp
          have hwd := powN_wid a1 hw hp
          have hok := powN_ok a1 a2 nn hp
          refine ⟨rfl, hl, ?_, ?_⟩
          · show ((powN R nn).1.getD ni []).length = _
            rw [isMat_len hok (by omega), hwd]
          · show ent (powN R nn).1 ni jn = (chk (peVal R nn ni jn k ((e : Int) - k) g)).1
            rw [hchk]
            exact gp_entry hs (by omega) hp q1 q4 q3 q5 q6 (by omega) (by omega)
        · left
          unfold powRes
          rw [if_pos hm, if_pos ⟨by omega, by omega⟩, if_pos hw, Int.toNat_natCast, if_neg hp]
      · rw [if_neg hd] at h; exact absurd h hd
    · rw [if_neg hc] at h; simp at h
  · rw [if_neg hs] at h; simp at h
end M
end Go.Proofs.Ytjljplolonpldaa
