/- Texts laid together: Fdu. -/
import Derived.Test.YtjbffpmelglegaaQa57
import Derived.Test.YtjbffpmelglegaaQa59
import Derived.Test.YtjbffpmelglegaaQa60
import Derived.Test.YtjbffpmelglegaaQa95
set_option linter.unusedSimpArgs false
set_option linter.unusedVariables false
set_option linter.unusedSectionVars false
namespace Go.Proofs.Ytjbffpmelglegaa
namespace M
def mxK (S : List Int) : Nat → Int
  | 0 => 0
  | k + 1 => max (mxK S k) (S.getD k 0)
theorem mxK_ge (S : List Int) {k i : Nat} (hi : i < k) : S.getD i 0 ≤ mxK S k := by
  induction k with
  | zero => omega
  | succ k ih =>
    unfold mxK
    by_cases e : i = k
    · rw [e]; omega
    · have := ih (by omega); omega
theorem mxK_nn (S : List Int) (k : Nat) : 0 ≤ mxK S k := by
  induction k with
  | zero => exact Int.le_refl _
  | succ k ih => unfold mxK; omega
theorem mxK_le (S : List Int) {B : Int} (hB : 0 ≤ B) (h : ∀ e, S.getD e 0 ≤ B) (k : Nat) : mxK S k ≤ B := by
  induction k with
  | zero => exact hB
  | succ k ih => unfold mxK; have := h k; omega
theorem started_facts {x : Int} {l : List Pc} {y : Int} {S : List Int} {TX : List (List Int)} (h : stRes x l y S = (TX, 0)) : ∃ (N nn : Nat) (TY : List (List Int)), x = (N : Int) ∧ N ≤ 10 ∧ y = (nn : Int) ∧ nn ≤ 50 ∧ S.length = N ∧ (∀ e, 0 ≤ S.getD e 0 ∧ S.getD e 0 ≤ 1000000) ∧ TX.length = nn ∧ TY.length = nn ∧ ftRes x l y = (TY, 0) ∧
    ∀ k e, k < nn → e < N → (TX.getD k []).length = N ∧ (TY.getD k []).length = N ∧ S.getD e 0 ≤ (TX.getD k []).getD e 0 ∧ (TY.getD k []).getD e 0 ≤ (TX.getD k []).getD e 0 ∧ (TX.getD k []).getD e 0 ≤ (TY.getD k []).getD e 0 + mxK S N ∧ -1000000 ≤ (TY.getD k []).getD e 0 ∧ (TY.getD k []).getD e 0 ≤ 1000000 := by
  unfold stRes at h
  by_cases h0 : inCode (lvCode x l) (inB y 0 50 && tmsB x S) = 0
  · rw [if_pos h0] at h
    obtain ⟨hlv, hb⟩ := inCode_t h0
    rw [Bool.and_eq_true] at hb
    obtain ⟨N, hxN, hgr, -, hnp, n1, n10⟩ := V.lv_live hlv
    subst hxN
    obtain ⟨nn, rfl, hnn⟩ := V.inB_nat (m := 50) hb.1
    have hst : ∀ e, 0 ≤ S.getD e 0 ∧ S.getD e 0 ≤ 1000000 := fun e => tms_at hb.2 e
    have hSl : S.length = N := by
      have q := hb.2
      unfold tmsB at q
      simp only [Bool.and_eq_true, decide_eq_true_eq] at q
      omega
    rw [show ((N : Int)).toNat = N by omega, show ((nn : Int)).toNat = nn by omega] at h
    by_cases ha : (timM l (ordL (wtF fOne l) N N) (fun e => S.getD e 0) N nn).all (tmsB (N : Int)) = true
    · rw [if_pos ha] at h
      injection h with h1 _
      refine ⟨N, nn, timM l (ordL (wtF fOne l) N N) zst N nn, rfl, n10, rfl, hnn, hSl, hst, ?_, ?_, ?_, ?_⟩
      · rw [← h1]; unfold timM; simp
      · unfold timM; simp
      · unfold ftRes
        have : inCode (lvCode (N : Int) l) (inB (nn : Int) 0 50) = 0 := by rw [hb.1, inCode_true]; exact hlv
        rw [if_pos this, show ((N : Int)).toNat = N by omega, show ((nn : Int)).toNat = nn by omega]
      · intro k e hk he
        have hpl := gr_plOk hgr
        have ex : (TX.getD k []).getD e 0 = tabT l (ordL (wtF fOne l) N N) (fun e => S.getD e 0) nn (k + 1) e := by
          rw [← h1]; unfold timM; exact mk_ent _ _ _ _ _ hk he
        have ey : ((timM l (ordL (wtF fOne l) N N) zst N nn).getD k []).getD e 0 = tabT l (ordL (wtF fOne l) N N) zst nn (k + 1) e := by
          unfold timM; exact mk_ent _ _ _ _ _ hk he
        have hs := tab_start n10 hnp hpl (fun e => S.getD e 0) (n := nn) (k := k + 1) (e := e) (by omega) (by omega) he
        have hz := tab_start n10 hnp hpl zst (n := nn) (k := k + 1) (e := e) (by omega) (by omega) he
        have hbt := tab_between n10 hnp hpl zst (fun e => S.getD e 0) (D := mxK S N) (mxK_nn S N) (fun e => by
          have h3 := hst e
          have h4 : S.getD e 0 ≤ mxK S N := by
            by_cases q : e < N
            · exact mxK_ge S q
            · rw [List.getD_eq_getElem?_getD, List.getElem?_eq_none (by omega)]; exact mxK_nn S N
          have h5 : zst e = 0 := rfl
          rw [h5]; omega) (n := nn) (k + 1) e (by omega) he (by omega)
        have hrow : (TX.getD k []) ∈ TX := by
          rw [List.getD_eq_getElem?_getD, List.getElem?_eq_getElem (by rw [← h1]; unfold timM; simpa using hk)]
          exact List.getElem_mem _
        have hx6 : (TX.getD k []).getD e 0 ≤ 1000000 := (tms_at (List.all_eq_true.1 (by rw [← h1]; exact ha) _ hrow) e).2
        rw [ex] at hx6 ⊢
        rw [ey]
        have hz0 : zst e = 0 := rfl
        rw [hz0] at hz
        refine ⟨?_, ?_, hs, hbt.1, hbt.2, by omega, by omega⟩
        · rw [← h1]; unfold timM; exact mk_rowlen _ _ _ _ hk
        · unfold timM; exact mk_rowlen _ _ _ _ hk
    · rw [if_neg ha] at h
      injection h with _ h2
      cases h2
  · rw [if_neg h0] at h
    injection h with _ h2
    exact absurd h2 h0
end M
end Go.Proofs.Ytjbffpmelglegaa
