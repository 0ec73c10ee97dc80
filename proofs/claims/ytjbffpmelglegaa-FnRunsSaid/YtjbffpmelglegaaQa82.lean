/- Texts laid together: Fld. -/
import Derived.Test.YtjbffpmelglegaaQa79
set_option linter.unusedSimpArgs false
set_option linter.unusedVariables false
set_option linter.unusedSectionVars false
namespace Go.Proofs.Ytjbffpmelglegaa
namespace V
set_option maxRecDepth 100000
open Go.RowKit
/-- One more entry behind a row that lies in its own block, or in a new one. -/
theorem OwnV.appRowV {w w1 : World} {B g n cap q m c : Nat} {R : List (List Int)} {V : List Value} {l : List Int} (h : OwnV w B (.slice (some ⟨g, 0, none⟩) n cap) R V) (i : Nat) (hi : i < n) (ho : Own w1 B (.slice (some ⟨q, 0, none⟩) m c) l)
    (hk : ∀ k, k < w.heap.size → (V.getD i (.slice none 0 0)).ownBlock ≠ some k → w1.heap[k]? = w.heap[k]?) (hat : (V.getD i (.slice none 0 0)).ownBlock = some q ∨ w.heap.size ≤ q) :
    OwnV (w1.setCell ⟨g, i, none⟩ (.slice (some ⟨q, 0, none⟩) m c)) B (.slice (some ⟨g, 0, none⟩) n cap) (R.set i l) (V.set i (.slice (some ⟨q, 0, none⟩) m c)) := by
  obtain ⟨h1, h2, h3, h4, h5⟩ := h
  obtain ⟨a', c', hv, hc, hm, hg⟩ := own_form h2
  injection hv with e1 e2 e3
  subst e2 e3
  have hgl := own_lt h2 (k := g) rfl
  have hqg : q ≠ g := by
    rcases hat with e | e
    · intro e2; subst e2; exact h4 i hi q e rfl
    · omega
  have hw1 : w1.ownsRow B 24 1 (.slice (some ⟨g, 0, none⟩) R.length cap) R.length V := ownsRow_keep h2 (fun k hv => hk k (own_lt h2 hv).2 (fun e => h4 i hi k e hv))
  refine ⟨by simpa using h1, ?_, ?_, ?_, ?_⟩
  · have := (World.ownsRow.stored hw1 i (.slice (some ⟨q, 0, none⟩) m c)).1
    simpa using this
  · intro j hj
    simp only [List.length_set] at hj
    rw [getD_set _ _ _ _ _ (by omega), getD_set _ _ _ _ _ (by omega)]
    by_cases e : j = i
    · rw [if_pos e, if_pos e]
      exact ownsRow_keep ho (fun k hv => Below.heap_setCell _ _ _ _ (by
        simp only [Value.ownBlock, Option.some.injEq] at hv
        show k ≠ g
        omega))
    · rw [if_neg e, if_neg e]
      refine ownsRow_keep (h3 j hj) (fun k hv => ?_)
      have hkg : k ≠ g := fun e => h4 j hj k hv (by rw [e]; rfl)
      rw [Below.heap_setCell _ _ _ _ hkg]
      exact hk k (own_lt (h3 j hj) hv).2 (h5 j i hj hi e k hv)
  · intro j hj k hk'
    simp only [List.length_set] at hj
    rw [getD_set _ _ _ _ _ (by omega)] at hk'
    by_cases e : j = i
    · rw [if_pos e] at hk'
      intro e2
      simp only [Value.ownBlock, Option.some.injEq] at e2 hk'
      omega
    · rw [if_neg e] at hk'
      exact h4 j hj k hk'
  · intro j t hj ht hne k hk'
    simp only [List.length_set] at hj ht
    rw [getD_set _ _ _ _ _ (by omega)] at hk'
    rw [getD_set _ _ _ _ _ (by omega)]
    by_cases e : j = i
    · rw [if_pos e] at hk'
      have e' : ¬ t = i := by omega
      rw [if_neg e']
      intro e2
      simp only [Value.ownBlock, Option.some.injEq] at hk'
      subst hk'
      rcases hat with e3 | e3
      · exact h5 i t hi ht (fun x => e' x.symm) q e3 e2
      · have := (own_lt (h3 t ht) e2).2
        omega
    · rw [if_neg e] at hk'
      by_cases e' : t = i
      · rw [if_pos e']
        intro e2
        simp only [Value.ownBlock, Option.some.injEq] at e2
        subst e2
        rcases hat with e3 | e3
        · exact h5 i j hi hj (fun x => e x.symm) q e3 hk'
        · have := (own_lt (h3 j hj) hk').2
          omega
      · rw [if_neg e']
        exact h5 j t hj ht hne k hk'
set_option maxRecDepth 100000 in
set_option maxHeartbeats 2000000 in
theorem histAddV (N g tc B : Nat) (pre : List M.Fr) (e : Nat) (num t : Int) (V : List Value) (w : World) (hV : OwnV w B (.slice (some ⟨g, 0, none⟩) N tc) (M.hisM N pre) V) (hB : B ≤ w.heap.size) (he : e < N) (hN : N ≤ 10) (hlen : pre.length ≤ 500) :
    Calls Try.prog 80 #[.slice (some ⟨g, 0, none⟩) N tc, .int .i64 e, .int .i64 t] w fun z w' => z = .returned (.tuple #[]) ∧ ∃ V', OwnV w' B (.slice (some ⟨g, 0, none⟩) N tc) (M.hisM N (pre ++ [((e : Int), num, t)])) V' ∧ Below B w w' ∧ (∀ k, k < w.heap.size → k ≠ g → (V.getD e (.slice none 0 0)).ownBlock ≠ some k → w'.heap[k]? = w.heap[k]?) ∧ ∀ i k, (V'.getD i (.slice none 0 0)).ownBlock = some k → (V.getD i (.slice none 0 0)).ownBlock = some k ∨ w.heap.size ≤ k := by
  obtain ⟨g', hg', hBg, hgl, hcl, hfz, -, hro, hne⟩ := hV.cellH e he
  injection hg' with hg'
  injection hg' with e1 _
  subst e1
  rw [M.hisM_get pre he] at hro
  obtain ⟨ra, rc, hrv, -, -, -⟩ := own_form hro
  obtain ⟨rv, hrvv⟩ : ∃ v, v = V.getD e (.slice none 0 0) := ⟨_, rfl⟩
  rw [← hrvv] at hcl hro hrv hne
  have hadd := M.hisM_add (N := N) pre (f := ((e : Int), num, t)) rfl he
  obtain ⟨l, hl⟩ : ∃ l, l = M.hsF pre (e : Int) := ⟨_, rfl⟩
  rw [← hl] at hro hrv hadd
  have hlb : l.length ≤ 500 := by rw [hl, M.hsF_len]; exact Nat.le_trans (M.cntF_le _ _) hlen
  obtain ⟨L, hL⟩ : ∃ L, L = l.length := ⟨_, rfl⟩
  rw [← hL] at hrv hlb
  have HL := Lib.hid hL.symm
  have HV := Lib.hid hV
  have HA := Lib.hid hadd
  have HRv := Lib.hid hrvv
  have HO := Lib.hid hro
  have HNe := Lib.hid hne
  subst hrv
  have hei : (e : Int) < (N : Int) := by omega
  clear hV hadd hrvv hro hne hL hl
  go_enter Try.func80, Try.ntmps80
  go_wp2_with (at_builtin; refine append1L _ rfl (.tmp 11) (.tmp 13) rfl B _ _ _ L HL.out rfl HO.out rfl (by omega) hB ?_)
  intro q c' w2 ho2 hb2 hk2 hat
  have e2 := hk2 g hgl HNe.out
  have c2 : w2.cell? ⟨g, e, none⟩ = some (.slice ra L rc) := (World.cell?_of_block (a := ⟨g, e, none⟩) e2).trans hcl
  have f2 : w2.frozen? ⟨g, e, none⟩ = false := (World.frozen?_of_block (a := ⟨g, e, none⟩) e2).trans hfz
  have HM : Hid (OwnV (w2.setCell ⟨g, e, none⟩ (.slice (some ⟨q, 0, none⟩) (L + 1) c')) B (.slice (some ⟨g, 0, none⟩) N tc) (M.hisM N (pre ++ [((e : Int), num, t)])) (V.set e (.slice (some ⟨q, 0, none⟩) (L + 1) c'))) := by
    show OwnV _ _ _ _ _
    rw [← HA.out]
    exact OwnV.appRowV HV.out e he ho2 (fun k hk hn => hk2 k hk (by rw [HRv.out]; exact hn)) (by rw [← HRv.out]; exact hat)
  have HBw : Hid (Below B w (w2.setCell ⟨g, e, none⟩ (.slice (some ⟨q, 0, none⟩) (L + 1) c'))) := hb2.setCell (by exact hBg) _
  have HOt : Hid (∀ k, k < w.heap.size → k ≠ g → (V.getD e (.slice none 0 0)).ownBlock ≠ some k → (w2.setCell ⟨g, e, none⟩ (.slice (some ⟨q, 0, none⟩) (L + 1) c')).heap[k]? = w.heap[k]?) := fun k q1 q2 q3 => by
    rw [Below.heap_setCell _ _ _ _ (by show k ≠ g; exact q2)]
    exact hk2 k q1 (by rw [HRv.out]; exact q3)
  have HNw : Hid (∀ i k, ((V.set e (.slice (some ⟨q, 0, none⟩) (L + 1) c')).getD i (.slice none 0 0)).ownBlock = some k → (V.getD i (.slice none 0 0)).ownBlock = some k ∨ w.heap.size ≤ k) := fun i k hk => by
    by_cases ei : i = e
    · subst ei
      by_cases hl : i < V.length
      · rw [getD_set _ _ _ _ _ hl, if_pos rfl] at hk
        simp only [Value.ownBlock, Option.some.injEq] at hk
        subst hk
        rcases hat with e1 | e1
        · left; rw [← HRv.out]; exact e1
        · exact .inr e1
      · rw [List.set_eq_of_length_le (by omega)] at hk
        exact .inl hk
    · left
      rw [List.getD_eq_getElem?_getD, List.getElem?_set_ne (fun x => ei x.symm), ← List.getD_eq_getElem?_getD] at hk
      exact hk
  clear ho2 hb2 hk2 hat e2
  go_wp2
  go_end0
  exact ⟨rfl, _, HM.out, HBw.out, HOt.out, HNw.out⟩
end V
end Go.Proofs.Ytjbffpmelglegaa
