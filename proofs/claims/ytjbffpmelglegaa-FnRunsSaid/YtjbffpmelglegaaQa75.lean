/- Texts laid together: Fha. -/
import Derived.Test.YtjbffpmelglegaaQa72
import Derived.Test.YtjbffpmelglegaaQa7
set_option linter.unusedSimpArgs false
set_option linter.unusedVariables false
set_option linter.unusedSectionVars false
namespace Go.Proofs.Ytjbffpmelglegaa
namespace M
def hisM (N : Nat) (pre : List Fr) : List (List Int) := (List.range N).map fun x : Nat => hsF pre (x : Int)
theorem hisM_len (N : Nat) (pre : List Fr) : (hisM N pre).length = N := by simp [hisM]
theorem hisM_get {N : Nat} (pre : List Fr) {x : Nat} (h : x < N) : (hisM N pre).getD x [] = hsF pre (x : Int) := by simp [hisM, h]
theorem hisM_nil (N : Nat) : hisM N [] = List.replicate N [] := by
  unfold hisM hsF
  apply List.ext_getElem
  · simp
  · intro i h1 h2; simp
theorem hisM_add {N e : Nat} (pre : List Fr) {f : Fr} (hf : f.1 = (e : Int)) (he : e < N) : (hisM N pre).set e (hsF pre (e : Int) ++ [f.2.2]) = hisM N (pre ++ [f]) := by
  unfold hisM
  apply List.ext_getElem
  · simp
  · intro i h1 h2
    simp only [List.length_set, List.length_map, List.length_range] at h1
    rw [List.getElem_set]
    simp only [List.getElem_map, List.getElem_range]
    rw [hsF_app, hf]
    by_cases q : e = i
    · subst q; rw [if_pos rfl, if_pos rfl]
    · rw [if_neg q, if_neg (by omega)]
def missP (pre : List Fr) (e : Int) (p : Pc) : Bool := decide (p.2.1 = e) && decide (tokF pre p = 0)
theorem enB_all (l : List Pc) (pre : List Fr) (e : Int) : l.all (fun p => !missP pre e p) = enB l pre e := by
  unfold enB
  induction l with
  | nil => rfl
  | cons p l ih =>
    rw [List.all_cons, ih, List.any_cons, Bool.not_or]
    rfl
end M
namespace V
set_option maxRecDepth 100000
open Go.RowKit
set_option maxRecDepth 100000 in
set_option maxHeartbeats 1000000 in
theorem nextNumber (N : Nat) (ta : Option Addr) (tc : Nat) (pre : List M.Fr) (e : Nat) (w : World) (h : Mat w ta N (M.hisM N pre)) (he : e < N) (hN : N ≤ 10) (hc : M.cntF pre e ≤ 1000) :
    Calls Try.prog 123 #[.slice ta N tc, .int .i64 e] w fun z w' => z = .returned (.int .i64 ((M.cntF pre e : Int) + 1)) ∧ w = w' := by
  obtain ⟨b, off, ra, rc, L, l, rfl, -, hl, c1, hI⟩ := h.at e he
  have hL := hI.1
  rw [hl, M.hisM_get pre he, M.hsF_len] at hL
  have hei : (e : Int) < (N : Int) := by omega
  have HL := Lib.hid hL
  have hw : wrap64 ((L : Int) + 1) = (L : Int) + 1 := IntWalk.wrap64_in _ ⟨by omega, by omega⟩
  clear hL hI hl h hc
  go_enter Try.func123, Try.ntmps123
  go_wp2
  go_ret
  exact ⟨by rw [HL.out]; show Ending.returned (.int .i64 (wrap64 ((L : Int) + 1))) = _; rw [hw], rfl⟩
set_option maxRecDepth 100000 in
set_option maxHeartbeats 1000000 in
theorem histAt (N : Nat) (ta : Option Addr) (tc : Nat) (pre : List M.Fr) (j : Nat) (num : Int) (r : Nat) (hnum : num = (r : Int) + 1) (w : World) (h : Mat w ta N (M.hisM N pre)) (hj : j < N) (hN : N ≤ 10) (hr : r < M.cntF pre j) (hc : M.cntF pre j ≤ 1000) :
    Calls Try.prog 79 #[.slice ta N tc, .int .i64 j, .int .i64 num] w fun z w' => z = .returned (.int .i64 ((M.hsF pre j).getD r 0)) ∧ w' = w := by
  have hg := M.hisM_get pre hj
  obtain ⟨b, off, rb, ro, L, rc, x, rfl, hLe, hx, c1, c2⟩ := h.ent j r hj (by rw [hg, M.hsF_len]; exact hr)
  rw [hg] at hx hLe
  rw [M.hsF_len] at hLe
  have hw : wrap64 (num - 1) = (r : Int) := by rw [hnum, IntWalk.wrap64_in _ ⟨by omega, by omega⟩]; omega
  have hji : (j : Int) < (N : Int) := by omega
  have hri : (r : Int) < (L : Int) := by omega
  have HX := Lib.hid hx
  clear hx hLe h hnum hr hg hc
  go_enter Try.func79, Try.ntmps79
  go_wp2
  go_ret
  exact ⟨by rw [← HX.out]; rfl, rfl⟩
set_option maxRecDepth 100000 in
set_option maxHeartbeats 2000000 in
theorem tokensIn (N : Nat) (ta : Option Addr) (tc : Nat) (pre : List M.Fr) (j e : Nat) (p2 p3 : Int) (w : World) (h : Mat w ta N (M.hisM N pre)) (hj : j < N) (he : e < N) (hN : N ≤ 10) (hlen : pre.length ≤ 500) (h3 : 0 ≤ p3 ∧ p3 ≤ 5) :
    Calls Try.prog 75 #[.slice ta N tc, .agg #[.int .i64 j, .int .i64 e, .int .i64 p2, .int .i64 p3]] w fun z w' => z = .returned (.int .i64 (M.tokF pre ((j : Int), (e : Int), p2, p3))) ∧ Below w.heap.size w w' := by
  have hb0 := b_alloc w (.cells #[.int .i64 j, .int .i64 e, .int .i64 p2, .int .i64 p3] 52)
  obtain ⟨wq, hwq⟩ : ∃ z, z = w.alloc (.cells #[.int .i64 j, .int .i64 e, .int .i64 p2, .int .i64 p3] 52) := ⟨_, rfl⟩
  rw [← hwq] at hb0
  have q0 : wq.cell? ⟨w.heap.size, 0, none⟩ = some (.int .i64 j) := by rw [hwq]; simp [go_sem]
  have q1 : wq.cell? ⟨w.heap.size, 1, none⟩ = some (.int .i64 e) := by rw [hwq]; simp [go_sem]
  have q3 : wq.cell? ⟨w.heap.size, 3, none⟩ = some (.int .i64 p3) := by rw [hwq]; simp [go_sem]
  have c1 : M.cntF pre j ≤ 500 := Nat.le_trans (M.cntF_le _ _) hlen
  have c2 : M.cntF pre e ≤ 500 := Nat.le_trans (M.cntF_le _ _) hlen
  have HJ : Hid (∀ q, Calls Try.prog 123 #[.slice ta N tc, .int .i64 j] (wq.drewN q) fun z w' => z = .returned (.int .i64 ((M.cntF pre j : Int) + 1)) ∧ wq.drewN q = w') := fun q => nextNumber N ta tc pre j _ ((h.below hb0).below (b_draws wq q)) hj hN (by omega)
  have HE : Hid (∀ q, Calls Try.prog 123 #[.slice ta N tc, .int .i64 e] (wq.drewN q) fun z w' => z = .returned (.int .i64 ((M.cntF pre e : Int) + 1)) ∧ wq.drewN q = w') := fun q => nextNumber N ta tc pre e _ ((h.below hb0).below (b_draws wq q)) he hN (by omega)
  have HT : Hid (M.tokF pre ((j : Int), (e : Int), p2, p3) = p3 + (M.cntF pre j : Int) - (M.cntF pre e : Int)) := rfl
  obtain ⟨T, hT⟩ : ∃ T, T = M.tokF pre ((j : Int), (e : Int), p2, p3) := ⟨_, rfl⟩
  rw [← hT] at HT ⊢
  obtain ⟨cj, hcj⟩ : ∃ c, c = M.cntF pre j := ⟨_, rfl⟩
  obtain ⟨ce, hce⟩ : ∃ c, c = M.cntF pre e := ⟨_, rfl⟩
  rw [← hcj] at HJ HT c1
  rw [← hce] at HE HT c2
  have hw1 : wrap64 (p3 + ((cj : Int) + 1)) = p3 + ((cj : Int) + 1) := IntWalk.wrap64_in _ ⟨by omega, by omega⟩
  have hw1' : IntKind.i64.wrap (p3 + ((cj : Int) + 1)) = p3 + ((cj : Int) + 1) := IntWalk.i64_in _ (by omega)
  have hw2 : wrap64 (p3 + ((cj : Int) + 1) - ((ce : Int) + 1)) = T := by rw [IntWalk.wrap64_in _ ⟨by omega, by omega⟩, HT.out]; omega
  have hw2' : IntKind.i64.wrap (p3 + ((cj : Int) + 1) - ((ce : Int) + 1)) = T := by rw [IntWalk.i64_in _ (by omega), HT.out]; omega
  have HB := Lib.hid hb0
  have HWq := Lib.hid hwq.symm
  clear hb0 hT hcj hce h hwq HT
  go_enter Try.func75, Try.ntmps75
  go_wp2
  rw [HWq.out]
  go_quiet ((go_at_call 123; first | with_reducible exact q_one_s (HJ.out _) | with_reducible exact q_more_s (HJ.out _) | with_reducible exact q_one_s (HE.out _) | with_reducible exact q_more_s (HE.out _)))
  go_wp2
  go_ret
  exact ⟨rfl, HB.out.trans ((b_draws wq _).mono HB.out.size)⟩
end V
end Go.Proofs.Ytjbffpmelglegaa
