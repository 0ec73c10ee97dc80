/- slices.Max of integers, and whether there is a cycle, in the program. -/
import Derived.Test.YthonlfjjgmmnpabEnd1
namespace Go.Proofs.Ythonlfjjgmmnpab.V
open Go.RowKit
/-- The greatest of the first values. -/
def M.topN (f : Nat → Int) : Nat → Int
  | 0 => f 0
  | k + 1 => max (M.topN f k) (f (k + 1))
theorem M.topN_ge (f : Nat → Int) (m : Nat) : ∀ v, v ≤ m → f v ≤ M.topN f m := by
  induction m with
  | zero => intro v hv; obtain rfl : v = 0 := by omega
            exact Int.le_refl _
  | succ m ih =>
    intro v hv
    show _ ≤ max _ _
    by_cases e : v = m + 1
    · subst e; omega
    · have := ih v (by omega); omega
theorem M.topN_at (f : Nat → Int) (m : Nat) : ∃ v, v ≤ m ∧ M.topN f m = f v := by
  induction m with
  | zero => exact ⟨0, Nat.le_refl _, rfl⟩
  | succ m ih =>
    obtain ⟨v, h1, h2⟩ := ih
    rcases Int.le_total (M.topN f m) (f (m + 1)) with h | h
    · exact ⟨m + 1, Nat.le_refl _, Int.max_eq_right h⟩
    · exact ⟨v, by omega, (Int.max_eq_left h).trans h2⟩
theorem M.topN_congr {f g : Nat → Int} {m : Nat} (h : ∀ v, v ≤ m → f v = g v) : M.topN f m = M.topN g m := by
  induction m with
  | zero => exact h 0 (Nat.le_refl _)
  | succ m ih => show max _ _ = max _ _; rw [ih fun v hv => h v (by omega), h (m + 1) (Nat.le_refl _)]
theorem M.top_cyc {A : Nat → Nat → Int} {n : Nat} (h1 : 1 ≤ n) (h2 : n ≤ 10) (hA : ∀ i j, i < n → j < n → M.Sm 1000000 (A i j)) : decide (M.topN (fun i => (M.fkL A n n).getD i 0) (n - 1) ≠ -1000000000000000) = M.hasCyc A n := by
  have hc : M.topN (fun i => (M.fkL A n n).getD i 0) (n - 1) = M.topN (M.Fk A n n) (n - 1) := M.topN_congr fun v hv => M.fkL_at _ _ _ _ (by omega)
  rw [hc, Bool.eq_iff_iff, decide_eq_true_eq]
  unfold M.hasCyc
  rw [List.any_eq_true]
  obtain ⟨v, hv, e⟩ := M.topN_at (M.Fk A n n) (n - 1)
  constructor
  · intro h
    exact ⟨v, List.mem_range.2 (by omega), by rw [← e]; simpa using h⟩
  · rintro ⟨u, hu, h⟩
    have hu := List.mem_range.1 hu
    have h3 := M.topN_ge (M.Fk A n n) (n - 1) u (by omega)
    have h4 : M.Fk A n n u ≠ -1000000000000000 := by simpa using h
    rcases M.Fk_sm hA n v (by omega) with k | k
    · rcases M.Fk_sm hA n u hu with q | q
      · exact absurd q h4
      · omega
    · omega

set_option maxRecDepth 100000 in
set_option maxHeartbeats 1000000 in
theorem slicesMax (a : Option Addr) (n cap : Nat) (l : List Int) (w : World) (h : Ints .i64 w a n l) (h1 : 1 ≤ n) :
    Calls Try.prog 88 #[.slice a n cap] w fun e w' => e = .returned (.int .i64 (M.topN (fun i => l.getD i 0) (n - 1))) ∧ w = w' := by
  obtain ⟨hl, hm, hr⟩ := h
  unfold maxLen at hm
  have hn1 : ¬ (n : Int) < 1 := by omega
  rcases hr with h0 | ⟨b, off, rfl, hbl, hc⟩
  · omega
  have hc0 := hc 0 (by omega)
  rw [Nat.add_zero] at hc0
  have HC := Lib.hid hc
  clear hl hc
  go_enter Try.func88, Try.ntmps88
  go_wp2
  clear hc0
  go_loop [3, 4] (fun m i => ∃ k : Nat, 1 ≤ k ∧ k ≤ n ∧ i = .int .i64 k ∧ m = .int .i64 (M.topN (fun i => l.getD i 0) (k - 1))) (fun _ i => n - (intOf i).toNat)
  case atStart => exact ⟨1, Nat.le_refl _, h1, rfl, rfl⟩
  case round =>
    obtain ⟨k, hk1, hk, rfl, rfl⟩ := hrel
    by_cases hlt : k < n
    · have hki : (k : Int) < (n : Int) := by omega
      have hck := HC.out k hlt
      have HT : Hid (max (M.topN (fun i => l.getD i 0) (k - 1)) (l.getD k 0) = M.topN (fun i => l.getD i 0) (k + 1 - 1)) := by
        show _ = _
        obtain ⟨q, rfl⟩ : ∃ q, k = q + 1 := ⟨k - 1, by omega⟩
        rfl
      generalize M.topN (fun i => l.getD i 0) (k - 1) = y at HT ⊢
      generalize l.getD k 0 = x at HT hck
      go_wp2
      go_round
      case rel => exact ⟨k + 1, by omega, by omega, by go_num, by rw [← HT.out]; congr 1; split <;> omega⟩
      case measure => simp [intOf]; omega
    · obtain rfl : k = n := by omega
      go_wp2
      go_ret
      exact ⟨rfl, rfl⟩
set_option maxRecDepth 100000 in
set_option maxHeartbeats 1000000 in
theorem hasCycle (a : Option Addr) (n cap : Nat) (R : List (List Int)) (w : World) (h : Sq w a n R) (hA : ∀ i j, i < n → j < n → M.Sm 1000000 (M.ent R i j)) :
    Calls Try.prog 57 #[.slice a n cap] w fun e w' => e = .returned (.bool (M.hasCyc (M.ent R) n)) ∧ Below w.heap.size w w' := by
  have HS := Lib.hid h
  have HA := Lib.hid hA
  obtain ⟨n1, n2⟩ := h.2.2.2
  have HT := Lib.hid (M.top_cyc n1 n2 hA)
  clear h hA
  go_enter Try.func57, Try.ntmps57
  go_wp2_with fail
  refine (endWeights _ _ _ R _ HS.out HA.out).mono ?_
  rintro e w1 ⟨b, c, rfl, hO, hb⟩
  have HB := Lib.hid hb
  obtain ⟨g, ra, rc, rfl, hcell, hr⟩ := hO.rowOf n (by omega)
  rw [M.end_row _ _ _ _ (Nat.lt_succ_self n), M.fkL_len] at hcell hr
  have HI := Lib.hid hr.ints'
  clear hO hb hr
  go_wp2_with fail
  refine (slicesMax _ _ _ _ _ HI.out n1).mono ?_
  rintro e w' ⟨rfl, rfl⟩
  generalize M.topN (fun i => (M.fkL (M.ent R) n n).getD i 0) (n - 1) = y at HT ⊢
  go_wp2
  go_ret
  exact ⟨retB (by rw [← HT.out]; by_cases q : y = -1000000000000000 <;> simp [q]), HB.out⟩
end Go.Proofs.Ythonlfjjgmmnpab.V
