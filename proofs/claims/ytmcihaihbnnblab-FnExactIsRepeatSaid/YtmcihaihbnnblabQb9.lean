/- Texts laid together: Pth2, End1, End2. -/
import Derived.Test.YtmcihaihbnnblabRows
import Derived.Test.YtmcihaihbnnblabQb1
import Derived.Test.YtmcihaihbnnblabQb2
import Derived.Test.YtmcihaihbnnblabQb3
import Derived.WalkKit
import Derived.ProofKit
import Derived.WalkSmall
import Derived.Deep.QuietTactic
import Derived.BigQuiet
import Derived.BigRegion
import Derived.Deep.Draws
import Derived.Lib.Hide
import Derived.IntWalk
import Derived.OpenShut
import Derived.Deep.OwnRows
import Derived.Test.YtmcihaihbnnblabQb4
import Derived.Test.YtmcihaihbnnblabQb5
import Derived.Test.YtmcihaihbnnblabQb6
import Derived.Test.YtmcihaihbnnblabQb8
set_option linter.unusedSimpArgs false
set_option linter.unusedVariables false
set_option linter.unusedSectionVars false
namespace Go.Proofs.Ytmcihaihbnnblab.V
open Go.RowKit

/-- A square matrix of values. -/
def Sq (w : World) (a : Option Addr) (n : Nat) (R : List (List Int)) : Prop := Mat w a n R ∧ Rect R n n ∧ (∀ i j, i < n → j < n → M.Sm 1000001000000 (M.ent R i j)) ∧ 1 ≤ n ∧ n ≤ 10
theorem sq_of {w : World} {a : Option Addr} {n : Nat} {R : List (List Int)} (h : Mat w a n R) (hs : M.sqB R = true) : Sq w a n R := by
  obtain ⟨h1, h2⟩ := M.sqB_t hs
  have hr := rect_mat h1
  obtain ⟨m1, m2, -⟩ := M.isMat_t h1
  rw [← h2, h.1] at hr
  rw [h.1] at m1 m2
  exact ⟨h, hr, fun i j hi hj => M.sm_wide (M.sm_val (tm_val h1 hr m1 hi hj)), m1, m2⟩
theorem Sq.below {w w' : World} {a : Option Addr} {n : Nat} {R : List (List Int)} (h : Sq w a n R) (hb : Below w.heap.size w w') : Sq w' a n R := ⟨h.1.below hb, h.2⟩
theorem Sq.arc {w : World} {a : Option Addr} {n : Nat} {R : List (List Int)} {l : List Int} (h : Sq w a n R) (hv : M.nodesB n l = true) {i j : Nat} (hi : i < l.length) (hj : j < l.length) : M.Sm 1000001000000 (M.ent R (M.vx l i) (M.vx l j)) :=
  h.2.2.1 _ _ (M.vx_lt hv hi) (M.vx_lt hv hj)
/-- The weights along a list of nodes are near to 0. -/
theorem Sq.along {w : World} {a : Option Addr} {n : Nat} {R : List (List Int)} {l : List Int} (h : Sq w a n R) (hv : M.nodesB n l = true) {t : Nat} (ht : t < l.length) : M.Sm (1000001000000 * t) (M.wkc (M.ent R) (M.vx l) t) :=
  M.wkc_sm fun u hu => h.arc hv (by omega) (by omega)
theorem wn_big {L v : Int} {t : Nat} (h : M.Sm (1000001000000 * t) v) (ht : t ≤ 99) : M.Big v := M.big_sm h (by omega)



end Go.Proofs.Ytmcihaihbnnblab.V

namespace Go.Proofs.Ytmcihaihbnnblab.V
open Go.RowKit
/-- One row of an owned matrix, as a list of its own. -/
theorem OwnM.rowOf {w : World} {B n cap : Nat} {a : Option Addr} {R : List (List Int)} (h : OwnM w B (.slice a n cap) R) (i : Nat) (hi : i < n) :
    ∃ g ra rc, a = some ⟨g, 0, none⟩ ∧ w.cell? ⟨g, i, none⟩ = some (.slice ra (R.getD i []).length rc) ∧ Own w B (.slice ra (R.getD i []).length rc) (R.getD i []) := by
  have hl := h.len
  obtain ⟨V, h1, h2, h3, h4, h5⟩ := h
  obtain ⟨a', c', hv, hc, hm, hg⟩ := own_form h2
  injection hv with e1 e2 e3
  subst e1 e2 e3
  obtain ⟨g, rfl, hB, hlt⟩ := hg (by omega)
  have hr := h3 i (by omega)
  obtain ⟨ra, rc, hrv, _⟩ := own_form hr
  rw [hrv] at hr
  refine ⟨g, ra, rc, rfl, ?_, hr⟩
  rw [World.ownsRow.cellAt h2 i (by omega), ← hrv]
  simp [show i < V.length by omega]
theorem ownM_first (w : World) (B : Nat) (hB : B ≤ w.heap.size) {rv : Value} {l : List Int} (ho : Own w B rv l) : OwnM (w.alloc (.cells #[rv] 29)) B (.slice (some ⟨w.heap.size, 0, none⟩) 1 1) [l] := by
  refine ⟨[rv], rfl, World.ownsRow_lit w #[rv] 1 hB (by decide) rfl, fun i hi => ?_, fun i hi k hk => ?_, fun i j hi hj hne => ?_⟩
  · obtain rfl : i = 0 := by simp at hi; omega
    exact ho.below (b_alloc w _)
  · obtain rfl : i = 0 := by simp at hi; omega
    have := (own_lt ho hk).2
    intro e
    simp only [Value.ownBlock, Option.some.injEq] at e
    omega
  · simp at hi hj; omega
/-- The greatest weights of paths with so many arcs. -/
def M.fkL (A : Nat → Nat → Int) (n k : Nat) : List Int := (List.range n).map (M.Fk A n k)
theorem M.fkL_len (A : Nat → Nat → Int) (n k : Nat) : (M.fkL A n k).length = n := by unfold M.fkL; simp
theorem M.fkL_at (A : Nat → Nat → Int) (n k v : Nat) (hv : v < n) : (M.fkL A n k).getD v 0 = M.Fk A n k v := by unfold M.fkL; simp [hv]
def M.endM (A : Nat → Nat → Int) (n k : Nat) : List (List Int) := M.mk k n fun s j => M.Fk A n s j
theorem M.end_row (A : Nat → Nat → Int) (n k s : Nat) (h : s < k) : (M.endM A n k).getD s [] = M.fkL A n s := M.mk_row _ _ _ _ h
theorem M.end_next {R : List (List Int)} {n : Nat} (h : R.length = n) (k : Nat) : M.applyM R (M.fkL (M.ent R) n k) = M.fkL (M.ent R) n (k + 1) := by
  unfold M.applyM
  rw [h, M.fkL_len]
  show _ = (List.range n).map (M.Fk (M.ent R) n (k + 1))
  refine List.map_congr_left fun i hi => ?_
  unfold M.dotV
  show _ = M.sumN n fun u => M.times (M.ent R i u) (M.Fk (M.ent R) n k u)
  refine M.sumN_congr fun u hu => ?_
  rw [M.fkL_at _ _ _ _ hu]

end Go.Proofs.Ytmcihaihbnnblab.V

namespace Go.Proofs.Ytmcihaihbnnblab.V
open Go.RowKit
/-- The greatest of the first values. -/
def M.topN (f : Nat → Int) : Nat → Int
  | 0 => f 0
  | k + 1 => max (M.topN f k) (f (k + 1))
theorem M.topN_ge (f : Nat → Int) (m : Nat) : ∀ v, v ≤ m → f v ≤ M.topN f m := by
  induction m with
  | zero => intro v hv; obtain rfl : v = 0 := by omega
            exact Int.le_refl _
  | succ m ih =>
    intro v hv
    show _ ≤ max _ _
    by_cases e : v = m + 1
    · subst e; omega
    · have := ih v (by omega); omega
theorem M.topN_at (f : Nat → Int) (m : Nat) : ∃ v, v ≤ m ∧ M.topN f m = f v := by
  induction m with
  | zero => exact ⟨0, Nat.le_refl _, rfl⟩
  | succ m ih =>
    obtain ⟨v, h1, h2⟩ := ih
    rcases Int.le_total (M.topN f m) (f (m + 1)) with h | h
    · exact ⟨m + 1, Nat.le_refl _, Int.max_eq_right h⟩
    · exact ⟨v, by omega, (Int.max_eq_left h).trans h2⟩
theorem M.topN_congr {f g : Nat → Int} {m : Nat} (h : ∀ v, v ≤ m → f v = g v) : M.topN f m = M.topN g m := by
  induction m with
  | zero => exact h 0 (Nat.le_refl _)
  | succ m ih => show max _ _ = max _ _; rw [ih fun v hv => h v (by omega), h (m + 1) (Nat.le_refl _)]
theorem M.top_cyc {A : Nat → Nat → Int} {n : Nat} (h1 : 1 ≤ n) (h2 : n ≤ 10) (hA : ∀ i j, i < n → j < n → M.Sm 1000000 (A i j)) : decide (M.topN (fun i => (M.fkL A n n).getD i 0) (n - 1) ≠ -1000000000000000) = M.hasCyc A n := by
  have hc : M.topN (fun i => (M.fkL A n n).getD i 0) (n - 1) = M.topN (M.Fk A n n) (n - 1) := M.topN_congr fun v hv => M.fkL_at _ _ _ _ (by omega)
  rw [hc, Bool.eq_iff_iff, decide_eq_true_eq]
  unfold M.hasCyc
  rw [List.any_eq_true]
  obtain ⟨v, hv, e⟩ := M.topN_at (M.Fk A n n) (n - 1)
  constructor
  · intro h
    exact ⟨v, List.mem_range.2 (by omega), by rw [← e]; simpa using h⟩
  · rintro ⟨u, hu, h⟩
    have hu := List.mem_range.1 hu
    have h3 := M.topN_ge (M.Fk A n n) (n - 1) u (by omega)
    have h4 : M.Fk A n n u ≠ -1000000000000000 := by simpa using h
    rcases M.Fk_sm hA n v (by omega) with k | k
    · rcases M.Fk_sm hA n u hu with q | q
      · exact absurd q h4
      · omega
    · omega

set_option maxRecDepth 100000 in
set_option maxHeartbeats 1000000 in
theorem slicesMax (a : Option Addr) (n cap : Nat) (l : List Int) (w : World) (h : Ints .i64 w a n l) (h1 : 1 ≤ n) :
    Calls Try.prog 108 #[.slice a n cap] w fun e w' => e = .returned (.int .i64 (M.topN (fun i => l.getD i 0) (n - 1))) ∧ w = w' := by
  obtain ⟨hl, hm, hr⟩ := h
  unfold maxLen at hm
  have hn1 : ¬ (n : Int) < 1 := by omega
  rcases hr with h0 | ⟨b, off, rfl, hbl, hc⟩
  · omega
  have hc0 := hc 0 (by omega)
  rw [Nat.add_zero] at hc0
  have HC := Lib.hid hc
  clear hl hc
  go_enter Try.func108, Try.ntmps108
  go_wp2
  clear hc0
  go_loop [3, 4] (fun m i => ∃ k : Nat, 1 ≤ k ∧ k ≤ n ∧ i = .int .i64 k ∧ m = .int .i64 (M.topN (fun i => l.getD i 0) (k - 1))) (fun _ i => n - (intOf i).toNat)
  case atStart => exact ⟨1, Nat.le_refl _, h1, rfl, rfl⟩
  case round =>
    obtain ⟨k, hk1, hk, rfl, rfl⟩ := hrel
    by_cases hlt : k < n
    · have hki : (k : Int) < (n : Int) := by omega
      have hck := HC.out k hlt
      have HT : Hid (max (M.topN (fun i => l.getD i 0) (k - 1)) (l.getD k 0) = M.topN (fun i => l.getD i 0) (k + 1 - 1)) := by
        show _ = _
        obtain ⟨q, rfl⟩ : ∃ q, k = q + 1 := ⟨k - 1, by omega⟩
        rfl
      generalize M.topN (fun i => l.getD i 0) (k - 1) = y at HT ⊢
      generalize l.getD k 0 = x at HT hck
      go_wp2
      go_round
      case rel => exact ⟨k + 1, by omega, by omega, by go_num, by rw [← HT.out]; congr 1; split <;> omega⟩
      case measure => simp [intOf]; omega
    · obtain rfl : k = n := by omega
      go_wp2
      go_ret
      exact ⟨rfl, rfl⟩
end Go.Proofs.Ytmcihaihbnnblab.V
