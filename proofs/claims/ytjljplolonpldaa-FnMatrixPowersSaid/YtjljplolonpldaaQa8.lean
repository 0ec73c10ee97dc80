/- Texts laid together: Pth2, End1, End2, El. -/
import Derived.Test.YtjljplolonpldaaRows
import Derived.Test.YtjljplolonpldaaQa1
import Derived.Test.YtjljplolonpldaaQa2
import Derived.Test.YtjljplolonpldaaQa3
import Derived.WalkKit
import Derived.ProofKit
import Derived.WalkSmall
import Derived.Deep.QuietTactic
import Derived.BigQuiet
import Derived.BigRegion
import Derived.Deep.Draws
import Derived.Lib.Hide
import Derived.IntWalk
import Derived.OpenShut
import Derived.Deep.OwnRows
import Derived.Test.YtjljplolonpldaaQa4
import Derived.Test.YtjljplolonpldaaQa5
import Derived.Test.YtjljplolonpldaaQa7
import Derived.Test.YtjljplolonpldaaQa6
import Derived.Deep.WholeRow
import Derived.Deep.MidRow
import Derived.Deep.RegionLaw
import Derived.Laws.CopyOwn
set_option linter.unusedSimpArgs false
set_option linter.unusedVariables false
set_option linter.unusedSectionVars false
namespace Go.Proofs.Ytjljplolonpldaa.V
open Go.RowKit

/-- A square matrix of values. -/
def Sq (w : World) (a : Option Addr) (n : Nat) (R : List (List Int)) : Prop := Mat w a n R ∧ Rect R n n ∧ (∀ i j, i < n → j < n → M.Sm 1000001000000 (M.ent R i j)) ∧ 1 ≤ n ∧ n ≤ 10
theorem sq_of {w : World} {a : Option Addr} {n : Nat} {R : List (List Int)} (h : Mat w a n R) (hs : M.sqB R = true) : Sq w a n R := by
  obtain ⟨h1, h2⟩ := M.sqB_t hs
  have hr := rect_mat h1
  obtain ⟨m1, m2, -⟩ := M.isMat_t h1
  rw [← h2, h.1] at hr
  rw [h.1] at m1 m2
  exact ⟨h, hr, fun i j hi hj => M.sm_wide (M.sm_val (tm_val h1 hr m1 hi hj)), m1, m2⟩
theorem Sq.below {w w' : World} {a : Option Addr} {n : Nat} {R : List (List Int)} (h : Sq w a n R) (hb : Below w.heap.size w w') : Sq w' a n R := ⟨h.1.below hb, h.2⟩
theorem Sq.arc {w : World} {a : Option Addr} {n : Nat} {R : List (List Int)} {l : List Int} (h : Sq w a n R) (hv : M.nodesB n l = true) {i j : Nat} (hi : i < l.length) (hj : j < l.length) : M.Sm 1000001000000 (M.ent R (M.vx l i) (M.vx l j)) :=
  h.2.2.1 _ _ (M.vx_lt hv hi) (M.vx_lt hv hj)
/-- The weights along a list of nodes are near to 0. -/
theorem Sq.along {w : World} {a : Option Addr} {n : Nat} {R : List (List Int)} {l : List Int} (h : Sq w a n R) (hv : M.nodesB n l = true) {t : Nat} (ht : t < l.length) : M.Sm (1000001000000 * t) (M.wkc (M.ent R) (M.vx l) t) :=
  M.wkc_sm fun u hu => h.arc hv (by omega) (by omega)
theorem wn_big {L v : Int} {t : Nat} (h : M.Sm (1000001000000 * t) v) (ht : t ≤ 99) : M.Big v := M.big_sm h (by omega)



end Go.Proofs.Ytjljplolonpldaa.V

namespace Go.Proofs.Ytjljplolonpldaa.V
open Go.RowKit
/-- One row of an owned matrix, as a list of its own. -/
theorem OwnM.rowOf {w : World} {B n cap : Nat} {a : Option Addr} {R : List (List Int)} (h : OwnM w B (.slice a n cap) R) (i : Nat) (hi : i < n) :
    ∃ g ra rc, a = some ⟨g, 0, none⟩ ∧ w.cell? ⟨g, i, none⟩ = some (.slice ra (R.getD i []).length rc) ∧ Own w B (.slice ra (R.getD i []).length rc) (R.getD i []) := by
  have hl := h.len
  obtain ⟨V, h1, h2, h3, h4, h5⟩ := h
  obtain ⟨a', c', hv, hc, hm, hg⟩ := own_form h2
  injection hv with e1 e2 e3
  subst e1 e2 e3
  obtain ⟨g, rfl, hB, hlt⟩ := hg (by omega)
  have hr := h3 i (by omega)
  obtain ⟨ra, rc, hrv, _⟩ := own_form hr
  rw [hrv] at hr
  refine ⟨g, ra, rc, rfl, ?_, hr⟩
  rw [World.ownsRow.cellAt h2 i (by omega), ← hrv]
  simp [show i < V.length by omega]
theorem ownM_first (w : World) (B : Nat) (hB : B ≤ w.heap.size) {rv : Value} {l : List Int} (ho : Own w B rv l) : OwnM (w.alloc (.cells #[rv] 29)) B (.slice (some ⟨w.heap.size, 0, none⟩) 1 1) [l] := by
  refine ⟨[rv], rfl, World.ownsRow_lit w #[rv] 1 hB (by decide) rfl, fun i hi => ?_, fun i hi k hk => ?_, fun i j hi hj hne => ?_⟩
  · obtain rfl : i = 0 := by simp at hi; omega
    exact ho.below (b_alloc w _)
  · obtain rfl : i = 0 := by simp at hi; omega
    have := (own_lt ho hk).2
    intro e
    simp only [Value.ownBlock, Option.some.injEq] at e
    omega
  · simp at hi hj; omega
/-- The greatest weights of paths with so many arcs. -/
def M.fkL (A : Nat → Nat → Int) (n k : Nat) : List Int := (List.range n).map (M.Fk A n k)
theorem M.fkL_len (A : Nat → Nat → Int) (n k : Nat) : (M.fkL A n k).length = n := by unfold M.fkL; simp
theorem M.fkL_at (A : Nat → Nat → Int) (n k v : Nat) (hv : v < n) : (M.fkL A n k).getD v 0 = M.Fk A n k v := by unfold M.fkL; simp [hv]
def M.endM (A : Nat → Nat → Int) (n k : Nat) : List (List Int) := M.mk k n fun s j => M.Fk A n s j
theorem M.end_row (A : Nat → Nat → Int) (n k s : Nat) (h : s < k) : (M.endM A n k).getD s [] = M.fkL A n s := M.mk_row _ _ _ _ h
theorem M.end_next {R : List (List Int)} {n : Nat} (h : R.length = n) (k : Nat) : M.applyM R (M.fkL (M.ent R) n k) = M.fkL (M.ent R) n (k + 1) := by
  unfold M.applyM
  rw [h, M.fkL_len]
  show _ = (List.range n).map (M.Fk (M.ent R) n (k + 1))
  refine List.map_congr_left fun i hi => ?_
  unfold M.dotV
  show _ = M.sumN n fun u => M.times (M.ent R i u) (M.Fk (M.ent R) n k u)
  refine M.sumN_congr fun u hu => ?_
  rw [M.fkL_at _ _ _ _ hu]

end Go.Proofs.Ytjljplolonpldaa.V

namespace Go.Proofs.Ytjljplolonpldaa.V
open Go.RowKit
/-- The greatest of the first values. -/
def M.topN (f : Nat → Int) : Nat → Int
  | 0 => f 0
  | k + 1 => max (M.topN f k) (f (k + 1))
theorem M.topN_ge (f : Nat → Int) (m : Nat) : ∀ v, v ≤ m → f v ≤ M.topN f m := by
  induction m with
  | zero => intro v hv; obtain rfl : v = 0 := by omega
            exact Int.le_refl _
  | succ m ih =>
    intro v hv
    show _ ≤ max _ _
    by_cases e : v = m + 1
    · subst e; omega
    · have := ih v (by omega); omega
theorem M.topN_at (f : Nat → Int) (m : Nat) : ∃ v, v ≤ m ∧ M.topN f m = f v := by
  induction m with
  | zero => exact ⟨0, Nat.le_refl _, rfl⟩
  | succ m ih =>
    obtain ⟨v, h1, h2⟩ := ih
    rcases Int.le_total (M.topN f m) (f (m + 1)) with h | h
    · exact ⟨m + 1, Nat.le_refl _, Int.max_eq_right h⟩
    · exact ⟨v, by omega, (Int.max_eq_left h).trans h2⟩
theorem M.topN_congr {f g : Nat → Int} {m : Nat} (h : ∀ v, v ≤ m → f v = g v) : M.topN f m = M.topN g m := by
  induction m with
  | zero => exact h 0 (Nat.le_refl _)
  | succ m ih => show max _ _ = max _ _; rw [ih fun v hv => h v (by omega), h (m + 1) (Nat.le_refl _)]
theorem M.top_cyc {A : Nat → Nat → Int} {n : Nat} (h1 : 1 ≤ n) (h2 : n ≤ 10) (hA : ∀ i j, i < n → j < n → M.Sm 1000000 (A i j)) : decide (M.topN (fun i => (M.fkL A n n).getD i 0) (n - 1) ≠ -1000000000000000) = M.hasCyc A n := by
  have hc : M.topN (fun i => (M.fkL A n n).getD i 0) (n - 1) = M.topN (M.Fk A n n) (n - 1) := M.topN_congr fun v hv => M.fkL_at _ _ _ _ (by omega)
  rw [hc, Bool.eq_iff_iff, decide_eq_true_eq]
  unfold M.hasCyc
  rw [List.any_eq_true]
  obtain ⟨v, hv, e⟩ := M.topN_at (M.Fk A n n) (n - 1)
  constructor
  · intro h
    exact ⟨v, List.mem_range.2 (by omega), by rw [← e]; simpa using h⟩
  · rintro ⟨u, hu, h⟩
    have hu := List.mem_range.1 hu
    have h3 := M.topN_ge (M.Fk A n n) (n - 1) u (by omega)
    have h4 : M.Fk A n n u ≠ -1000000000000000 := by simpa using h
    rcases M.Fk_sm hA n v (by omega) with k | k
    · rcases M.Fk_sm hA n u hu with q | q
      · exact absurd q h4
      · omega
    · omega

set_option maxRecDepth 100000 in
set_option maxHeartbeats 1000000 in
theorem slicesMax (a : Option Addr) (n cap : Nat) (l : List Int) (w : World) (h : Ints .i64 w a n l) (h1 : 1 ≤ n) :
    Calls Try.prog 148 #[.slice a n cap] w fun e w' => e = .returned (.int .i64 (M.topN (fun i => l.getD i 0) (n - 1))) ∧ w = w' := by
  obtain ⟨hl, hm, hr⟩ := h
  unfold maxLen at hm
  have hn1 : ¬ (n : Int) < 1 := by omega
  rcases hr with h0 | ⟨b, off, rfl, hbl, hc⟩
  · omega
  have hc0 := hc 0 (by omega)
  rw [Nat.add_zero] at hc0
  have HC := Lib.hid hc
  clear hl hc
  go_enter Try.func148, Try.ntmps148
  go_wp2
  clear hc0
  go_loop [3, 4] (fun m i => ∃ k : Nat, 1 ≤ k ∧ k ≤ n ∧ i = .int .i64 k ∧ m = .int .i64 (M.topN (fun i => l.getD i 0) (k - 1))) (fun _ i => n - (intOf i).toNat)
  case atStart => exact ⟨1, Nat.le_refl _, h1, rfl, rfl⟩
  case round =>
    obtain ⟨k, hk1, hk, rfl, rfl⟩ := hrel
    by_cases hlt : k < n
    · have hki : (k : Int) < (n : Int) := by omega
      have hck := HC.out k hlt
      have HT : Hid (max (M.topN (fun i => l.getD i 0) (k - 1)) (l.getD k 0) = M.topN (fun i => l.getD i 0) (k + 1 - 1)) := by
        show _ = _
        obtain ⟨q, rfl⟩ : ∃ q, k = q + 1 := ⟨k - 1, by omega⟩
        rfl
      generalize M.topN (fun i => l.getD i 0) (k - 1) = y at HT ⊢
      generalize l.getD k 0 = x at HT hck
      go_wp2
      go_round
      case rel => exact ⟨k + 1, by omega, by omega, by go_num, by rw [← HT.out]; congr 1; split <;> omega⟩
      case measure => simp [intOf]; omega
    · obtain rfl : k = n := by omega
      go_wp2
      go_ret
      exact ⟨rfl, rfl⟩
end Go.Proofs.Ytjljplolonpldaa.V

namespace Go.Proofs.Ytjljplolonpldaa
namespace V
set_option maxRecDepth 100000
open Go.RowKit
theorem topN_max {f : Nat → Int} : ∀ m, (∀ i, i ≤ m → f i ≤ M.topN f m) ∧ ∃ i, i ≤ m ∧ f i = M.topN f m := by
  intro m
  induction m with
  | zero => exact ⟨fun i hi => by obtain rfl : i = 0 := by omega
                                  exact Int.le_refl _, 0, Nat.le_refl _, rfl⟩
  | succ m ih =>
    obtain ⟨h1, j, hj, h2⟩ := ih
    have e : M.topN f (m + 1) = max (M.topN f m) (f (m + 1)) := rfl
    rw [e]
    refine ⟨fun i hi => ?_, ?_⟩
    · by_cases q : i = m + 1
      · subst q; omega
      · have := h1 i (by omega); omega
    · rcases Int.le_total (M.topN f m) (f (m + 1)) with q | q
      · exact ⟨m + 1, Nat.le_refl _, by omega⟩
      · exact ⟨j, by omega, by omega⟩
theorem topN_maxL {l : List Int} {n : Nat} (h0 : l.length = n) (h1 : 1 ≤ n) (hv : ∀ i, i < n → -1000000000000000 ≤ l.getD i 0) : M.topN (fun i => l.getD i 0) (n - 1) = M.maxL l := by
  obtain ⟨a, j, hj, b⟩ := topN_max (f := fun i => l.getD i 0) (n - 1)
  have hge := M.maxL_ge (x := l) (i := j) (by omega)
  rcases M.maxL_mem l with e | ⟨i, hi, e⟩
  · have := hv j (by omega)
    have b' : l.getD j 0 = M.topN (fun i => l.getD i 0) (n - 1) := b
    omega
  · have := a i (by omega)
    have b' : l.getD j 0 = M.topN (fun i => l.getD i 0) (n - 1) := b
    have this : l.getD i 0 ≤ M.topN (fun i => l.getD i 0) (n - 1) := this
    omega
theorem flat_next {X : List (List Int)} {k : Nat} (hk : k < X.length) : (X.take (k + 1)).flatten = (X.take k).flatten ++ X.getD k [] := by
  rw [List.take_succ_eq_append_getElem hk, List.flatten_append]
  simp [hk]
def zE : Array Value := (List.replicate 101 (.int .i64 0)).toArray
theorem infoE : (Try.prog.info? 93).map (fun i => (i.zero, i.size)) = some (some (.agg zE), 101) := by kernel_rfl
theorem rep_at {α : Type} (v : α) (n t : Nat) (h : t < n) : (List.replicate n v).toArray[t]? = some v := by simp [h]
theorem zE_at {t : Nat} (h : t < 101) : zE[t]? = some (.int .i64 0) := rep_at _ 101 t h
theorem zE_size : zE.size = 101 := by unfold zE; rw [List.size_toArray, List.length_replicate]
/-- The cells of an element whose first k rows are filled. -/
def elC (X : List (List Int)) (L : Nat) (g : Int) (k : Nat) : List Value := (List.range 101).map fun t => if t = 100 then .int .i64 g else if t / 10 < k ∧ t % 10 < L then .int .i64 (M.times (M.ent X (t / 10) (t % 10)) (-g)) else .int .i64 0
theorem elC_len (X : List (List Int)) (L : Nat) (g : Int) (k : Nat) : (elC X L g k).length = 101 := by simp [elC]
theorem elC_at (X : List (List Int)) (L : Nat) (g : Int) (k : Nat) {t : Nat} (ht : t < 101) : (elC X L g k)[t]? = some (if t = 100 then .int .i64 g else if t / 10 < k ∧ t % 10 < L then .int .i64 (M.times (M.ent X (t / 10) (t % 10)) (-g)) else .int .i64 0) := by simp [elC, ht]
theorem elC_zero (X : List (List Int)) (L : Nat) (g : Int) : zE.setIfInBounds 100 (.int .i64 g) = (elC X L g 0).toArray := by
  apply Array.ext_getElem?
  intro t
  rw [Array.getElem?_setIfInBounds]
  by_cases ht : t < 101
  · rw [show (elC X L g 0).toArray[t]? = (elC X L g 0)[t]? from by simp, elC_at X L g 0 ht]
    by_cases e : t = 100
    · subst e; rw [if_pos rfl, if_pos rfl, zE_size]; rfl
    · have e2 : ¬ 100 = t := fun q => e q.symm
      rw [if_neg e2, if_neg e, zE_at ht]; simp
  · have e2 : ¬ 100 = t := by omega
    have h1 : (elC X L g 0).toArray[t]? = none := by simp [elC]; omega
    have h2 : zE[t]? = none := Array.getElem?_eq_none (by rw [zE_size]; omega)
    rw [h1, if_neg e2, h2]
theorem elC_next {X : List (List Int)} {L k : Nat} {g : Int} {r : List Int} (hk : k < 10) (hL : L ≤ 10) (hr : X.getD k [] = r) (hl : r.length = L) : splice (elC X L g k) (k * 10) ((M.shvL r (-g)).map (Value.int .i64)) = elC X L g (k + 1) := by
  have hsl : ((M.shvL r (-g)).map (Value.int .i64)).length = L := by rw [List.length_map, M.shv_len, hl]
  apply List.ext_getElem?
  intro t
  have hlen : (splice (elC X L g k) (k * 10) ((M.shvL r (-g)).map (Value.int .i64))).length = 101 := by rw [length_splice _ _ _ (by rw [hsl, elC_len]; omega), elC_len]
  by_cases ht : t < 101
  · rw [elC_at X L g (k + 1) ht]
    unfold splice
    by_cases h1 : t < k * 10
    · rw [List.getElem?_append_left (by rw [List.length_take, elC_len]; omega), List.getElem?_take_of_lt h1, elC_at X L g k ht]
      by_cases e : t = 100
      · omega
      · rw [if_neg e, if_neg e]
        have : t / 10 < k := by omega
        by_cases q : t % 10 < L
        · rw [if_pos ⟨this, q⟩, if_pos ⟨by omega, q⟩]
        · rw [if_neg (fun h => q h.2), if_neg (fun h => q h.2)]
    · rw [List.getElem?_append_right (by rw [List.length_take, elC_len]; omega), List.length_take, elC_len, Nat.min_eq_left (by omega)]
      by_cases h2 : t - k * 10 < L
      · rw [List.getElem?_append_left (by rw [hsl]; exact h2)]
        have e1 : t / 10 = k := by omega
        have e2 : t % 10 = t - k * 10 := by omega
        have e3 : t ≠ 100 := by omega
        rw [if_neg e3, if_pos ⟨by omega, by omega⟩, e1, e2, List.getElem?_map]
        have : (M.shvL r (-g))[t - k * 10]? = some (M.times (M.ent X k (t - k * 10)) (-g)) := by
          rw [List.getElem?_eq_getElem (by rw [M.shv_len]; omega)]
          congr 1
          have := M.shv_get (l := r) (g := -g) (i := t - k * 10) (by omega)
          rw [List.getD_eq_getElem?_getD, List.getElem?_eq_getElem (by rw [M.shv_len]; omega), Option.getD_some] at this
          rw [this]
          unfold M.ent
          rw [hr]
        rw [this]; rfl
      · rw [List.getElem?_append_right (by rw [hsl]; omega), hsl, List.getElem?_drop, show k * 10 + L + (t - k * 10 - L) = t by omega, elC_at X L g k ht]
        by_cases e : t = 100
        · rw [if_pos e, if_pos e]
        · rw [if_neg e, if_neg e]
          by_cases q : t / 10 < k ∧ t % 10 < L
          · omega
          · rw [if_neg q, if_neg]
            rintro ⟨q1, q2⟩
            omega
  · rw [List.getElem?_eq_none (by rw [hlen]; omega), List.getElem?_eq_none (by rw [elC_len]; omega)]
/-- An element's cells. -/
def elV (X : List (List Int)) : List Value := (M.patC X (M.maxL X.flatten)).map (Value.int .i64) ++ [.int .i64 (M.maxL X.flatten)]
theorem elV_eq {X : List (List Int)} {n L : Nat} (hr : X.length = n) (hw : M.wid X = L) : elC X L (M.maxL X.flatten) n = elV X := by
  unfold elV M.patC elC
  rw [show (101 : Nat) = 100 + 1 from rfl, List.range_succ, List.map_append, List.map_map]
  congr 1
  refine List.map_congr_left fun t ht => ?_
  have ht := List.mem_range.1 ht
  rw [if_neg (by omega), hr, hw]
  show _ = Value.int .i64 (if t / 10 < n ∧ t % 10 < L then _ else 0)
  split <;> rfl
theorem elV_len (X : List (List Int)) : (elV X).length = 101 := by simp [elV, M.patC_len]
theorem ints_one {l : List Int} : ∀ v ∈ l.map (Value.int .i64), v.oneCell' = true := fun v hv => by
  obtain ⟨x, -, rfl⟩ := List.mem_map.1 hv; rfl
theorem elC_one {X : List (List Int)} {L : Nat} {g : Int} {k : Nat} : ∀ v ∈ elC X L g k, v.oneCell' = true := fun v hv => by
  obtain ⟨t, -, rfl⟩ := List.mem_map.1 hv
  split
  · rfl
  · split <;> rfl
theorem range_of {w : World} {b : Nat} {cs : List Value} {t : TypeId} (hb : w.heap[b]? = some (.cells cs.toArray t (0, 0))) : w.rangeAt b 0 cs := fun j v hv => by
  rw [Nat.zero_add, cell_of_row w b j _ t _ hb]
  simpa using hv
theorem there_of {w : World} {b n : Nat} {c : Array Value} {t : TypeId} (hb : w.heap[b]? = some (.cells c t (0, 0))) (hn : c.size = n) : w.there b 0 n := fun j hj => by
  refine ⟨?_, ?_⟩
  · rw [cell_of_row w b _ _ t _ hb]
    simp
    omega
  · simp [World.frozen?, hb]
theorem ints_src {w : World} {a : Option Addr} {n : Nat} {l : List Int} (h : Ints .i64 w a n l) (h1 : 1 ≤ n) : ∃ ad, a = some ad ∧ ∀ j v, (l.map (Value.int .i64))[j]? = some v → w.cell? (ad.add j) = some v := by
  obtain ⟨hl, -, hc⟩ := h
  rcases hc with e | ⟨b, off, rfl, -, hc⟩
  · omega
  · refine ⟨_, rfl, fun j v hv => ?_⟩
    have hadd : (⟨b, off, none⟩ : Addr).add j = ⟨b, off + j, none⟩ := by unfold Addr.add; split <;> simp_all
    have hj : j < l.length := by
      by_cases q : j < l.length
      · exact q
      · rw [List.getElem?_eq_none (by simp; omega)] at hv; cases hv
    rw [hadd, hc j (by omega)]
    rw [List.getElem?_map, List.getElem?_eq_getElem hj] at hv
    rw [List.getD_eq_getElem?_getD, List.getElem?_eq_getElem hj]
    exact hv
set_option maxRecDepth 100000 in
set_option maxHeartbeats 1000000 in
theorem elementOf (a : Option Addr) (n cap L : Nat) (X : List (List Int)) (w : World) (h : Mat w a n X) (hr : Rect X n L) (n1 : 1 ≤ n) (n2 : n ≤ 10) (l1 : 1 ≤ L) (l2 : L ≤ 10) (hv : ∀ i j, i < n → j < L → M.isVal (M.ent X i j) = true) :
    Calls Try.prog 146 #[.slice a n cap] w fun e w' => e = .returned (.agg (elV X).toArray) ∧ Below w.heap.size w w' := by
  obtain ⟨hz, hs⟩ := zero_of_info infoE
  have HA := Lib.hid h
  have HR := Lib.hid hr
  have HTop : Hid (∀ k, k < n → M.topN (fun i => (X.getD k []).getD i 0) (L - 1) = M.maxL (X.getD k [])) := fun k hk => topN_maxL (hr.2 k hk) l1 fun i hi => by
    have := M.isVal_t (hv k i hk hi)
    unfold M.ent at this
    omega
  have HNx : Hid (∀ k, k < n → max (M.maxL (X.take k).flatten) (M.maxL (X.getD k [])) = M.maxL (X.take (k + 1)).flatten) := fun k hk => by rw [flat_next (by rw [h.1]; exact hk), M.maxL_app]
  have HTa : Hid (X.take n = X) := List.take_of_length_le (by rw [h.1]; exact Nat.le_refl _)
  have HVl : Hid (∀ k i, k < n → i < L → Wid ((X.getD k []).getD i 0)) := fun k i hk hi => wid_val (hv k i hk hi)
  have HG : Hid (Wid (-(M.maxL X.flatten))) := by
    have hm : M.isMat X = true := by
      refine M.isMat_of (by rw [h.1]; exact n1) (by rw [h.1]; exact n2) (by rw [hr.wid n1]; exact l1) (by rw [hr.wid n1]; exact l2) (fun i hi => by rw [hr.wid n1]; exact hr.2 i (by rw [← h.1]; exact hi)) fun i hi j hj => hv i j (by rw [← h.1]; exact hi) (by rw [hr.wid n1] at hj; exact hj)
    have := M.isVal_t (M.maxL_vals (M.flat_vals hm))
    show Wid _
    unfold Wid; omega
  have HEl : Hid (elC X L (M.maxL X.flatten) n = elV X) := elV_eq h.1 (hr.wid n1)
  clear h hr hv
  go_enter Try.func146, Try.ntmps146
  go_wp2
  go_loopw [3, 5, 11] (fun gv _ kv wr => ∃ k : Nat, k ≤ n ∧ kv = .int .i64 k ∧ gv = .int .i64 (M.maxL (X.take k).flatten) ∧ wr = w.alloc (.cells zE 93)) (fun _ _ kv _ => n - (intOf kv).toNat)
  case atStart => exact ⟨0, Nat.zero_le _, rfl, rfl, rfl⟩
  case round =>
    obtain ⟨k, hk, rfl, rfl, rfl⟩ := hrel
    by_cases hlt : k < n
    · have hki : (k : Int) < (n : Int) := by omega
      obtain ⟨ab, ao, ra, rc, rfl, -, hcr, hIr⟩ := (HA.out.below (b_alloc w (.cells zE 93))).rect_at HR.out k hlt
      obtain ⟨r, hr⟩ : ∃ r, r = X.getD k [] := ⟨_, rfl⟩
      have hN := HNx.out k hlt
      have hT := HTop.out k hlt
      rw [← hr] at hIr hN hT
      rw [M.ifmax] at hN
      have HIr := Lib.hid hIr
      have HN := Lib.hid hN
      have HT := Lib.hid hT
      clear hIr hN hT hr
      go_wp2_with (go_at_call 148; refine (slicesMax _ _ _ r _ HIr.out l1).mono ?_; rintro e w' ⟨rfl, rfl⟩; rw [HT.out])
      go_roundw
      case rel => exact ⟨k + 1, by omega, by go_num, congrArg (Value.int .i64) HN.out, by first | rfl | trivial⟩
      case measure => simp [intOf]; omega
    · obtain rfl : k = n := by omega
      have HTb := HTa.out
      rw [HTb]
      clear HTb
      obtain ⟨g, hg⟩ : ∃ g, g = M.maxL X.flatten := ⟨_, rfl⟩
      rw [← hg] at HG HEl ⊢
      clear hg
      have hst : (storeCells ⟨w.heap.size + 1, 0, none⟩ (zE.toList.set 100 (.int .i64 g))).run Try.prog ((w.alloc (.cells zE 93)).alloc (.cells zE 93)) = .ok () ((w.alloc (.cells zE 93)).alloc (.cells (elC X L g 0).toArray 93)) := by
        have := run_storeCells_new (P := Try.prog) (w.alloc (.cells zE 93)) 93 zE (zE.setIfInBounds 100 (.int .i64 g)) (by rw [hs, Array.size_setIfInBounds, zE_size]) (by rw [Array.size_setIfInBounds]) (by rw [elC_zero X L g]; exact all_oneCell_toArray elC_one)
        rw [elC_zero X L g] at this
        have e : (elC X L g 0).toArray.toList = zE.toList.set 100 (.int .i64 g) := by rw [← elC_zero X L g, Array.toList_setIfInBounds]
        rw [e] at this
        simpa using this
      obtain ⟨wk, hwk⟩ : ∃ x, x = (w.alloc (.cells zE 93)).alloc (.cells (elC X L g 0).toArray 93) := ⟨_, rfl⟩
      have he1 : (w.alloc (.cells zE 93)).heap.size = w.heap.size + 1 := by simp
      have HK0 : Hid (wk.heap[w.heap.size]? = some (.cells zE 93 (0, 0))) := by show _ = _; rw [hwk, Below.heap_alloc _ _ _ (by rw [he1]; omega)]; exact heap_alloc_last _ _
      have HK1 : Hid (wk.heap[w.heap.size + 1]? = some (.cells (elC X L g 0).toArray 93 (0, 0))) := by show _ = _; rw [hwk, ← he1]; exact heap_alloc_last _ _
      have HKB : Hid (Below w.heap.size w wk) := by show Below _ _ _; rw [hwk]; exact b_alloc2 _ _ _
      have HKz : Hid (wk.heap.size = w.heap.size + 2) := by show _ = _; rw [hwk]; simp
      rw [← hwk] at hst
      clear hwk HTop HNx HTa he1
      go_wp2
      clear hst
      have HS1 : Hid ((Try.prog.info? 2).map (·.size) = some 1) := by show _ = _; kernel_rfl
      go_loopw [7, 8, 24] (fun _ _ kv wr => ∃ j : Nat, j ≤ k ∧ kv = .int .i64 j ∧ Hid (wr.heap[w.heap.size]? = some (.cells zE 93 (0, 0))) ∧ Hid (wr.heap[w.heap.size + 1]? = some (.cells (elC X L g j).toArray 93 (0, 0))) ∧ Hid (Below w.heap.size w wr) ∧ w.heap.size + 2 ≤ wr.heap.size) (fun _ _ kv _ => k - (intOf kv).toNat)
      case atStart => exact ⟨0, Nat.zero_le _, rfl, HK0, HK1, HKB, by have := HKz.out; omega⟩
      case round =>
        obtain ⟨j, hj, rfl, H0, H1, HB, hsz⟩ := hrel
        obtain ⟨wo, rfl⟩ : ∃ x, x = wr := ⟨_, rfl⟩
        clear HK0 HK1 HKB HKz
        by_cases hjl : j < k
        · have hji : (j : Int) < (k : Int) := by omega
          have hj10 : (j : Int) < 10 := by omega
          obtain ⟨ab, ao, ra, rc, rfl, -, hcr, hIr⟩ := (HA.out.below HB.out).rect_at HR.out j hjl
          have HIr := Lib.hid hIr
          have HW := Lib.hid (fun i hi => HVl.out j i hjl hi)
          have hwg : IntKind.i64.wrap (-g) = -g := by have := HG.out; unfold Wid at this; exact IntWalk.i64_in _ (by omega)
          obtain ⟨r, hr⟩ : ∃ r, r = X.getD j [] := ⟨_, rfl⟩
          have HNe := Lib.hid (elC_next (X := X) (L := L) (k := j) (g := g) (r := r) (by omega) l2 hr.symm (by rw [hr]; exact HR.out.2 j hjl))
          have HRl : Hid (((M.shvL r (-g)).map (Value.int .i64)).length = L) := by show _ = _; rw [List.length_map, M.shv_len, hr]; exact HR.out.2 j hjl
          rw [← hr] at HIr HW
          clear hIr hr
          go_wp2
          go_region_law (first
            | (go_simp; go_at_call 104; refine (shiftedList ra L rc r (-g) _ (HIr.out.below (Below.refl _ _).drew) (by omega) HW.out HG.out).mono ?_; rintro e w3 ⟨b3, rfl, ho3, hb3⟩; have HO3 := Lib.hid ho3; have HB3 := Lib.hid hb3; have HH1 := Lib.hid ((hb3.block (w.heap.size + 1) (by show _ < wo.heap.size; omega)).trans H1.out); have HH0 := Lib.hid ((hb3.block w.heap.size (by show _ < wo.heap.size; omega)).trans H0.out); clear ho3 hb3)
            | (refine step_copy_splice rfl (.tmp 32) (.tmp 36) 29 29 rfl 2 Try.underlying29 HS1.out (some ⟨w.heap.size + 1, j * 10, none⟩) b3 10 10 L L (by go_simp) (by go_simp) (w.heap.size + 1) (j * 10) (elC X L g j) 93 HH1.out ((M.shvL r (-g)).map (Value.int .i64)) (by rw [HRl.out]; exact (Nat.min_eq_left l2).symm) ?hpos (by rw [HRl.out, elC_len]; omega) ints_one (w.heap.size + 1) wo ?hb (Nat.le_refl _) ?_; (case hpos => intro hp; exact ⟨rfl, ints_src HO3.out.ints' l1⟩); (case hb => exact ((Below.refl _ wo).drew.trans (HB3.out.mono (by show _ ≤ wo.heap.size; omega)))); intro w4 hg4 hb4))
          go_wp2
          go_roundw
          case rel => exact ⟨j + 1, by omega, by go_num, Lib.hid ((hb4.block w.heap.size (by omega)).trans H0.out), Lib.hid (by rw [← HNe.out]; exact hg4.out), Lib.hid ((HB.out.trans (hb4.mono (by omega)))), by have := hb4.size; omega⟩
          case measure => simp [intOf]; omega
        · obtain rfl : j = k := by omega
          have H1' : Hid (wo.heap[w.heap.size + 1]? = some (.cells (elV X).toArray 93 (0, 0))) := by show _ = _; rw [← HEl.out]; exact H1.out
          have HO1 : (elV X).toArray.all (·.oneCell') = true := all_oneCell_toArray (by rw [← HEl.out]; exact elC_one)
          have HS2 := Lib.hid hs
          obtain ⟨wf, hwf⟩ : ∃ x, x = wo.setRow w.heap.size (elV X).toArray := ⟨_, rfl⟩
          have hst2 : (storeCells ⟨w.heap.size, 0, none⟩ (elV X)).run Try.prog wo = .ok () wf := by
            have := run_storeVar_row (P := Try.prog) wo w.heap.size 93 93 zE (elV X).toArray H0.out (by rw [hs, List.size_toArray, elV_len]) (by rw [zE_size, List.size_toArray, elV_len]) HO1
            cases hq : Try.prog.info? 93 with
            | none => simp [hq] at hs
            | some i =>
              have hs' : (elV X).toArray.size = i.size := by simp [hq] at hs; rw [List.size_toArray, elV_len]; omega
              have hs'' : (elV X).length = i.size := by rw [← hs', List.size_toArray]
              rw [hwf]
              simpa [storeVar, sizeOf, typeInfo, hq, Value.cells, hs', hs''] using this
          have HF : Hid (wf.heap[w.heap.size]? = some (.cells (elV X).toArray 93 (0, 0))) := Lib.hid (by rw [hwf]; exact setRow_heap wo w.heap.size _ _ _ _ H0.out)
          have HFB : Hid (Below w.heap.size w wf) := Lib.hid (by rw [hwf]; exact below_setRow HB.out (Nat.le_refl _) _)
          clear hs hz hwf HO1
          go_wp2
          refine wp_load_mid 93 (.tmp 6) rfl (w.heap.size + 1) 0 (by go_simp) (elV X) _ (range_of H1'.out) Try.underlying93 rfl (by rw [HS2.out, elV_len]) ?_
          go_wp2
          exact bodyPost_ret (v := .agg (elV X).toArray) (results_cell_row (p := 2) (ty := 93) rfl _ wf w.heap.size 93 (elV X).toArray (0, 0) _ rfl HF.out Try.underlying93 rfl (by rw [HS2.out, List.size_toArray, elV_len])) rfl ⟨rfl, HFB.out⟩
end V
end Go.Proofs.Ytjljplolonpldaa
