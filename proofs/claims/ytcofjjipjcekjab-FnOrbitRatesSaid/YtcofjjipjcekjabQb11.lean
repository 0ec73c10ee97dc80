/- Texts laid together: End1, End2, El, OwnP, Orb, Ser. -/
import Derived.Test.YtcofjjipjcekjabQb4
import Derived.Test.YtcofjjipjcekjabQb10
import Derived.Test.YtcofjjipjcekjabQb5
import Derived.Test.YtcofjjipjcekjabQb8
import Derived.Test.YtcofjjipjcekjabQb9
import Derived.Deep.WholeRow
import Derived.Deep.MidRow
import Derived.Deep.RegionLaw
import Derived.Laws.CopyOwn
import Derived.Test.YtcofjjipjcekjabQb2
import Derived.Deep.AppendLies
import Derived.Test.YtcofjjipjcekjabQb6
import Derived.Test.YtcofjjipjcekjabQb7
import Derived.Test.YtcofjjipjcekjabQb3
set_option linter.unusedSimpArgs false
set_option linter.unusedVariables false
set_option linter.unusedSectionVars false
namespace Go.Proofs.Ytcofjjipjcekjab.V
open Go.RowKit
/-- One row of an owned matrix, as a list of its own. -/
theorem OwnM.rowOf {w : World} {B n cap : Nat} {a : Option Addr} {R : List (List Int)} (h : OwnM w B (.slice a n cap) R) (i : Nat) (hi : i < n) :
    ∃ g ra rc, a = some ⟨g, 0, none⟩ ∧ w.cell? ⟨g, i, none⟩ = some (.slice ra (R.getD i []).length rc) ∧ Own w B (.slice ra (R.getD i []).length rc) (R.getD i []) := by
  have hl := h.len
  obtain ⟨V, h1, h2, h3, h4, h5⟩ := h
  obtain ⟨a', c', hv, hc, hm, hg⟩ := own_form h2
  injection hv with e1 e2 e3
  subst e1 e2 e3
  obtain ⟨g, rfl, hB, hlt⟩ := hg (by omega)
  have hr := h3 i (by omega)
  obtain ⟨ra, rc, hrv, _⟩ := own_form hr
  rw [hrv] at hr
  refine ⟨g, ra, rc, rfl, ?_, hr⟩
  rw [World.ownsRow.cellAt h2 i (by omega), ← hrv]
  simp [show i < V.length by omega]
theorem ownM_first (w : World) (B : Nat) (hB : B ≤ w.heap.size) {rv : Value} {l : List Int} (ho : Own w B rv l) : OwnM (w.alloc (.cells #[rv] 25)) B (.slice (some ⟨w.heap.size, 0, none⟩) 1 1) [l] := by
  refine ⟨[rv], rfl, World.ownsRow_lit w #[rv] 1 hB (by decide) rfl, fun i hi => ?_, fun i hi k hk => ?_, fun i j hi hj hne => ?_⟩
  · obtain rfl : i = 0 := by simp at hi; omega
    exact ho.below (b_alloc w _)
  · obtain rfl : i = 0 := by simp at hi; omega
    have := (own_lt ho hk).2
    intro e
    simp only [Value.ownBlock, Option.some.injEq] at e
    omega
  · simp at hi hj; omega
/-- The greatest weights of paths with so many arcs. -/
def M.fkL (A : Nat → Nat → Int) (n k : Nat) : List Int := (List.range n).map (M.Fk A n k)
theorem M.fkL_len (A : Nat → Nat → Int) (n k : Nat) : (M.fkL A n k).length = n := by unfold M.fkL; simp
theorem M.fkL_at (A : Nat → Nat → Int) (n k v : Nat) (hv : v < n) : (M.fkL A n k).getD v 0 = M.Fk A n k v := by unfold M.fkL; simp [hv]
def M.endM (A : Nat → Nat → Int) (n k : Nat) : List (List Int) := M.mk k n fun s j => M.Fk A n s j
theorem M.end_row (A : Nat → Nat → Int) (n k s : Nat) (h : s < k) : (M.endM A n k).getD s [] = M.fkL A n s := M.mk_row _ _ _ _ h
theorem M.end_next {R : List (List Int)} {n : Nat} (h : R.length = n) (k : Nat) : M.applyM R (M.fkL (M.ent R) n k) = M.fkL (M.ent R) n (k + 1) := by
  unfold M.applyM
  rw [h, M.fkL_len]
  show _ = (List.range n).map (M.Fk (M.ent R) n (k + 1))
  refine List.map_congr_left fun i hi => ?_
  unfold M.dotV
  show _ = M.sumN n fun u => M.times (M.ent R i u) (M.Fk (M.ent R) n k u)
  refine M.sumN_congr fun u hu => ?_
  rw [M.fkL_at _ _ _ _ hu]

end Go.Proofs.Ytcofjjipjcekjab.V

namespace Go.Proofs.Ytcofjjipjcekjab.V
open Go.RowKit
/-- The greatest of the first values. -/
def M.topN (f : Nat → Int) : Nat → Int
  | 0 => f 0
  | k + 1 => max (M.topN f k) (f (k + 1))
theorem M.topN_ge (f : Nat → Int) (m : Nat) : ∀ v, v ≤ m → f v ≤ M.topN f m := by
  induction m with
  | zero => intro v hv; obtain rfl : v = 0 := by omega
            exact Int.le_refl _
  | succ m ih =>
    intro v hv
    show _ ≤ max _ _
    by_cases e : v = m + 1
    · subst e; omega
    · have := ih v (by omega); omega
theorem M.topN_at (f : Nat → Int) (m : Nat) : ∃ v, v ≤ m ∧ M.topN f m = f v := by
  induction m with
  | zero => exact ⟨0, Nat.le_refl _, rfl⟩
  | succ m ih =>
    obtain ⟨v, h1, h2⟩ := ih
    rcases Int.le_total (M.topN f m) (f (m + 1)) with h | h
    · exact ⟨m + 1, Nat.le_refl _, Int.max_eq_right h⟩
    · exact ⟨v, by omega, (Int.max_eq_left h).trans h2⟩
theorem M.topN_congr {f g : Nat → Int} {m : Nat} (h : ∀ v, v ≤ m → f v = g v) : M.topN f m = M.topN g m := by
  induction m with
  | zero => exact h 0 (Nat.le_refl _)
  | succ m ih => show max _ _ = max _ _; rw [ih fun v hv => h v (by omega), h (m + 1) (Nat.le_refl _)]
theorem M.top_cyc {A : Nat → Nat → Int} {n : Nat} (h1 : 1 ≤ n) (h2 : n ≤ 10) (hA : ∀ i j, i < n → j < n → M.Sm 1000000 (A i j)) : decide (M.topN (fun i => (M.fkL A n n).getD i 0) (n - 1) ≠ -1000000000000000) = M.hasCyc A n := by
  have hc : M.topN (fun i => (M.fkL A n n).getD i 0) (n - 1) = M.topN (M.Fk A n n) (n - 1) := M.topN_congr fun v hv => M.fkL_at _ _ _ _ (by omega)
  rw [hc, Bool.eq_iff_iff, decide_eq_true_eq]
  unfold M.hasCyc
  rw [List.any_eq_true]
  obtain ⟨v, hv, e⟩ := M.topN_at (M.Fk A n n) (n - 1)
  constructor
  · intro h
    exact ⟨v, List.mem_range.2 (by omega), by rw [← e]; simpa using h⟩
  · rintro ⟨u, hu, h⟩
    have hu := List.mem_range.1 hu
    have h3 := M.topN_ge (M.Fk A n n) (n - 1) u (by omega)
    have h4 : M.Fk A n n u ≠ -1000000000000000 := by simpa using h
    rcases M.Fk_sm hA n v (by omega) with k | k
    · rcases M.Fk_sm hA n u hu with q | q
      · exact absurd q h4
      · omega
    · omega

set_option maxRecDepth 100000 in
set_option maxHeartbeats 1000000 in
theorem slicesMax (a : Option Addr) (n cap : Nat) (l : List Int) (w : World) (h : Ints .i64 w a n l) (h1 : 1 ≤ n) :
    Calls Try.prog 124 #[.slice a n cap] w fun e w' => e = .returned (.int .i64 (M.topN (fun i => l.getD i 0) (n - 1))) ∧ w = w' := by
  obtain ⟨hl, hm, hr⟩ := h
  unfold maxLen at hm
  have hn1 : ¬ (n : Int) < 1 := by omega
  rcases hr with h0 | ⟨b, off, rfl, hbl, hc⟩
  · omega
  have hc0 := hc 0 (by omega)
  rw [Nat.add_zero] at hc0
  have HC := Lib.hid hc
  clear hl hc
  go_enter Try.func124, Try.ntmps124
  go_wp2
  clear hc0
  go_loop [3, 4] (fun m i => ∃ k : Nat, 1 ≤ k ∧ k ≤ n ∧ i = .int .i64 k ∧ m = .int .i64 (M.topN (fun i => l.getD i 0) (k - 1))) (fun _ i => n - (intOf i).toNat)
  case atStart => exact ⟨1, Nat.le_refl _, h1, rfl, rfl⟩
  case round =>
    obtain ⟨k, hk1, hk, rfl, rfl⟩ := hrel
    by_cases hlt : k < n
    · have hki : (k : Int) < (n : Int) := by omega
      have hck := HC.out k hlt
      have HT : Hid (max (M.topN (fun i => l.getD i 0) (k - 1)) (l.getD k 0) = M.topN (fun i => l.getD i 0) (k + 1 - 1)) := by
        show _ = _
        obtain ⟨q, rfl⟩ : ∃ q, k = q + 1 := ⟨k - 1, by omega⟩
        rfl
      generalize M.topN (fun i => l.getD i 0) (k - 1) = y at HT ⊢
      generalize l.getD k 0 = x at HT hck
      go_wp2
      go_round
      case rel => exact ⟨k + 1, by omega, by omega, by go_num, by rw [← HT.out]; congr 1; split <;> omega⟩
      case measure => simp [intOf]; omega
    · obtain rfl : k = n := by omega
      go_wp2
      go_ret
      exact ⟨rfl, rfl⟩
end Go.Proofs.Ytcofjjipjcekjab.V

namespace Go.Proofs.Ytcofjjipjcekjab
namespace V
set_option maxRecDepth 100000
open Go.RowKit
theorem topN_max {f : Nat → Int} : ∀ m, (∀ i, i ≤ m → f i ≤ M.topN f m) ∧ ∃ i, i ≤ m ∧ f i = M.topN f m := by
  intro m
  induction m with
  | zero => exact ⟨fun i hi => by obtain rfl : i = 0 := by omega
                                  exact Int.le_refl _, 0, Nat.le_refl _, rfl⟩
  | succ m ih =>
    obtain ⟨h1, j, hj, h2⟩ := ih
    have e : M.topN f (m + 1) = max (M.topN f m) (f (m + 1)) := rfl
    rw [e]
    refine ⟨fun i hi => ?_, ?_⟩
    · by_cases q : i = m + 1
      · subst q; omega
      · have := h1 i (by omega); omega
    · rcases Int.le_total (M.topN f m) (f (m + 1)) with q | q
      · exact ⟨m + 1, Nat.le_refl _, by omega⟩
      · exact ⟨j, by omega, by omega⟩
theorem topN_maxL {l : List Int} {n : Nat} (h0 : l.length = n) (h1 : 1 ≤ n) (hv : ∀ i, i < n → -1000000000000000 ≤ l.getD i 0) : M.topN (fun i => l.getD i 0) (n - 1) = M.maxL l := by
  obtain ⟨a, j, hj, b⟩ := topN_max (f := fun i => l.getD i 0) (n - 1)
  have hge := M.maxL_ge (x := l) (i := j) (by omega)
  rcases M.maxL_mem l with e | ⟨i, hi, e⟩
  · have := hv j (by omega)
    have b' : l.getD j 0 = M.topN (fun i => l.getD i 0) (n - 1) := b
    omega
  · have := a i (by omega)
    have b' : l.getD j 0 = M.topN (fun i => l.getD i 0) (n - 1) := b
    have this : l.getD i 0 ≤ M.topN (fun i => l.getD i 0) (n - 1) := this
    omega
theorem flat_next {X : List (List Int)} {k : Nat} (hk : k < X.length) : (X.take (k + 1)).flatten = (X.take k).flatten ++ X.getD k [] := by
  rw [List.take_succ_eq_append_getElem hk, List.flatten_append]
  simp [hk]
def zE : Array Value := (List.replicate 101 (.int .i64 0)).toArray
theorem infoE : (Try.prog.info? 90).map (fun i => (i.zero, i.size)) = some (some (.agg zE), 101) := by kernel_rfl
theorem rep_at {α : Type} (v : α) (n t : Nat) (h : t < n) : (List.replicate n v).toArray[t]? = some v := by simp [h]
theorem zE_at {t : Nat} (h : t < 101) : zE[t]? = some (.int .i64 0) := rep_at _ 101 t h
theorem zE_size : zE.size = 101 := by unfold zE; rw [List.size_toArray, List.length_replicate]
/-- The cells of an element whose first k rows are filled. -/
def elC (X : List (List Int)) (L : Nat) (g : Int) (k : Nat) : List Value := (List.range 101).map fun t => if t = 100 then .int .i64 g else if t / 10 < k ∧ t % 10 < L then .int .i64 (M.times (M.ent X (t / 10) (t % 10)) (-g)) else .int .i64 0
theorem elC_len (X : List (List Int)) (L : Nat) (g : Int) (k : Nat) : (elC X L g k).length = 101 := by simp [elC]
theorem elC_at (X : List (List Int)) (L : Nat) (g : Int) (k : Nat) {t : Nat} (ht : t < 101) : (elC X L g k)[t]? = some (if t = 100 then .int .i64 g else if t / 10 < k ∧ t % 10 < L then .int .i64 (M.times (M.ent X (t / 10) (t % 10)) (-g)) else .int .i64 0) := by simp [elC, ht]
theorem elC_zero (X : List (List Int)) (L : Nat) (g : Int) : zE.setIfInBounds 100 (.int .i64 g) = (elC X L g 0).toArray := by
  apply Array.ext_getElem?
  intro t
  rw [Array.getElem?_setIfInBounds]
  by_cases ht : t < 101
  · rw [show (elC X L g 0).toArray[t]? = (elC X L g 0)[t]? from by simp, elC_at X L g 0 ht]
    by_cases e : t = 100
    · subst e; rw [if_pos rfl, if_pos rfl, zE_size]; rfl
    · have e2 : ¬ 100 = t := fun q => e q.symm
      rw [if_neg e2, if_neg e, zE_at ht]; simp
  · have e2 : ¬ 100 = t := by omega
    have h1 : (elC X L g 0).toArray[t]? = none := by simp [elC]; omega
    have h2 : zE[t]? = none := Array.getElem?_eq_none (by rw [zE_size]; omega)
    rw [h1, if_neg e2, h2]
theorem elC_next {X : List (List Int)} {L k : Nat} {g : Int} {r : List Int} (hk : k < 10) (hL : L ≤ 10) (hr : X.getD k [] = r) (hl : r.length = L) : splice (elC X L g k) (k * 10) ((M.shvL r (-g)).map (Value.int .i64)) = elC X L g (k + 1) := by
  have hsl : ((M.shvL r (-g)).map (Value.int .i64)).length = L := by rw [List.length_map, M.shv_len, hl]
  apply List.ext_getElem?
  intro t
  have hlen : (splice (elC X L g k) (k * 10) ((M.shvL r (-g)).map (Value.int .i64))).length = 101 := by rw [length_splice _ _ _ (by rw [hsl, elC_len]; omega), elC_len]
  by_cases ht : t < 101
  · rw [elC_at X L g (k + 1) ht]
    unfold splice
    by_cases h1 : t < k * 10
    · rw [List.getElem?_append_left (by rw [List.length_take, elC_len]; omega), List.getElem?_take_of_lt h1, elC_at X L g k ht]
      by_cases e : t = 100
      · omega
      · rw [if_neg e, if_neg e]
        have : t / 10 < k := by omega
        by_cases q : t % 10 < L
        · rw [if_pos ⟨this, q⟩, if_pos ⟨by omega, q⟩]
        · rw [if_neg (fun h => q h.2), if_neg (fun h => q h.2)]
    · rw [List.getElem?_append_right (by rw [List.length_take, elC_len]; omega), List.length_take, elC_len, Nat.min_eq_left (by omega)]
      by_cases h2 : t - k * 10 < L
      · rw [List.getElem?_append_left (by rw [hsl]; exact h2)]
        have e1 : t / 10 = k := by omega
        have e2 : t % 10 = t - k * 10 := by omega
        have e3 : t ≠ 100 := by omega
        rw [if_neg e3, if_pos ⟨by omega, by omega⟩, e1, e2, List.getElem?_map]
        have : (M.shvL r (-g))[t - k * 10]? = some (M.times (M.ent X k (t - k * 10)) (-g)) := by
          rw [List.getElem?_eq_getElem (by rw [M.shv_len]; omega)]
          congr 1
          have := M.shv_get (l := r) (g := -g) (i := t - k * 10) (by omega)
          rw [List.getD_eq_getElem?_getD, List.getElem?_eq_getElem (by rw [M.shv_len]; omega), Option.getD_some] at this
          rw [this]
          unfold M.ent
          rw [hr]
        rw [this]; rfl
      · rw [List.getElem?_append_right (by rw [hsl]; omega), hsl, List.getElem?_drop, show k * 10 + L + (t - k * 10 - L) = t by omega, elC_at X L g k ht]
        by_cases e : t = 100
        · rw [if_pos e, if_pos e]
        · rw [if_neg e, if_neg e]
          by_cases q : t / 10 < k ∧ t % 10 < L
          · omega
          · rw [if_neg q, if_neg]
            rintro ⟨q1, q2⟩
            omega
  · rw [List.getElem?_eq_none (by rw [hlen]; omega), List.getElem?_eq_none (by rw [elC_len]; omega)]
/-- An element's cells. -/
def elV (X : List (List Int)) : List Value := (M.patC X (M.maxL X.flatten)).map (Value.int .i64) ++ [.int .i64 (M.maxL X.flatten)]
theorem elV_eq {X : List (List Int)} {n L : Nat} (hr : X.length = n) (hw : M.wid X = L) : elC X L (M.maxL X.flatten) n = elV X := by
  unfold elV M.patC elC
  rw [show (101 : Nat) = 100 + 1 from rfl, List.range_succ, List.map_append, List.map_map]
  congr 1
  refine List.map_congr_left fun t ht => ?_
  have ht := List.mem_range.1 ht
  rw [if_neg (by omega), hr, hw]
  show _ = Value.int .i64 (if t / 10 < n ∧ t % 10 < L then _ else 0)
  split <;> rfl
theorem elV_len (X : List (List Int)) : (elV X).length = 101 := by simp [elV, M.patC_len]
theorem ints_one {l : List Int} : ∀ v ∈ l.map (Value.int .i64), v.oneCell' = true := fun v hv => by
  obtain ⟨x, -, rfl⟩ := List.mem_map.1 hv; rfl
theorem elC_one {X : List (List Int)} {L : Nat} {g : Int} {k : Nat} : ∀ v ∈ elC X L g k, v.oneCell' = true := fun v hv => by
  obtain ⟨t, -, rfl⟩ := List.mem_map.1 hv
  split
  · rfl
  · split <;> rfl
theorem range_of {w : World} {b : Nat} {cs : List Value} {t : TypeId} (hb : w.heap[b]? = some (.cells cs.toArray t (0, 0))) : w.rangeAt b 0 cs := fun j v hv => by
  rw [Nat.zero_add, cell_of_row w b j _ t _ hb]
  simpa using hv
theorem there_of {w : World} {b n : Nat} {c : Array Value} {t : TypeId} (hb : w.heap[b]? = some (.cells c t (0, 0))) (hn : c.size = n) : w.there b 0 n := fun j hj => by
  refine ⟨?_, ?_⟩
  · rw [cell_of_row w b _ _ t _ hb]
    simp
    omega
  · simp [World.frozen?, hb]
theorem ints_src {w : World} {a : Option Addr} {n : Nat} {l : List Int} (h : Ints .i64 w a n l) (h1 : 1 ≤ n) : ∃ ad, a = some ad ∧ ∀ j v, (l.map (Value.int .i64))[j]? = some v → w.cell? (ad.add j) = some v := by
  obtain ⟨hl, -, hc⟩ := h
  rcases hc with e | ⟨b, off, rfl, -, hc⟩
  · omega
  · refine ⟨_, rfl, fun j v hv => ?_⟩
    have hadd : (⟨b, off, none⟩ : Addr).add j = ⟨b, off + j, none⟩ := by unfold Addr.add; split <;> simp_all
    have hj : j < l.length := by
      by_cases q : j < l.length
      · exact q
      · rw [List.getElem?_eq_none (by simp; omega)] at hv; cases hv
    rw [hadd, hc j (by omega)]
    rw [List.getElem?_map, List.getElem?_eq_getElem hj] at hv
    rw [List.getD_eq_getElem?_getD, List.getElem?_eq_getElem hj]
    exact hv
set_option maxRecDepth 100000 in
set_option maxHeartbeats 1000000 in
theorem elementOf (a : Option Addr) (n cap L : Nat) (X : List (List Int)) (w : World) (h : Mat w a n X) (hr : Rect X n L) (n1 : 1 ≤ n) (n2 : n ≤ 10) (l1 : 1 ≤ L) (l2 : L ≤ 10) (hv : ∀ i j, i < n → j < L → M.isVal (M.ent X i j) = true) :
    Calls Try.prog 118 #[.slice a n cap] w fun e w' => e = .returned (.agg (elV X).toArray) ∧ Below w.heap.size w w' := by
  obtain ⟨hz, hs⟩ := zero_of_info infoE
  have HA := Lib.hid h
  have HR := Lib.hid hr
  have HTop : Hid (∀ k, k < n → M.topN (fun i => (X.getD k []).getD i 0) (L - 1) = M.maxL (X.getD k [])) := fun k hk => topN_maxL (hr.2 k hk) l1 fun i hi => by
    have := M.isVal_t (hv k i hk hi)
    unfold M.ent at this
    omega
  have HNx : Hid (∀ k, k < n → max (M.maxL (X.take k).flatten) (M.maxL (X.getD k [])) = M.maxL (X.take (k + 1)).flatten) := fun k hk => by rw [flat_next (by rw [h.1]; exact hk), M.maxL_app]
  have HTa : Hid (X.take n = X) := List.take_of_length_le (by rw [h.1]; exact Nat.le_refl _)
  have HVl : Hid (∀ k i, k < n → i < L → Wid ((X.getD k []).getD i 0)) := fun k i hk hi => wid_val (hv k i hk hi)
  have HG : Hid (Wid (-(M.maxL X.flatten))) := by
    have hm : M.isMat X = true := by
      refine M.isMat_of (by rw [h.1]; exact n1) (by rw [h.1]; exact n2) (by rw [hr.wid n1]; exact l1) (by rw [hr.wid n1]; exact l2) (fun i hi => by rw [hr.wid n1]; exact hr.2 i (by rw [← h.1]; exact hi)) fun i hi j hj => hv i j (by rw [← h.1]; exact hi) (by rw [hr.wid n1] at hj; exact hj)
    have := M.isVal_t (M.maxL_vals (M.flat_vals hm))
    show Wid _
    unfold Wid; omega
  have HEl : Hid (elC X L (M.maxL X.flatten) n = elV X) := elV_eq h.1 (hr.wid n1)
  clear h hr hv
  go_enter Try.func118, Try.ntmps118
  go_wp2
  go_loopw [3, 5, 11] (fun gv _ kv wr => ∃ k : Nat, k ≤ n ∧ kv = .int .i64 k ∧ gv = .int .i64 (M.maxL (X.take k).flatten) ∧ wr = w.alloc (.cells zE 90)) (fun _ _ kv _ => n - (intOf kv).toNat)
  case atStart => exact ⟨0, Nat.zero_le _, rfl, rfl, rfl⟩
  case round =>
    obtain ⟨k, hk, rfl, rfl, rfl⟩ := hrel
    by_cases hlt : k < n
    · have hki : (k : Int) < (n : Int) := by omega
      obtain ⟨ab, ao, ra, rc, rfl, -, hcr, hIr⟩ := (HA.out.below (b_alloc w (.cells zE 90))).rect_at HR.out k hlt
      obtain ⟨r, hr⟩ : ∃ r, r = X.getD k [] := ⟨_, rfl⟩
      have hN := HNx.out k hlt
      have hT := HTop.out k hlt
      rw [← hr] at hIr hN hT
      rw [M.ifmax] at hN
      have HIr := Lib.hid hIr
      have HN := Lib.hid hN
      have HT := Lib.hid hT
      clear hIr hN hT hr
      go_wp2_with (go_at_call 124; refine (slicesMax _ _ _ r _ HIr.out l1).mono ?_; rintro e w' ⟨rfl, rfl⟩; rw [HT.out])
      go_roundw
      case rel => exact ⟨k + 1, by omega, by go_num, congrArg (Value.int .i64) HN.out, by first | rfl | trivial⟩
      case measure => simp [intOf]; omega
    · obtain rfl : k = n := by omega
      have HTb := HTa.out
      rw [HTb]
      clear HTb
      obtain ⟨g, hg⟩ : ∃ g, g = M.maxL X.flatten := ⟨_, rfl⟩
      rw [← hg] at HG HEl ⊢
      clear hg
      have hst : (storeCells ⟨w.heap.size + 1, 0, none⟩ (zE.toList.set 100 (.int .i64 g))).run Try.prog ((w.alloc (.cells zE 90)).alloc (.cells zE 90)) = .ok () ((w.alloc (.cells zE 90)).alloc (.cells (elC X L g 0).toArray 90)) := by
        have := run_storeCells_new (P := Try.prog) (w.alloc (.cells zE 90)) 90 zE (zE.setIfInBounds 100 (.int .i64 g)) (by rw [hs, Array.size_setIfInBounds, zE_size]) (by rw [Array.size_setIfInBounds]) (by rw [elC_zero X L g]; exact all_oneCell_toArray elC_one)
        rw [elC_zero X L g] at this
        have e : (elC X L g 0).toArray.toList = zE.toList.set 100 (.int .i64 g) := by rw [← elC_zero X L g, Array.toList_setIfInBounds]
        rw [e] at this
        simpa using this
      obtain ⟨wk, hwk⟩ : ∃ x, x = (w.alloc (.cells zE 90)).alloc (.cells (elC X L g 0).toArray 90) := ⟨_, rfl⟩
      have he1 : (w.alloc (.cells zE 90)).heap.size = w.heap.size + 1 := by simp
      have HK0 : Hid (wk.heap[w.heap.size]? = some (.cells zE 90 (0, 0))) := by show _ = _; rw [hwk, Below.heap_alloc _ _ _ (by rw [he1]; omega)]; exact heap_alloc_last _ _
      have HK1 : Hid (wk.heap[w.heap.size + 1]? = some (.cells (elC X L g 0).toArray 90 (0, 0))) := by show _ = _; rw [hwk, ← he1]; exact heap_alloc_last _ _
      have HKB : Hid (Below w.heap.size w wk) := by show Below _ _ _; rw [hwk]; exact b_alloc2 _ _ _
      have HKz : Hid (wk.heap.size = w.heap.size + 2) := by show _ = _; rw [hwk]; simp
      rw [← hwk] at hst
      clear hwk HTop HNx HTa he1
      go_wp2
      clear hst
      have HS1 : Hid ((Try.prog.info? 2).map (·.size) = some 1) := by show _ = _; kernel_rfl
      go_loopw [7, 8, 24] (fun _ _ kv wr => ∃ j : Nat, j ≤ k ∧ kv = .int .i64 j ∧ Hid (wr.heap[w.heap.size]? = some (.cells zE 90 (0, 0))) ∧ Hid (wr.heap[w.heap.size + 1]? = some (.cells (elC X L g j).toArray 90 (0, 0))) ∧ Hid (Below w.heap.size w wr) ∧ w.heap.size + 2 ≤ wr.heap.size) (fun _ _ kv _ => k - (intOf kv).toNat)
      case atStart => exact ⟨0, Nat.zero_le _, rfl, HK0, HK1, HKB, by have := HKz.out; omega⟩
      case round =>
        obtain ⟨j, hj, rfl, H0, H1, HB, hsz⟩ := hrel
        obtain ⟨wo, rfl⟩ : ∃ x, x = wr := ⟨_, rfl⟩
        clear HK0 HK1 HKB HKz
        by_cases hjl : j < k
        · have hji : (j : Int) < (k : Int) := by omega
          have hj10 : (j : Int) < 10 := by omega
          obtain ⟨ab, ao, ra, rc, rfl, -, hcr, hIr⟩ := (HA.out.below HB.out).rect_at HR.out j hjl
          have HIr := Lib.hid hIr
          have HW := Lib.hid (fun i hi => HVl.out j i hjl hi)
          have hwg : IntKind.i64.wrap (-g) = -g := by have := HG.out; unfold Wid at this; exact IntWalk.i64_in _ (by omega)
          obtain ⟨r, hr⟩ : ∃ r, r = X.getD j [] := ⟨_, rfl⟩
          have HNe := Lib.hid (elC_next (X := X) (L := L) (k := j) (g := g) (r := r) (by omega) l2 hr.symm (by rw [hr]; exact HR.out.2 j hjl))
          have HRl : Hid (((M.shvL r (-g)).map (Value.int .i64)).length = L) := by show _ = _; rw [List.length_map, M.shv_len, hr]; exact HR.out.2 j hjl
          rw [← hr] at HIr HW
          clear hIr hr
          go_wp2
          go_region_law (first
            | (go_simp; go_at_call 72; refine (shiftedList ra L rc r (-g) _ (HIr.out.below (Below.refl _ _).drew) (by omega) HW.out HG.out).mono ?_; rintro e w3 ⟨b3, rfl, ho3, hb3⟩; have HO3 := Lib.hid ho3; have HB3 := Lib.hid hb3; have HH1 := Lib.hid ((hb3.block (w.heap.size + 1) (by show _ < wo.heap.size; omega)).trans H1.out); have HH0 := Lib.hid ((hb3.block w.heap.size (by show _ < wo.heap.size; omega)).trans H0.out); clear ho3 hb3)
            | (refine step_copy_splice rfl (.tmp 32) (.tmp 36) 25 25 rfl 2 Try.underlying25 HS1.out (some ⟨w.heap.size + 1, j * 10, none⟩) b3 10 10 L L (by go_simp) (by go_simp) (w.heap.size + 1) (j * 10) (elC X L g j) 90 HH1.out ((M.shvL r (-g)).map (Value.int .i64)) (by rw [HRl.out]; exact (Nat.min_eq_left l2).symm) ?hpos (by rw [HRl.out, elC_len]; omega) ints_one (w.heap.size + 1) wo ?hb (Nat.le_refl _) ?_; (case hpos => intro hp; exact ⟨rfl, ints_src HO3.out.ints' l1⟩); (case hb => exact ((Below.refl _ wo).drew.trans (HB3.out.mono (by show _ ≤ wo.heap.size; omega)))); intro w4 hg4 hb4))
          go_wp2
          go_roundw
          case rel => exact ⟨j + 1, by omega, by go_num, Lib.hid ((hb4.block w.heap.size (by omega)).trans H0.out), Lib.hid (by rw [← HNe.out]; exact hg4.out), Lib.hid ((HB.out.trans (hb4.mono (by omega)))), by have := hb4.size; omega⟩
          case measure => simp [intOf]; omega
        · obtain rfl : j = k := by omega
          have H1' : Hid (wo.heap[w.heap.size + 1]? = some (.cells (elV X).toArray 90 (0, 0))) := by show _ = _; rw [← HEl.out]; exact H1.out
          have HO1 : (elV X).toArray.all (·.oneCell') = true := all_oneCell_toArray (by rw [← HEl.out]; exact elC_one)
          have HS2 := Lib.hid hs
          obtain ⟨wf, hwf⟩ : ∃ x, x = wo.setRow w.heap.size (elV X).toArray := ⟨_, rfl⟩
          have hst2 : (storeCells ⟨w.heap.size, 0, none⟩ (elV X)).run Try.prog wo = .ok () wf := by
            have := run_storeVar_row (P := Try.prog) wo w.heap.size 90 90 zE (elV X).toArray H0.out (by rw [hs, List.size_toArray, elV_len]) (by rw [zE_size, List.size_toArray, elV_len]) HO1
            cases hq : Try.prog.info? 90 with
            | none => simp [hq] at hs
            | some i =>
              have hs' : (elV X).toArray.size = i.size := by simp [hq] at hs; rw [List.size_toArray, elV_len]; omega
              have hs'' : (elV X).length = i.size := by rw [← hs', List.size_toArray]
              rw [hwf]
              simpa [storeVar, sizeOf, typeInfo, hq, Value.cells, hs', hs''] using this
          have HF : Hid (wf.heap[w.heap.size]? = some (.cells (elV X).toArray 90 (0, 0))) := Lib.hid (by rw [hwf]; exact setRow_heap wo w.heap.size _ _ _ _ H0.out)
          have HFB : Hid (Below w.heap.size w wf) := Lib.hid (by rw [hwf]; exact below_setRow HB.out (Nat.le_refl _) _)
          clear hs hz hwf HO1
          go_wp2
          refine wp_load_mid 90 (.tmp 6) rfl (w.heap.size + 1) 0 (by go_simp) (elV X) _ (range_of H1'.out) Try.underlying90 rfl (by rw [HS2.out, elV_len]) ?_
          go_wp2
          exact bodyPost_ret (v := .agg (elV X).toArray) (results_cell_row (p := 2) (ty := 90) rfl _ wf w.heap.size 90 (elV X).toArray (0, 0) _ rfl HF.out Try.underlying90 rfl (by rw [HS2.out, List.size_toArray, elV_len])) rfl ⟨rfl, HFB.out⟩
end V
end Go.Proofs.Ytcofjjipjcekjab

namespace Go.Proofs.Ytcofjjipjcekjab.V
open Go.RowKit
/-- An owned matrix all of whose blocks have the property P. -/
def OwnP (w : World) (B : Nat) (P : Nat → Prop) (v : Value) (R : List (List Int)) : Prop :=
  ∃ V, OwnV w B v R V ∧ (∀ k, v.ownBlock = some k → P k) ∧ ∀ i, i < R.length → ∀ k, (V.getD i (.slice none 0 0)).ownBlock = some k → P k
theorem OwnP.toM {w : World} {B : Nat} {P : Nat → Prop} {v : Value} {R : List (List Int)} (h : OwnP w B P v R) : OwnM w B v R := by
  obtain ⟨V, h, -⟩ := h
  exact ⟨V, h⟩
theorem OwnM.toP {w : World} {B : Nat} {P : Nat → Prop} {v : Value} {R : List (List Int)} (h : OwnM w B v R) (hP : ∀ k, B ≤ k → k < w.heap.size → P k) : OwnP w B P v R := by
  obtain ⟨V, h⟩ := h
  refine ⟨V, h, fun k hk => ?_, fun i hi k hk => ?_⟩
  · have := own_lt h.2.1 hk; exact hP k this.1 this.2
  · have := own_lt (h.2.2.1 i hi) hk; exact hP k this.1 this.2
theorem OwnP.imp {w : World} {B : Nat} {P Q : Nat → Prop} {v : Value} {R : List (List Int)} (h : OwnP w B P v R) (hP : ∀ k, P k → Q k) : OwnP w B Q v R := by
  obtain ⟨V, h, h1, h2⟩ := h
  exact ⟨V, h, fun k hk => hP k (h1 k hk), fun i hi k hk => hP k (h2 i hi k hk)⟩
theorem OwnP.mono {w : World} {B B' : Nat} {P : Nat → Prop} {v : Value} {R : List (List Int)} (h : OwnP w B P v R) (hb : B' ≤ B) : OwnP w B' P v R := by
  obtain ⟨V, ⟨h1, h2, h3, h4, h5⟩, k1, k2⟩ := h
  exact ⟨V, ⟨h1, World.ownsRow.mono h2 hb, fun i hi => (h3 i hi).mono hb, h4, h5⟩, k1, k2⟩
theorem OwnP.keep {w w' : World} {B : Nat} {P : Nat → Prop} {v : Value} {R : List (List Int)} (h : OwnP w B P v R) (hk : ∀ k, P k → B ≤ k → k < w.heap.size → w'.heap[k]? = w.heap[k]?) : OwnP w' B P v R := by
  obtain ⟨V, ⟨h1, h2, h3, h4, h5⟩, k1, k2⟩ := h
  exact ⟨V, ⟨h1, ownsRow_keep h2 (fun k hv => hk k (k1 k hv) (own_lt h2 hv).1 (own_lt h2 hv).2), fun i hi => ownsRow_keep (h3 i hi) (fun k hv => hk k (k2 i hi k hv) (own_lt (h3 i hi) hv).1 (own_lt (h3 i hi) hv).2), h4, h5⟩, k1, k2⟩
theorem OwnP.below {w w' : World} {B : Nat} {P : Nat → Prop} {v : Value} {R : List (List Int)} (h : OwnP w B P v R) (hb : Below w.heap.size w w') : OwnP w' B P v R :=
  h.keep (fun k _ _ h2 => hb.block k h2)
theorem OwnV.at {w : World} {B n cap : Nat} {a : Option Addr} {R : List (List Int)} {V : List Value} (h : OwnV w B (.slice a n cap) R V) (i j : Nat) (hi : i < n) (hj : j < (R.getD i []).length) :
    ∃ g q L c x, a = some ⟨g, 0, none⟩ ∧ B ≤ g ∧ B ≤ q ∧ L = (R.getD i []).length ∧ x = (R.getD i []).getD j 0 ∧ w.cell? ⟨g, i, none⟩ = some (.slice (some ⟨q, 0, none⟩) L c) ∧ w.cell? ⟨q, j, none⟩ = some (.int .i64 x) ∧ w.frozen? ⟨q, j, none⟩ = false ∧
      (V.getD i (.slice none 0 0)).ownBlock = some q ∧ ∀ y, OwnV (w.setCell ⟨q, j, none⟩ (.int .i64 y)) B (.slice a n cap) (R.set i ((R.getD i []).set j y)) V := by
  obtain ⟨h1, h2, h3, h4, h5⟩ := h
  obtain ⟨a', c', hv, hc, hm, hg⟩ := own_form h2
  injection hv with e1 e2 e3
  subst e1 e2 e3
  obtain ⟨g, rfl, hBg, hlt⟩ := hg (by omega)
  have hrow := h3 i hi
  obtain ⟨ra, rc, hrv, hrc, hrm, hrg⟩ := own_form hrow
  obtain ⟨q, rfl, hBq, hqlt⟩ := hrg (by omega)
  have hcell := World.ownsRow.cellAt h2 i (by omega)
  have hVi : V[i]? = some (V.getD i (.slice none 0 0)) := by simp [h1, hi]
  have hrow' := hrow
  rw [hrv] at hrow'
  have hcell2 := World.ownsRow.cellAt hrow' j (by omega)
  refine ⟨g, q, _, rc, _, rfl, hBg, hBq, rfl, rfl, ?_, ?_, World.ownsRow.frozenAt hrow' j, by rw [hrv]; rfl, fun y => ?_⟩
  · rw [hcell, hVi, hrv]
  · rw [hcell2]
    generalize R.getD i [] = l at hj
    simp [hj]
  · have hqg : q ≠ g := fun e => h4 i hi q (by rw [hrv]; rfl) (by rw [e]; rfl)
    refine ⟨by simpa using h1, ?_, ?_, ?_, ?_⟩
    · rw [List.length_set]
      exact ownsRow_keep h2 (fun k hv => Below.heap_setCell _ _ _ _ (by
        simp only [Value.ownBlock, Option.some.injEq] at hv; show k ≠ q; omega))
    · intro t ht
      simp only [List.length_set] at ht
      rw [getD_set _ _ _ _ _ (by omega)]
      by_cases e : t = i
      · subst e
        rw [if_pos rfl, hrv]
        exact Own.set hrow' j y
      · rw [if_neg e]
        refine ownsRow_keep (h3 t ht) (fun k hv => Below.heap_setCell _ _ _ _ ?_)
        show k ≠ q
        intro e2
        subst e2
        exact h5 t i ht hi e k hv (by rw [hrv]; rfl)
    · intro t ht
      simp only [List.length_set] at ht
      exact h4 t ht
    · intro t s ht hs
      simp only [List.length_set] at ht hs
      exact h5 t s ht hs

/-- What is needed to read and to write the entry at i, j. -/
theorem OwnP.at {w : World} {B n cap : Nat} {P : Nat → Prop} {a : Option Addr} {R : List (List Int)} (h : OwnP w B P (.slice a n cap) R) (i j : Nat) (hi : i < n) (hj : j < (R.getD i []).length) :
    ∃ g q L c x, a = some ⟨g, 0, none⟩ ∧ B ≤ g ∧ B ≤ q ∧ P q ∧ L = (R.getD i []).length ∧ x = (R.getD i []).getD j 0 ∧ w.cell? ⟨g, i, none⟩ = some (.slice (some ⟨q, 0, none⟩) L c) ∧ w.cell? ⟨q, j, none⟩ = some (.int .i64 x) ∧ w.frozen? ⟨q, j, none⟩ = false ∧
      ∀ y, OwnP (w.setCell ⟨q, j, none⟩ (.int .i64 y)) B P (.slice a n cap) (R.set i ((R.getD i []).set j y)) := by
  have hn := (OwnP.toM h).len
  obtain ⟨V, h, k1, k2⟩ := h
  obtain ⟨g, q, L, c, x, e1, e2, e3, e4, e5, c1, c2, f, hq, ho⟩ := h.at i j hi hj
  exact ⟨g, q, L, c, x, e1, e2, e3, k2 i (by omega) q hq, e4, e5, c1, c2, f, fun y => ⟨V, ho y, k1, fun i hi => k2 i (by simpa using hi)⟩⟩
theorem OwnV.snocV {w w1 w2 : World} {B q : Nat} {v v' rv : Value} {R : List (List Int)} {V : List Value} {l : List Int} (h : OwnV w B v R V) (hb : Below w.heap.size w w1) (hB : B ≤ w.heap.size) (ho : Own w1 w.heap.size rv l)
    (hw2 : w2.ownsRow B 25 1 v' (R.length + 1) (V ++ [rv])) (hg : ∀ k, k < w1.heap.size → v.ownBlock ≠ some k → w2.heap[k]? = w1.heap[k]?)
    (hvb : v'.ownBlock = v.ownBlock ∨ v'.ownBlock = some q) (hq : w1.heap.size ≤ q) : OwnV w2 B v' (R ++ [l]) (V ++ [rv]) := by
  obtain ⟨h1, h2, h3, h4, h5⟩ := h
  have eV : ∀ j, j < R.length → (V ++ [rv]).getD j (.slice none 0 0) = V.getD j (.slice none 0 0) := fun j hj => by
    simp [List.getD_eq_getElem?_getD, List.getElem?_append_left, h1, hj]
  have eV1 : (V ++ [rv]).getD R.length (.slice none 0 0) = rv := by
    simp [List.getD_eq_getElem?_getD, ← h1]
  have eR : ∀ j, j < R.length → (R ++ [l]).getD j [] = R.getD j [] := fun j hj => by
    simp [List.getD_eq_getElem?_getD, List.getElem?_append_left, hj]
  have eR1 : (R ++ [l]).getD R.length [] = l := by
    simp [List.getD_eq_getElem?_getD]
  have hold : ∀ j, j < R.length → ∀ k, (V.getD j (.slice none 0 0)).ownBlock = some k → k < w.heap.size := fun j hj k hk => (own_lt (h3 j hj) hk).2
  have hvn : ∀ k, k < w1.heap.size → v.ownBlock ≠ some k → v'.ownBlock ≠ some k := fun k hk hne => by
    rcases hvb with e | e
    · rw [e]; exact hne
    · rw [e]; intro e2; simp only [Option.some.injEq] at e2; omega
  have hvold : ∀ k, v.ownBlock = some k → k < w.heap.size := fun k hk => (own_lt h2 hk).2
  have hs := hb.size
  refine ⟨by simp [h1], by simpa using hw2, ?_, ?_, ?_⟩
  · intro j hj
    simp only [List.length_append, List.length_singleton] at hj
    by_cases e : j < R.length
    · rw [eV j e, eR j e]
      exact ownsRow_keep (h3 j e) (fun k hv => by
        have := hold j e k hv
        rw [hg k (by omega) (h4 j e k hv)]; exact hb.block k this)
    · obtain rfl : j = R.length := by omega
      rw [eV1, eR1]
      refine (ownsRow_keep ho (fun k hv => hg k (own_lt ho hv).2 (fun e2 => ?_)) : Own _ _ _ _).mono hB
      have := (own_lt ho hv).1
      have := hvold k e2
      omega
  · intro j hj k hk
    simp only [List.length_append, List.length_singleton] at hj
    by_cases e : j < R.length
    · rw [eV j e] at hk
      have := hold j e k hk
      exact hvn k (by omega) (h4 j e k hk)
    · obtain rfl : j = R.length := by omega
      rw [eV1] at hk
      have := own_lt ho hk
      exact hvn k this.2 (fun e2 => by have := hvold k e2; omega)
  · intro i j hi hj hne k hk
    simp only [List.length_append, List.length_singleton] at hi hj
    by_cases e : i < R.length
    · rw [eV i e] at hk
      by_cases e2 : j < R.length
      · rw [eV j e2]; exact h5 i j e e2 hne k hk
      · obtain rfl : j = R.length := by omega
        rw [eV1]
        intro e3
        have := hold i e k hk
        have := (own_lt ho e3).1
        omega
    · obtain rfl : i = R.length := by omega
      rw [eV1] at hk
      have e2 : j < R.length := by omega
      rw [eV j e2]
      intro e3
      have := hold j e2 k e3
      have := (own_lt ho hk).1
      omega
/-- A row of its own is appended, at a step of a region. -/
theorem step_appendRowP (w0 w : World) {ops : Array Oper} {o : Oper} {a : Act} {K : Act → World → Prop} {Q : Exit → Act → World → Prop} {E : Prop} (hgd : o.guard = none) (s x : Operand)
    (ho : o.op = .call { callee := .builtin .append, args := #[s, x], argTypes := #[24, 24] }) (B : Nat) (P : Nat → Prop) (v rv : Value) (R : List (List Int)) (l : List Int) (n g : Nat) (hn : R.length = n) (hs : a.eval s = v) (hown : OwnP w0 B P v R) (hb : Below w0.heap.size w0 w) (hro : Own w w0.heap.size rv l)
    (hx : a.eval x = .slice (some ⟨g, 0, none⟩) 1 1) (hy : w.cell? ⟨g, 0, none⟩ = some rv) (hlen : n ≤ 2000000) (hB : B ≤ w0.heap.size) (hP : ∀ k, w0.heap.size ≤ k → P k)
    (h : ∀ b' c' w', OwnP w' B P (.slice b' (n + 1) c') (R ++ [l]) → Below B w w' → (∀ k, k < w.heap.size → v.ownBlock ≠ some k → w'.heap[k]? = w.heap[k]?) → K (a.put o.dst (.slice b' (n + 1) c')) w') :
    if Region.wanted o (yielded ops a.tmps) = true then Oper.wp Try.prog o a w K Q else E := by
  subst hn
  obtain ⟨i0, hi, hz0, hz1, hz2⟩ := info_parts infoS64
  have hsz := hb.size
  obtain ⟨V, ⟨h1, h2, h3⟩, k1, k2⟩ := hown
  have hwV : w.ownsRow B 25 1 v R.length V := ownsRow_keep h2 (fun k hv => hb.block k (own_lt h2 hv).2)
  refine step_append_lies w hgd s x 24 ho B 25 i0 (.slice none 0 0) 1 24 Try.underlying24 hi hz0 hz1 hz2 rfl (by decide) v R.length V hs hwV ⟨g, 0, none⟩ 1 1 [rv] hx rfl ?c1 ?c2 (by decide) ?c3 ?c4 (Nat.le_trans hB hsz) w.heap.size rfl ?_
  case c1 =>
    intro j u hj
    have : j = 0 := by
      cases j with
      | zero => rfl
      | succ j => simp at hj
    subst this
    simp at hj
    subst hj
    exact hy
  case c2 =>
    intro u hu; simp at hu; subst hu
    obtain ⟨b', c', hv', _⟩ := own_form hro
    rw [hv']; rfl
  case c3 => unfold maxLen; omega
  case c4 => omega
  · intro g' cap' w' hown' hgrow hat hlt
    have hg : ∀ k, k < w.heap.size → v.ownBlock ≠ some k → w'.heap[k]? = w.heap[k]? := fun k hk hne => by
      obtain ⟨_, _, _, _, g5⟩ := hgrow
      exact g5 k hk (fun e => hne e.symm)
    have hV := OwnV.snocV (q := w.heap.size) (v' := .slice (some ⟨g', 0, none⟩) (R.length + 1) cap') ⟨h1, h2, h3⟩ hb hB hro hown' hg (by
      rcases hat with e | e
      · left; rw [e]; rfl
      · right; rw [e]; rfl) (Nat.le_refl _)
    refine h _ _ w' ⟨V ++ [rv], hV, fun k hk => ?_, fun i hi k hk => ?_⟩ ((Below.refl B w).grown hgrow (Nat.le_trans hB hsz) (fun k hk => (own_lt h2 hk).1)) hg
    · have hk' : g' = k := by simpa [Value.ownBlock] using hk
      subst hk'
      rcases hat with e | e
      · exact k1 _ e
      · exact hP _ (by omega)
    · have hlen : V.length = R.length := h1
      simp only [List.length_append, List.length_singleton] at hi
      by_cases q : i < R.length
      · rw [List.getD_eq_getElem?_getD, List.getElem?_append_left (by omega), ← List.getD_eq_getElem?_getD] at hk
        exact k2 i q k hk
      · obtain rfl : i = V.length := by omega
        have e : (V ++ [rv]).getD V.length (.slice none 0 0) = rv := by simp [List.getD_eq_getElem?_getD]
        rw [e] at hk
        exact hP k (own_lt hro hk).1
end Go.Proofs.Ytcofjjipjcekjab.V

namespace Go.Proofs.Ytcofjjipjcekjab
namespace M
theorem orbL_one (R : List (List Int)) (x : List Int) : orbL R x 1 = [x] := rfl
theorem orbRes_ok (R : List (List Int)) (x : List Int) (n : Int) : pre (orbRes R x n).1 (orbRes R x n).1.length ≤ 2000 ∧ (orbRes R x n).1.length ≤ 101 := by
  unfold orbRes
  split
  · next h =>
    obtain ⟨hs, hx, hl⟩ := orbCode_t h
    split
    · next h2 =>
      split
      · refine ⟨?_, by rw [orbL_len]; omega⟩
        have hv := (isVec_t hx).2.1
        have : ∀ k, pre (orbL R x (n.toNat + 1)) k ≤ 10 * k := by
          intro k
          unfold pre
          induction k with
          | zero => simp
          | succ k ih =>
            by_cases q : k < (orbL R x (n.toNat + 1)).length
            · rw [List.take_succ_eq_append_getElem q, List.map_append, List.sum_append]
              have hk : k < n.toNat + 1 := by rw [orbL_len] at q; exact q
              have : (orbL R x (n.toNat + 1))[k].length ≤ 10 := by
                have e : (orbL R x (n.toNat + 1))[k] = orb R x k := by
                  have := orbL_get (R := R) (x := x) hk
                  rw [List.getD_eq_getElem?_getD, List.getElem?_eq_getElem q] at this
                  exact this
                rw [e, orb_len hl]; omega
              simp only [List.map_cons, List.map_nil, List.sum_cons, List.sum_nil]
              omega
            · rw [List.take_of_length_le (by omega)]
              rw [List.take_of_length_le (by omega)] at ih
              omega
        have := this (orbL R x (n.toNat + 1)).length
        show pre (orbL R x (n.toNat + 1)) (orbL R x (n.toNat + 1)).length ≤ 2000
        rw [orbL_len] at this ⊢
        omega
      · simp [pre]
    · simp [pre]
  · simp [pre]
end M
namespace V
set_option maxRecDepth 100000
open Go.RowKit
theorem sq_parts7 {w : World} {a : Option Addr} {n : Nat} {R : List (List Int)} (h : Mat w a n R) (hs : M.sqB R = true) : Rect R n n ∧ 1 ≤ n ∧ n ≤ 10 ∧ ∀ i j, i < n → j < n → M.Sm 1000000 (M.ent R i j) := by
  have hq := sq_of h hs
  have e := (M.sq_sm hs).2.2
  rw [h.1] at e
  exact ⟨hq.2.1, hq.2.2.2.1, hq.2.2.2.2, e⟩
set_option maxRecDepth 100000 in
set_option maxHeartbeats 400000 in
theorem orbitCode (a : Option Addr) (n cap : Nat) (R : List (List Int)) (a' : Option Addr) (N cap' : Nat) (l : List Int) (w : World) (h : Mat w a n R) (h' : Ints .i64 w a' N l) :
    Calls Try.prog 55 #[.slice a n cap, .slice a' N cap'] w fun e w' => e = .returned (.int .i64 (M.orbCode R l)) ∧ w = w' := by
  have HA := Lib.hid h
  have HI := Lib.hid h'
  have hRn : R.length = n := h.1
  have hln : l.length = N := h'.1
  obtain ⟨v1, hv1⟩ : ∃ v, v = M.sqB R := ⟨_, rfl⟩
  have HV1 := Lib.hid hv1.symm
  cases v1 with
  | false =>
    have HE : Hid (M.orbCode R l = 1) := by show _ = _; unfold M.orbCode; rw [← hv1]; rfl
    clear h h' hv1 hRn hln
    go_enter Try.func55, Try.ntmps55
    go_wp2_with (go_at_call 78; refine (isSquare_b _ _ _ R _ false HV1.out HA.out).mono ?_; rintro e w' ⟨rfl, rfl⟩)
    go_ret
    rw [HE.out]
    exact ⟨rfl, rfl⟩
  | true =>
    obtain ⟨v2, hv2⟩ : ∃ v, v = M.isVec l := ⟨_, rfl⟩
    have HV2 := Lib.hid hv2.symm
    cases v2 with
    | false =>
      have HE : Hid (M.orbCode R l = 1) := by show _ = _; unfold M.orbCode; rw [← hv1, ← hv2]; rfl
      clear h h' hv1 hv2 hRn hln
      go_enter Try.func55, Try.ntmps55
      go_wp2_with (first | (go_at_call 78; refine (isSquare_b _ _ _ R _ true HV1.out HA.out).mono ?_; rintro e w' ⟨rfl, rfl⟩) | (go_at_call 58; refine (isVector_b _ _ _ l _ false HV2.out HI.out).mono ?_; rintro e w' ⟨rfl, rfl⟩))
      go_ret
      rw [HE.out]
      exact ⟨rfl, rfl⟩
    | true =>
      by_cases hl : N = n
      · subst hl
        have HE : Hid (M.orbCode R l = 0) := by show _ = _; unfold M.orbCode; rw [← hv1, ← hv2, if_pos (by rfl), if_pos (by omega)]
        clear h h' hv1 hv2 hRn hln
        go_enter Try.func55, Try.ntmps55
        go_wp2_with (first | (go_at_call 78; refine (isSquare_b _ _ _ R _ true HV1.out HA.out).mono ?_; rintro e w' ⟨rfl, rfl⟩) | (go_at_call 58; refine (isVector_b _ _ _ l _ true HV2.out HI.out).mono ?_; rintro e w' ⟨rfl, rfl⟩))
        go_ret
        rw [HE.out]
        exact ⟨rfl, rfl⟩
      · have HE : Hid (M.orbCode R l = 5) := by show _ = _; unfold M.orbCode; rw [← hv1, ← hv2, if_pos (by rfl), if_neg (by omega)]
        have hne : ((N : Int) != (n : Int)) = true := by simp; omega
        clear h h' hv1 hv2 hRn hln
        go_enter Try.func55, Try.ntmps55
        go_wp2_with (first | (go_at_call 78; refine (isSquare_b _ _ _ R _ true HV1.out HA.out).mono ?_; rintro e w' ⟨rfl, rfl⟩) | (go_at_call 58; refine (isVector_b _ _ _ l _ true HV2.out HI.out).mono ?_; rintro e w' ⟨rfl, rfl⟩))
        go_ret
        rw [HE.out]
        exact ⟨rfl, rfl⟩
set_option maxRecDepth 100000 in
set_option maxHeartbeats 4000000 in
theorem orbitOf (a : Option Addr) (n cap : Nat) (R : List (List Int)) (a' : Option Addr) (N cap' : Nat) (l : List Int) (m : Int) (w : World) (h : Mat w a n R) (h' : Ints .i64 w a' N l) :
    Calls Try.prog 16 #[.slice a n cap, .slice a' N cap', .int .i64 m] w (MRes (M.orbRes R l m) w) := by
  have HA := Lib.hid h
  have HI := Lib.hid h'
  obtain ⟨k0, hk0⟩ : ∃ k, k = M.orbCode R l := ⟨_, rfl⟩
  have HK := Lib.hid hk0.symm
  by_cases hk : k0 = 0
  · subst hk
    obtain ⟨hs, hx, hl⟩ := M.orbCode_t hk0.symm
    obtain ⟨hr, n1, n2, hsm⟩ := sq_parts7 h hs
    have hRn : R.length = n := h.1
    have hNn : N = n := by rw [← h'.1, hl]; exact hRn
    subst hNn
    by_cases hm : 0 ≤ m ∧ m ≤ 100
    · obtain ⟨q, rfl⟩ := Int.eq_ofNat_of_zero_le hm.1
      have hq : q ≤ 100 := by omega
      have hq2 : (decide ((q : Int) < 0)) = false := by simp
      have HE : Hid (M.orbRes R l (q : Int) = if (M.orbL R l (q + 1)).all M.isVec then (M.orbL R l (q + 1), 0) else ([], 3)) := by show _ = _; unfold M.orbRes; rw [← hk0, if_pos rfl, if_pos hm]; rfl
      have HV := Lib.hid hx
      have HR := Lib.hid hr
      have HRB : Hid (∀ i j, i < N → j < N → M.Big (M.ent R i j)) := fun i j hi hj => M.big_sm (hsm i j hi hj) (by omega)
      have HLn : Hid (∀ k, (M.orb R l k).length = N) := fun k => by rw [M.orb_len hl]; exact hRn
      clear h h' hk0 hs hx hl hr hsm hRn hm
      go_enter Try.func16, Try.ntmps16
      go_wp2_with (go_at_call 55; refine (orbitCode _ _ _ R _ _ _ l _ HA.out HI.out).mono ?_; rintro e w' ⟨rfl, rfl⟩; rw [HK.out])
      refine (clone _ _ _ l _ HI.out (by omega) (by omega)).mono ?_
      rintro e w1 ⟨b1, c1, rfl, ho, hb⟩
      have HO0 : Hid (OwnM (w1.alloc (.cells #[.slice b1 N c1] 25)) w.heap.size (.slice (some ⟨w1.heap.size, 0, none⟩) 1 1) (M.orbL R l (0 + 1))) := ownM_lit1 w1 _ hb.size ho
      have HB0 : Hid (Below w.heap.size w (w1.alloc (.cells #[.slice b1 N c1] 25))) := hb.alloc hb.size _
      have HF0 : Hid ((M.orbL R l (0 + 1)).all M.isVec = true) := by show _ = _; rw [Nat.zero_add, M.orbL_one]; simp [HV.out]
      clear ho hb
      go_wp2
      go_loopw [9, 10, 27] (fun o _ kv wr => ∃ (k : Nat) (b : Option Addr) (c : Nat), k ≤ q ∧ kv = .int .i64 k ∧ o = .slice b (k + 1) c ∧ Hid (OwnM wr w.heap.size (.slice b (k + 1) c) (M.orbL R l (k + 1))) ∧ Hid ((M.orbL R l (k + 1)).all M.isVec = true) ∧ Hid (Below w.heap.size w wr)) (fun _ _ kv _ => q - (intOf kv).toNat)
      case atStart => exact ⟨0, _, _, Nat.zero_le _, rfl, rfl, HO0, HF0, HB0⟩
      case round =>
        obtain ⟨k, b, c, hk, rfl, rfl, HO, HF, HB⟩ := hrel
        obtain ⟨wo, rfl⟩ : ∃ x, x = wr := ⟨_, rfl⟩
        by_cases hkl : k < q
        · have hki : (k : Int) < (q : Int) := by omega
          obtain ⟨g, ra, rc, rfl, hcr, hro⟩ := HO.out.row k (by omega)
          rw [M.orbL_get (Nat.lt_succ_self k), HLn.out k] at hcr hro
          have hvk := M.orb_all HF.out (Nat.lt_succ_self k)
          have HRo := Lib.hid hro.ints'
          have HBg : Hid (∀ j, j < N → M.Big ((M.orb R l k).getD j 0)) := fun j hj => M.big_val ((M.isVec_t hvk).2.2 j (by rw [HLn.out]; exact hj))
          have hzo : w.heap.size ≤ wo.heap.size := HB.out.size
          obtain ⟨bv, hbv⟩ : ∃ b, b = M.isVec (M.orb R l (k + 1)) := ⟨_, rfl⟩
          have HBv := Lib.hid hbv.symm
          have HLk : Hid ((M.orbL R l (k + 1)).length = k + 1) := M.orbL_len _ _ _
          have hz1 : ((k : Int) + 1 - 1) = (k : Int) := by omega
          clear hro hvk hbv
          go_wp2_with fail
          refine (timesColumn _ _ _ R _ _ _ (M.orb R l k) _ (HA.out.below HB.out) HRo.out HR.out HRB.out HBg.out n1 n2 n1 n2).mono ?_
          rintro e w3 ⟨b3, c3, rfl, ho3, hb3⟩
          have HR3 : Hid (Own w3 wo.heap.size (.slice b3 N c3) (M.orb R l (k + 1))) := ho3
          have HB3 := Lib.hid hb3
          clear ho3 hb3
          cases bv with
          | false =>
            have HN : Hid ((M.orbL R l (q + 1)).all M.isVec = false) := M.orb_all_not (k := k + 1) (by omega) HBv.out
            go_wp2_with fail
            refine (isVector_b _ _ _ (M.orb R l (k + 1)) _ false HBv.out HR3.out.ints').mono ?_
            rintro e w' ⟨rfl, rfl⟩
            go_wp2
            go_ret2
            exact MRes.nil (by rw [HE.out, HN.out]; rfl) (HB.out.trans (HB3.out.mono hzo))
          | true =>
            have HF2 : Hid ((M.orbL R l (k + 1 + 1)).all M.isVec = true) := M.orb_all_next HF.out HBv.out
            go_wp2_with (first | (go_at_call 58; refine (isVector_b _ _ _ (M.orb R l (k + 1)) _ true HBv.out HR3.out.ints').mono ?_; rintro e w' ⟨rfl, rfl⟩) | (at_builtin; refine appendRow wo _ rfl (.tmp 40) (.tmp 42) rfl w.heap.size _ _ (M.orbL R l (k + 1)) (M.orb R l (k + 1)) (k + 1) HLk.out rfl HO.out HB3.out HR3.out rfl (by rw [HLk.out]; omega) hzo ?_))
            intro b4 c4 w4 hO4 hb4 _
            rw [← M.orbL_next] at hO4
            have HO4 := Lib.hid hO4
            have HB4 := Lib.hid ((HB.out.trans (HB3.out.mono hzo)).trans hb4)
            clear hO4 hb4
            go_wp2
            go_roundw
            case rel => exact ⟨k + 1, b4, c4, by omega, by go_num, rfl, HO4, HF2, HB4⟩
            case measure => simp [intOf]; omega
        · obtain rfl : k = q := by omega
          go_wp2
          go_ret2
          rw [HE.out, HF.out]
          exact ⟨_, _, _, rfl, HO.out, HB.out⟩
    · have HE : Hid (M.orbRes R l m = ([], 2)) := by show _ = _; unfold M.orbRes; rw [← hk0, if_pos rfl, if_neg hm]
      by_cases hm0 : m < 0
      · clear h h' hk0 hs hx hl hr hsm hRn hm
        go_enter Try.func16, Try.ntmps16
        go_wp2_with (go_at_call 55; refine (orbitCode _ _ _ R _ _ _ l _ HA.out HI.out).mono ?_; rintro e w' ⟨rfl, rfl⟩; rw [HK.out])
        go_ret2
        exact MRes.nil HE.out (Below.refl _ _)
      · have hm1 : 100 < m := by omega
        clear h h' hk0 hs hx hl hr hsm hRn hm
        go_enter Try.func16, Try.ntmps16
        go_wp2_with (go_at_call 55; refine (orbitCode _ _ _ R _ _ _ l _ HA.out HI.out).mono ?_; rintro e w' ⟨rfl, rfl⟩; rw [HK.out])
        go_ret2
        exact MRes.nil HE.out (Below.refl _ _)
  · have HE : Hid (M.orbRes R l m = ([], k0)) := by show _ = _; unfold M.orbRes; rw [← hk0, if_neg hk]
    have hk2 : (k0 != 0) = true := by simpa using hk
    clear h h' hk0 hk
    go_enter Try.func16, Try.ntmps16
    go_wp2_with (go_at_call 55; refine (orbitCode _ _ _ R _ _ _ l _ HA.out HI.out).mono ?_; rintro e w' ⟨rfl, rfl⟩; rw [HK.out])
    go_ret2
    exact MRes.nil HE.out (Below.refl _ _)
end V
end Go.Proofs.Ytcofjjipjcekjab

namespace Go.Proofs.Ytcofjjipjcekjab
namespace M
theorem flat_take {X : List (List Int)} {k : Nat} (hk : k < X.length) : (X.take (k + 1)).flatten = (X.take k).flatten ++ X.getD k [] := by
  rw [List.take_succ_eq_append_getElem hk, List.flatten_append]
  simp [hk]
theorem flat_small {X : List (List Int)} {n L : Nat} (h1 : X.length = n) (h2 : ∀ i, i < n → (X.getD i []).length = L) : ∀ k, k ≤ n → (X.take k).flatten.length = k * L := by
  intro k
  induction k with
  | zero => intro _; simp
  | succ k ih =>
    intro hk
    rw [flat_take (by omega), List.length_append, ih (by omega), h2 k (by omega), Nat.succ_mul]
end M
namespace V
set_option maxRecDepth 100000
open Go.RowKit
/-- A list of integers is appended to an owned list of integers. -/
theorem appendInts (w : World) {ops : Array Oper} {rest : List Oper} {o : Oper} {a : Act} {Q : Exit → Act → World → Prop} (hgd : o.guard = none) (s x : Operand)
    (ho : o.op = .call { callee := .builtin .append, args := #[s, x], argTypes := #[25, 25] }) (B : Nat) (v : Value) (l l2 : List Int) (hs : a.eval s = v) (hown : Own w B v l)
    {ad : Option Addr} {n2 c2 : Nat} (hx : a.eval x = .slice ad n2 c2) (hI : Ints .i64 w ad n2 l2) (h0 : 0 < n2) (hlen : l.length + n2 ≤ 2000000) (hB : B ≤ w.heap.size)
    (h : ∀ b' c' w', Own w' B (.slice b' (l.length + n2) c') (l ++ l2) → Below B w w' → wpList Try.prog ops Q rest (a.put o.dst (.slice b' (l.length + n2) c')) w') :
    wpList Try.prog ops Q (o :: rest) a w := by
  obtain ⟨i0, hi, hz0, hz1, hz2⟩ := info_parts info64
  obtain ⟨e1, e2, e3⟩ := hI
  rcases e3 with e3 | ⟨b, off, rfl, hlt, hc⟩
  · omega
  refine wpList_append_own_at (w := w) hgd s x 25 ho B 2 i0 (.int .i64 0) 1 8 Try.underlying25 hi hz0 hz1 hz2 rfl (by decide) v _ _ hs hown ⟨b, off, none⟩ n2 c2 (l2.map (Value.int .i64)) hx (by simp [e1]) (ints_cells hc e1) ?c2 ?c3 ?c4 hB ?_
  case c2 => intro u hu; obtain ⟨x, _, rfl⟩ := List.mem_map.1 hu; rfl
  case c3 => unfold maxLen; omega
  case c4 => omega
  · intro v' w' hown' hgrow hz hvb
    have ho' : Own w' B v' (l ++ l2) := by
      show w'.ownsRow B _ 1 v' (l ++ l2).length ((l ++ l2).map (Value.int .i64))
      rw [List.length_append, e1, List.map_append]
      exact hown'
    obtain ⟨b', c', hv', _⟩ := own_form ho'
    rw [show (l ++ l2).length = l.length + n2 by rw [List.length_append, e1]] at hv'
    subst hv'
    exact h b' c' w' ho' ((Below.refl B w).grown hgrow hB (fun k hk => (own_lt hown hk).1))
set_option maxRecDepth 100000 in
set_option maxHeartbeats 1000000 in
theorem sFlat7 (a : Option Addr) (n cap L : Nat) (X : List (List Int)) (w : World) (h : Mat w a n X) (hr : Rect X n L) (n2 : n ≤ 10) (l1 : 1 ≤ L) (l2 : L ≤ 10) :
    Calls Try.prog 103 #[.slice a n cap] w fun e w' => ∃ b m c, e = .returned (.slice b m c) ∧ Own w' w.heap.size (.slice b m c) X.flatten ∧ Below w.heap.size w w' := by
  have HA := Lib.hid h
  have HR := Lib.hid hr
  have HLn := Lib.hid (M.flat_small h.1 hr.2)
  have HT : Hid (∀ k, k < n → (X.take (k + 1)).flatten = (X.take k).flatten ++ X.getD k []) := fun k hk => M.flat_take (by rw [h.1]; exact hk)
  have HXl := Lib.hid h.1
  clear h hr
  go_enter Try.func103, Try.ntmps103
  go_wp2
  go_loopw [3, 4] (fun ov kv wr => ∃ (k m : Nat) (b : Option Addr) (c : Nat), k ≤ n ∧ kv = .int .i64 k ∧ ov = .slice b m c ∧ Hid (Own wr w.heap.size (.slice b m c) (X.take k).flatten) ∧ Hid (Below w.heap.size w wr)) (fun _ kv _ => n - (intOf kv).toNat)
  case atStart => exact ⟨0, 0, _, _, Nat.zero_le _, rfl, rfl, own_lit0 w _ (Nat.le_refl _), b_alloc _ _⟩
  case round =>
    obtain ⟨k, m, b, c, hk, rfl, rfl, HO, HB⟩ := hrel
    by_cases hlt : k < n
    · have hki : (k : Int) < (n : Int) := by omega
      obtain ⟨ab, ao, ra, rc, rfl, -, hcr, hIr⟩ := (HA.out.below HB.out).rect_at HR.out k hlt
      have HIr := Lib.hid hIr
      have HTk := Lib.hid (HT.out k hlt)
      have hlk := HLn.out k (by omega)
      have hkL : k * L ≤ 10 * 10 := Nat.mul_le_mul (by omega) l2
      have HLk : Hid ((X.take k).flatten.length ≤ 100) := by show _ ≤ _; omega
      clear hIr hlk hkL
      generalize (X.take k).flatten = Xk at *
      go_wp2_with (at_builtin; refine appendInts _ rfl (.tmp 12) (.tmp 16) rfl w.heap.size _ Xk (X.getD k []) rfl HO.out rfl HIr.out (by omega) (by have := HLk.out; omega) HB.out.size ?_)
      intro b4 c4 w4 hO4 hb4
      have HO4 := Lib.hid hO4
      have HB4 := Lib.hid (HB.out.trans hb4)
      clear hO4 hb4
      go_wp2
      go_roundw
      case rel => exact ⟨k + 1, _, b4, c4, by omega, by go_num, rfl, by show Own _ _ _ _; rw [HTk.out]; exact HO4.out, HB4⟩
      case measure => simp [intOf]; omega
    · obtain rfl : k = n := by omega
      have HTa : Hid (X.take k = X) := List.take_of_length_le (by have := HXl.out; omega)
      go_wp2
      go_ret
      exact ⟨_, _, _, rfl, by have := HO.out; rw [HTa.out] at this; exact this, HB.out⟩
def serF (a0 v1 v2 : Value) (i : Nat) : Value := if i = 0 then a0 else if i = 1 then v1 else v2
/-- A series that has been looked at up to its element k. -/
def IsSer (w0 w : World) (p : Nat) (a : Option Addr) (n cap : Nat) (R F : List (List Int)) (k : Nat) : Prop :=
  Below w0.heap.size w0 w ∧ w0.heap.size ≤ p ∧ ∃ b1 c1 b2 c2, w.rowIs p 78 3 (serF (.slice a n cap) (.slice b1 n c1) (.slice b2 (k + 1) c2)) ∧
    OwnP w w0.heap.size (fun q => q ≠ p) (.slice b1 n c1) (M.sq7 R F k) ∧ OwnP w w0.heap.size (fun q => q ≠ p) (.slice b2 (k + 1) c2) (M.sqL R F (k + 1))
theorem IsSer.keep {w0 w w' : World} {p n cap k : Nat} {a : Option Addr} {R F : List (List Int)} (h : IsSer w0 w p a n cap R F k) (hb : Below w.heap.size w w') : IsSer w0 w' p a n cap R F k := by
  obtain ⟨h1, h2, b1, c1, b2, c2, h3, h4, h5⟩ := h
  exact ⟨h1.trans (hb.mono h1.size), h2, b1, c1, b2, c2, World.rowIs.of_block h3 (hb.block p (World.rowIs.lt h3)), h4.below hb, h5.below hb⟩
theorem serF_set1 (a0 v1 v2 v : Value) : ∀ i, i < 3 → (if i = 1 then v else serF a0 v1 v2 i) = serF a0 v v2 i := fun i hi => by
  unfold serF
  by_cases e : i = 0
  · subst e; rfl
  · by_cases e1 : i = 1
    · simp [e, e1]
    · simp [e, e1]
theorem serF_set2 (a0 v1 v2 v : Value) : ∀ i, i < 3 → (if i = 2 then v else serF a0 v1 v2 i) = serF a0 v1 v i := fun i hi => by
  unfold serF
  by_cases e : i = 0
  · subst e; rfl
  · by_cases e1 : i = 1
    · subst e1; rfl
    · have : i = 2 := by omega
      subst this; rfl
set_option maxRecDepth 100000 in
set_option maxHeartbeats 1000000 in
theorem sStart7 (w0 : World) (a : Option Addr) (n cap L : Nat) (R F : List (List Int)) (b : Option Addr) (c : Nat) (w : World) (hb0 : Below w0.heap.size w0 w) (hF : OwnM w w0.heap.size (.slice b n c) F) (hr : Rect F n L) (n2 : n ≤ 10) (l1 : 1 ≤ L) (l2 : L ≤ 10) :
    Calls Try.prog 61 #[.slice a n cap, .slice b n c] w fun e w' => ∃ p, e = .returned (.pointer (some ⟨p, 0, none⟩)) ∧ IsSer w0 w' p a n cap R F 0 := by
  have HB0 := Lib.hid hb0
  have HF := Lib.hid hF
  have hz0 := hb0.size
  have HR := Lib.hid hr
  clear hb0 hF hr
  go_enter Try.func61, Try.ntmps61
  go_wp2_with fail
  refine (sFlat7 _ _ _ L F _ HF.out.mat HR.out n2 l1 l2).mono ?_
  rintro e w1 ⟨b1, m1, c1, rfl, ho, hb⟩
  have HO1 := Lib.hid ho
  have HF1 := Lib.hid (HF.out.below hb)
  have HB1 := Lib.hid (HB0.out.trans (hb.mono hz0))
  have hz1 := hb.size
  clear ho hb HF
  go_wp2
  go_ret
  refine ⟨w1.heap.size + 1, by simp, ?_⟩
  have hA : Below w1.heap.size w1 (w1.alloc (.cells #[.slice b1 m1 c1] 25)) := b_alloc _ _
  have hz : (w1.alloc (.cells #[.slice b1 m1 c1] 25)).heap.size = w1.heap.size + 1 := by simp
  have hLi : OwnM (w1.alloc (.cells #[.slice b1 m1 c1] 25)) w.heap.size (.slice (some ⟨w1.heap.size, 0, none⟩) 1 1) [F.flatten] := ownM_lit1 w1 _ hz1 HO1.out
  have hFi := HF1.out.below hA
  have hBi := HB1.out.trans (hA.mono (Nat.le_trans hz0 hz1))
  generalize w1.alloc (.cells #[.slice b1 m1 c1] 25) = wa at *
  have hA2 : ∀ o, Below wa.heap.size wa (wa.alloc o) := fun o => b_alloc _ _
  refine ⟨hBi.trans ((hA2 _).mono (by omega)), by omega, b, c, _, _, ?_, OwnP.below (hFi.toP fun k _ hk => by omega) (hA2 _), OwnP.below ((hLi.mono (by omega)).toP fun k _ hk => by omega) (hA2 _)⟩
  have := World.rowIs_alloc wa #[.slice a n cap, .slice b n c, .slice (some ⟨w1.heap.size, 0, none⟩) 1 1] 78 (serF (.slice a n cap) (.slice b n c) (.slice (some ⟨w1.heap.size, 0, none⟩) 1 1)) (fun i hi => by
    have hi : i < 3 := hi
    match i, hi with
    | 0, _ => rfl
    | 1, _ => rfl
    | 2, _ => rfl)
  rw [hz] at this
  exact this
end V
end Go.Proofs.Ytcofjjipjcekjab
