/- Texts laid together: Rck, Pmi, Pmj, Pmn, Tly, OpenM, Trans, Apply, Pmk, MatH, Hv3. -/
import Derived.Test.YtmobcobdpemlnaaQa8
import Derived.Deep.RegionWith
import Derived.Deep.RegionHeld3
import Derived.Test.YtmobcobdpemlnaaQa6
import Derived.Test.YtmobcobdpemlnaaQa3
import Derived.IntWalk
import Derived.Test.YtmobcobdpemlnaaRows
import Derived.Test.YtmobcobdpemlnaaQa1
import Derived.Test.YtmobcobdpemlnaaQa2
import Derived.WalkKit
import Derived.ProofKit
import Derived.WalkSmall
import Derived.Deep.QuietTactic
import Derived.BigQuiet
import Derived.BigRegion
import Derived.Deep.Draws
import Derived.Deep.OwnRows
import Derived.Maps.AppendAt
import Derived.Deep.Onto
import Derived.Lib.Hide
import Derived.Deep.Matrix
import Derived.OpenShut
import Derived.Test.YtmobcobdpemlnaaQa7
import Derived.StillTailTactics
set_option linter.unusedSimpArgs false
set_option linter.unusedVariables false
set_option linter.unusedSectionVars false
namespace Go.Proofs.Ytmobcobdpemlnaa.V
open Go.RowKit
/-- A ratio and a code. -/
def retQ (r : (Int × Int) × Int) : Ending := .returned (.tuple #[.agg #[.int .i64 r.1.1, .int .i64 r.1.2], .int .i64 r.2])
theorem bel2s {w w1 : World} {o o' : Obj} {i j : Nat} {u v : Value} (hb : Below ((w.alloc o).alloc o').heap.size ((w.alloc o).alloc o') w1) : Below w.heap.size w ((w1.setCell ⟨w.heap.size + 1, i, none⟩ u).setCell ⟨w.heap.size + 1, j, none⟩ v) :=
  ((bel2 hb).setCell (by show w.heap.size ≤ w.heap.size + 1; omega) u).setCell (by show w.heap.size ≤ w.heap.size + 1; omega) v
set_option maxRecDepth 100000 in
set_option maxHeartbeats 400000 in
theorem ratioChecked (n d : Int) (w : World) :
    Calls Try.prog 113 #[.agg #[.int .i64 n, .int .i64 d]] w fun e w' => e = retQ (M.lim (n, d)) ∧ Below w.heap.size w w' := by
  by_cases hr : M.isRat n d = true
  · have HE : Hid (M.lim (n, d) = ((n, d), 0)) := by show _ = _; unfold M.lim; rw [if_pos hr]
    go_enter Try.func113, Try.ntmps113
    go_wp2_with fail
    refine (isRatio_b _ _ true hr _).mono ?_
    rintro e w1 ⟨rfl, hb⟩
    obtain ⟨hc, hf⟩ := bcell hb
    have hz := hb.size
    simp at hz
    have z1 : w.heap.size < w1.heap.size := by omega
    have z2 : w.heap.size + 1 < w1.heap.size := by omega
    go_wp2
    exact bodyPost_ret (v := .tuple #[.agg #[.int .i64 n, .int .i64 d], .int .i64 0]) (by simp [results, Try.results113, go_sem, z1, z2, hc]) rfl ⟨by rw [HE.out]; rfl, bel2s hb⟩
  · simp only [Bool.not_eq_true] at hr
    have HE : Hid (M.lim (n, d) = ((0, 0), 3)) := by show _ = _; unfold M.lim; rw [if_neg (by rw [hr]; exact Bool.false_ne_true)]
    go_enter Try.func113, Try.ntmps113
    go_wp2_with fail
    refine (isRatio_b _ _ false hr _).mono ?_
    rintro e w1 ⟨rfl, hb⟩
    obtain ⟨hc, hf⟩ := bcell hb
    have hz := hb.size
    simp at hz
    have z1 : w.heap.size < w1.heap.size := by omega
    have z2 : w.heap.size + 1 < w1.heap.size := by omega
    go_wp2
    exact bodyPost_ret (v := .tuple #[.agg #[.int .i64 0, .int .i64 0], .int .i64 3]) (by simp [results, Try.results113, go_sem, z1, z2, hc]) rfl ⟨by rw [HE.out]; rfl, bel2s hb⟩
end Go.Proofs.Ytmobcobdpemlnaa.V

namespace Go.Proofs.Ytmobcobdpemlnaa
namespace M
/-- The columns that are left before row k. -/
def stS (R : List (List Int)) : Nat → Nat
  | 0 => 2 ^ R.length - 1
  | k + 1 => stS R k - 2 ^ pickC R R.length k (stS R k)
def asgP (R : List (List Int)) (k : Nat) : List Int := (List.range k).map fun i => ((pickC R R.length i (stS R i) : Nat) : Int)
theorem asgP_len (R : List (List Int)) (k : Nat) : (asgP R k).length = k := by simp [asgP]
theorem asgP_next (R : List (List Int)) (k : Nat) : asgP R (k + 1) = asgP R k ++ [((pickC R R.length k (stS R k) : Nat) : Int)] := by simp [asgP, List.range_succ]
theorem asgP_rest (R : List (List Int)) : ∀ m k, k + m = R.length → asgP R k ++ (asgL R R.length m (stS R k)).map (fun j : Nat => (j : Int)) = asgP R R.length
  | 0, k, h => by
    obtain rfl : k = R.length := by omega
    simp [asgL]
  | m + 1, k, h => by
    have e : R.length - (m + 1) = k := by omega
    rw [asgL, e, List.map_cons, ← asgP_rest R m (k + 1) (by omega), asgP_next, stS, List.append_assoc]
    rfl
theorem asg_rows (R : List (List Int)) : asg R = asgP R R.length := by
  have := asgP_rest R R.length 0 (by omega)
  rw [← this]
  rfl
theorem st_ok {R : List (List Int)} (h : Sq R) (hb : (perm R).1 ≠ -1000000000000000) : ∀ k, k ≤ R.length → stS R k < 2 ^ R.length ∧ pc R.length (stS R k) = R.length - k ∧ (dp R R.length (stS R k)).1 ≠ -1000000000000000
  | 0, _ => ⟨by show 2 ^ R.length - 1 < _; have := Nat.two_pow_pos R.length; omega, by rw [Nat.sub_zero]; exact pc_full _ _ (Nat.le_refl _), hb⟩
  | k + 1, hk => by
    obtain ⟨i1, i2, i3⟩ := st_ok h hb k (by omega)
    obtain ⟨m, hm⟩ : ∃ m, R.length - k = m + 1 := ⟨R.length - k - 1, by omega⟩
    obtain ⟨p1, p2, -⟩ := pick_ok h (m := m) i1 (by rw [i2, hm]) i3
    rw [show R.length - (m + 1) = k by omega] at p1 p2
    rw [stS]
    generalize pickC R R.length k (stS R k) = j at p1 p2
    unfold okCol at p2
    rw [Bool.and_eq_true, Bool.and_eq_true, decide_eq_true_iff, decide_eq_true_iff] at p2
    obtain ⟨hbit, hent, hw⟩ := p2
    have h1 := pc_out hbit R.length
    rw [if_pos p1, i2] at h1
    refine ⟨Nat.lt_trans (bit_less hbit) i1, by omega, fun q => ?_⟩
    rw [q, times_bot] at hw
    exact i3 hw.symm
theorem pick_row {R : List (List Int)} (h : Sq R) (hb : (perm R).1 ≠ -1000000000000000) {k : Nat} (hk : k < R.length) : pickC R R.length k (stS R k) < R.length ∧ okCol R R.length k (stS R k) (pickC R R.length k (stS R k)) = true ∧ ∀ j, j < pickC R R.length k (stS R k) → okCol R R.length k (stS R k) j = false := by
  obtain ⟨i1, i2, i3⟩ := st_ok h hb k (by omega)
  obtain ⟨m, hm⟩ : ∃ m, R.length - k = m + 1 := ⟨R.length - k - 1, by omega⟩
  have := pick_ok h (m := m) i1 (by rw [i2, hm]) i3
  rw [show R.length - (m + 1) = k by omega] at this
  exact this
theorem pick_here {R : List (List Int)} (h : Sq R) (hb : (perm R).1 ≠ -1000000000000000) {k u : Nat} (hk : k < R.length) (h1 : okCol R R.length k (stS R k) u = true) (h2 : ∀ j, j < u → okCol R R.length k (stS R k) j = false) : pickC R R.length k (stS R k) = u := by
  obtain ⟨p1, p2, p3⟩ := pick_row h hb hk
  rcases Nat.lt_trichotomy (pickC R R.length k (stS R k)) u with q | q | q
  · rw [h2 _ q] at p2; cases p2
  · exact q
  · rw [p3 _ q] at h1; cases h1
theorem okCol_t {R : List (List Int)} {n i s j : Nat} (h1 : s.testBit j = true) (h2 : ent R i j ≠ -1000000000000000) (h3 : times (ent R i j) (dp R n (s - 2 ^ j)).1 = (dp R n s).1) : okCol R n i s j = true := by
  unfold okCol; rw [h1, decide_eq_true h2, decide_eq_true h3]; rfl
theorem okCol_f {R : List (List Int)} {n i s j : Nat} (h : s.testBit j = false ∨ ent R i j = -1000000000000000 ∨ times (ent R i j) (dp R n (s - 2 ^ j)).1 ≠ (dp R n s).1) : okCol R n i s j = false := by
  unfold okCol
  rcases h with h | h | h
  · rw [h]; rfl
  · rw [decide_eq_false (by simpa using h)]; simp
  · rw [decide_eq_false h]; simp
end M
end Go.Proofs.Ytmobcobdpemlnaa

namespace Go.Proofs.Ytmobcobdpemlnaa
namespace M
/-- The rows and columns of some nodes. -/
def partF (R : List (List Int)) (l : List Int) (i k : Nat) : Int := ent R (l.getD i 0).toNat (l.getD k 0).toNat
def partQ (R : List (List Int)) (l : List Int) : List (List Int) := mk l.length l.length (partF R l)
def ndsB (n : Nat) (l : List Int) : Bool := l.all fun x => decide (0 ≤ x ∧ x < n)
theorem ndsB_t {n : Nat} {l : List Int} (h : ndsB n l = true) {i : Nat} (hi : i < l.length) : ∃ k : Nat, l.getD i 0 = (k : Int) ∧ k < n := by
  have := List.all_eq_true.1 h l[i] (List.getElem_mem hi)
  rw [decide_eq_true_iff] at this
  refine ⟨(l[i]).toNat, ?_, by omega⟩
  rw [List.getD_eq_getElem?_getD, List.getElem?_eq_getElem hi]
  show l[i] = _
  omega
theorem partQ_sq {R : List (List Int)} {l : List Int} (h : sqB R = true) (hl : ndsB R.length l = true) (h1 : 1 ≤ l.length) (h2 : l.length ≤ 10) : sqB (partQ R l) = true := by
  obtain ⟨hm, hw⟩ := sqB_t h
  have hm2 : isMat (partQ R l) = true := isMat_mk h1 h2 h1 h2 fun i hi j hj => by
    obtain ⟨a, ea, ha⟩ := ndsB_t hl hi
    obtain ⟨b, eb, hb⟩ := ndsB_t hl hj
    unfold partF
    rw [ea, eb]
    exact isMat_val hm ha (by rw [← hw]; exact hb)
  unfold sqB
  rw [hm2]
  unfold partQ
  rw [mk_wid _ _ _ h1]
  simp
theorem perm_nil {R : List (List Int)} (h : R.length = 0) : perm R = (0, 1) := by unfold perm; rw [h]; rfl
theorem partQ_len (R : List (List Int)) (l : List Int) : (partQ R l).length = l.length := by unfold partQ; simp
/-! Principal permanents. -/
def incB (l : List Int) : Bool := (List.range (l.length - 1)).all fun i => decide (l.getD i 0 < l.getD (i + 1) 0)
def prinRes (R : List (List Int)) (l : List Int) : Int × Int := if sqB R then (if ndsB R.length l && incB l then chk (perm (partQ R l)).1 else (0, 2)) else (0, 1)
/-! Characteristic polynomials. -/
def setL (n s : Nat) : List Int := ((List.range n).filter fun j => s.testBit j).map fun (j : Nat) => (j : Int)
/-- The coefficients after the first k sets. -/
def charL (R : List (List Int)) : Nat → List Int
  | 0 => List.replicate (R.length + 1) (-1000000000000000)
  | k + 1 => (charL R k).set (R.length - pc R.length k) (max ((charL R k).getD (R.length - pc R.length k) 0) (perm (partQ R (setL R.length k))).1)
def charRes (R : List (List Int)) : List Int × Int := if sqB R then (if isPoly (charL R (2 ^ R.length)) then (charL R (2 ^ R.length), 0) else ([], 3)) else ([], 1)
theorem setL_next (n s : Nat) : setL (n + 1) s = if s.testBit n then setL n s ++ [(n : Int)] else setL n s := by
  unfold setL
  rw [List.range_succ, List.filter_append, List.map_append]
  by_cases h : s.testBit n = true
  · simp [h]
  · simp [h]
theorem setL_len (s : Nat) : ∀ n, (setL n s).length = pc n s
  | 0 => rfl
  | n + 1 => by
    rw [setL_next]
    unfold pc
    split
    · rw [List.length_append, setL_len s n]; rfl
    · rw [setL_len s n]; rfl
theorem setL_nds (n s : Nat) : ndsB n (setL n s) = true := by
  unfold ndsB
  rw [List.all_eq_true]
  intro x hx
  unfold setL at hx
  obtain ⟨j, hj, rfl⟩ := List.mem_map.1 hx
  have := List.mem_range.1 (List.mem_filter.1 hj).1
  rw [decide_eq_true_iff]
  omega
theorem charL_len (R : List (List Int)) : ∀ k, (charL R k).length = R.length + 1
  | 0 => by simp [charL]
  | k + 1 => by rw [charL, List.length_set, charL_len R k]
end M
end Go.Proofs.Ytmobcobdpemlnaa

namespace Go.Proofs.Ytmobcobdpemlnaa
namespace M
def tplus (a b : Int × Int) : Int × Int := if b.1 < a.1 then a else (if a.1 < b.1 then b else (a.1, a.2 + b.2))
def ttimes (a : Int × Int) (e : Int) : Int × Int := if e = -1000000000000000 then (-1000000000000000, 0) else (times a.1 e, a.2)
theorem tplus_step (acc : Int × Int) (w c : Int) (h : w = -1000000000000000 → c = 0 ∧ -1000000000000000 ≤ acc.1) : tplus acc (w, c) = stepT acc w c := by
  unfold tplus stepT
  by_cases hw : w = -1000000000000000
  · obtain ⟨hc, ha⟩ := h hw
    rw [if_pos hw]
    subst hw hc
    by_cases h1 : -1000000000000000 < acc.1
    · rw [if_pos h1]
    · rw [if_neg h1, if_neg (show ¬ acc.1 < (-1000000000000000 : Int) by omega)]
      exact Prod.ext rfl (by show acc.2 + 0 = acc.2; omega)
  · rw [if_neg hw]
    by_cases h1 : w < acc.1
    · rw [if_pos h1, if_neg (by omega), if_neg (by omega)]
    · rw [if_neg h1]
      by_cases h2 : acc.1 < w
      · rw [if_pos h2, if_pos h2]
      · rw [if_neg h2, if_neg h2, if_pos (by omega)]
/-- A weight of Bottom is reached by no way. -/
theorem stepT_bot {acc : Int × Int} {w c : Int} (h : acc.1 = -1000000000000000 → acc.2 = 0) : (stepT acc w c).1 = -1000000000000000 → (stepT acc w c).2 = 0 := by
  unfold stepT
  by_cases h1 : w = -1000000000000000
  · rw [if_pos h1]; exact h
  · rw [if_neg h1]
    by_cases h2 : acc.1 < w
    · rw [if_pos h2]; exact fun q => absurd q h1
    · rw [if_neg h2]
      by_cases h3 : w = acc.1
      · rw [if_pos h3]; exact fun q => absurd (h3.trans q) h1
      · rw [if_neg h3]; exact h
theorem dpF_bot (R : List (List Int)) (n : Nat) (prev : Nat → Int × Int) (s : Nat) : ∀ j, (dpF R n prev s j).1 = -1000000000000000 → (dpF R n prev s j).2 = 0
  | 0 => fun _ => rfl
  | j + 1 => by
    unfold dpF
    split
    · exact stepT_bot (dpF_bot R n prev s j)
    · exact dpF_bot R n prev s j
theorem dp_bot {R : List (List Int)} {n s : Nat} (h : (dp R n s).1 = -1000000000000000) : (dp R n s).2 = 0 := by
  by_cases h0 : s = 0
  · subst h0; rw [dp_zero] at h; exact absurd h (by decide)
  · rw [dp_rec (by omega)] at h ⊢
    exact dpF_bot _ _ _ _ _ h
theorem stepT_low {acc : Int × Int} {w c : Int} (h : -1000000000000000 ≤ acc.1) : -1000000000000000 ≤ (stepT acc w c).1 := by
  unfold stepT
  split
  · exact h
  · split
    · show -1000000000000000 ≤ w; omega
    · split <;> exact h
theorem dpF_low (R : List (List Int)) (n : Nat) (prev : Nat → Int × Int) (s : Nat) : ∀ j, -1000000000000000 ≤ (dpF R n prev s j).1
  | 0 => Int.le_refl _
  | j + 1 => by
    unfold dpF
    split
    · exact stepT_low (dpF_low R n prev s j)
    · exact dpF_low R n prev s j
/-- What the program adds for the column j of a set. -/
def addC (R : List (List Int)) (n s : Nat) (acc : Int × Int) (j : Nat) : Int × Int := tplus acc (ttimes (dp R n (s - 2 ^ j)) (ent R (n - pc n s) j))
theorem addC_step {R : List (List Int)} {n s : Nat} {acc : Int × Int} {j : Nat} (h : -1000000000000000 ≤ acc.1) (he : Sm 100000000 (ent R (n - pc n s) j)) (hd : Sm 100000000 (dp R n (s - 2 ^ j)).1) : addC R n s acc j = stepT acc (times (ent R (n - pc n s) j) (dp R n (s - 2 ^ j)).1) (dp R n (s - 2 ^ j)).2 := by
  unfold addC ttimes
  by_cases h1 : ent R (n - pc n s) j = -1000000000000000
  · rw [if_pos h1, tplus_step _ _ _ (fun _ => ⟨rfl, h⟩), h1]
    have : times (-1000000000000000) (dp R n (s - 2 ^ j)).1 = -1000000000000000 := by unfold times; rw [if_pos (.inl rfl)]
    rw [this]
    unfold stepT
    rw [if_pos rfl, if_pos rfl]
  · rw [if_neg h1, times_comm' (dp R n (s - 2 ^ j)).1]
    refine tplus_step _ _ _ fun q => ⟨?_, h⟩
    apply dp_bot
    unfold times at q
    by_cases h2 : ent R (n - pc n s) j = -1000000000000000 ∨ (dp R n (s - 2 ^ j)).1 = -1000000000000000
    · rcases h2 with e | e
      · exact absurd e h1
      · exact e
    · rw [if_neg h2] at q
      rcases he with e | e
      · exact absurd e h1
      · rcases hd with f | f
        · exact f
        · omega
/-- The tally behind the first k columns of a set. -/
def colF (R : List (List Int)) (n s k : Nat) : Int × Int := ((setL 10 s).take k).foldl (fun acc j => addC R n s acc j.toNat) (-1000000000000000, 0)
theorem colF_next {R : List (List Int)} {n s k : Nat} (h : k < (setL 10 s).length) : colF R n s (k + 1) = addC R n s (colF R n s k) ((setL 10 s).getD k 0).toNat := by
  unfold colF
  rw [List.take_add_one, List.getElem?_eq_getElem h, List.foldl_append]
  simp [h]
theorem setL_ten {n s : Nat} (hs : s < 2 ^ n) (hn : n ≤ 10) : setL 10 s = setL n s := by
  have key : ∀ k, setL (n + k) s = setL n s := fun k => by
    induction k with
    | zero => rfl
    | succ k ih =>
      rw [show n + (k + 1) = (n + k) + 1 by omega, setL_next, ih]
      have : s.testBit (n + k) = false := by
        cases q : s.testBit (n + k) with
        | false => rfl
        | true => have := bit_lt q hs; omega
      rw [this]; rfl
  have := key (10 - n)
  rw [show n + (10 - n) = 10 by omega] at this
  exact this
theorem setL_bit (n s : Nat) {k : Nat} (h : k < (setL n s).length) : ∃ j : Nat, (setL n s).getD k 0 = (j : Int) ∧ j < n ∧ s.testBit j = true := by
  rw [List.getD_eq_getElem?_getD, List.getElem?_eq_getElem h, Option.getD_some]
  have hm : (setL n s)[k] ∈ setL n s := List.getElem_mem h
  generalize (setL n s)[k] = x at hm ⊢
  unfold setL at hm
  obtain ⟨j, hj, e⟩ := List.mem_map.1 hm
  have h2 := List.mem_filter.1 hj
  exact ⟨j, e.symm, List.mem_range.1 h2.1, h2.2⟩
theorem dpF_addC {R : List (List Int)} {n s : Nat} (he : ∀ j, j < n → Sm 100000000 (ent R (n - pc n s) j)) (hd : ∀ t, t < s → Sm 100000000 (dp R n t).1) : ∀ m, m ≤ n → (setL m s).foldl (fun acc j => addC R n s acc j.toNat) (-1000000000000000, 0) = dpF R n (dp R n) s m
  | 0, _ => rfl
  | m + 1, hm => by
    have ih := dpF_addC he hd m (by omega)
    rw [setL_next]
    unfold dpF
    by_cases q : s.testBit m = true
    · rw [if_pos q, if_pos q, List.foldl_append, ih]
      show addC R n s _ ((m : Int).toNat) = _
      rw [Int.toNat_natCast]
      exact addC_step (dpF_low _ _ _ _ _) (he m (by omega)) (hd _ (bit_less q))
    · rw [if_neg q, if_neg q, ih]
theorem colF_all {R : List (List Int)} (h : Sq R) {s : Nat} (hs : s < 2 ^ R.length) (h0 : 0 < s) (hd : ∀ t, t < s → Sm 100000000 (dp R R.length t).1) : colF R R.length s (pc R.length s) = dp R R.length s := by
  unfold colF
  rw [setL_ten hs h.1, ← setL_len, List.take_length, dp_rec h0]
  refine dpF_addC (fun j hj => ?_) hd _ (Nat.le_refl _)
  have h1 : 0 < pc R.length s := Nat.pos_of_ne_zero fun q => by have := none_zero hs q; omega
  have h2 := pc_le s R.length
  exact sm_up (h.2 _ (by omega) j hj) (by omega)
/-- The tallies are small. -/
theorem colF_snd {R : List (List Int)} {n s : Nat} {K : Int} (hK : 0 ≤ K) (h : ∀ t, t < s → 0 ≤ (dp R n t).2 ∧ (dp R n t).2 ≤ K) : ∀ k, k ≤ (setL 10 s).length → 0 ≤ (colF R n s k).2 ∧ (colF R n s k).2 ≤ k * K
  | 0, _ => ⟨Int.le_refl _, by show (0 : Int) ≤ (0 : Nat) * K; simp⟩
  | k + 1, hk => by
    obtain ⟨i1, i2⟩ := colF_snd hK h k (by omega)
    rw [colF_next (by omega)]
    obtain ⟨j, e, -, hb⟩ := setL_bit 10 s (k := k) (by omega)
    rw [e, Int.toNat_natCast]
    have e2 : ((k + 1 : Nat) : Int) * K = k * K + K := by rw [Int.natCast_add, Int.add_mul]; simp
    have e0 : 0 ≤ (k : Int) * K := Int.mul_nonneg (by omega) hK
    obtain ⟨d1, d2⟩ := h _ (bit_less hb)
    have ht : 0 ≤ (ttimes (dp R n (s - 2 ^ j)) (ent R (n - pc n s) j)).2 ∧ (ttimes (dp R n (s - 2 ^ j)) (ent R (n - pc n s) j)).2 ≤ K := by
      unfold ttimes
      split
      · exact ⟨Int.le_refl _, hK⟩
      · exact ⟨d1, d2⟩
    unfold addC tplus
    rw [e2]
    generalize ttimes (dp R n (s - 2 ^ j)) (ent R (n - pc n s) j) = t at ht
    split
    · omega
    · split
      · omega
      · show 0 ≤ _ + _ ∧ _ + _ ≤ _
        omega
theorem setL_lt (n s : Nat) {a b : Nat} (h : a < b) (hb : b < (setL n s).length) : (setL n s).getD a 0 < (setL n s).getD b 0 := by
  have hp : (setL n s).Pairwise (· < ·) := by
    unfold setL
    rw [List.pairwise_map]
    exact (List.pairwise_lt_range.filter _).imp fun h => by omega
  have := List.pairwise_iff_getElem.1 hp a b (by omega) hb h
  rw [List.getD_eq_getElem?_getD, List.getElem?_eq_getElem (by omega), List.getD_eq_getElem?_getD, List.getElem?_eq_getElem hb]
  exact this
theorem setL_has {n s j : Nat} (hj : j < n) (hb : s.testBit j = true) : ∃ m, m < (setL n s).length ∧ (setL n s).getD m 0 = (j : Int) := by
  have : (j : Int) ∈ setL n s := List.mem_map.2 ⟨j, List.mem_filter.2 ⟨List.mem_range.2 hj, hb⟩, rfl⟩
  obtain ⟨m, hm, e⟩ := List.mem_iff_getElem.1 this
  exact ⟨m, hm, by rw [List.getD_eq_getElem?_getD, List.getElem?_eq_getElem hm]; exact e⟩
/-- The weight of a set whose first row goes to the column at the place k. -/
def thru (R : List (List Int)) (n i s k : Nat) : Int := (ttimes (dp R n (s - 2 ^ ((setL 10 s).getD k 0).toNat)) (ent R i ((setL 10 s).getD k 0).toNat)).1
theorem thru_ok {R : List (List Int)} {n i s k j : Nat} (hb : (dp R n s).1 ≠ -1000000000000000) (hj : (setL 10 s).getD k 0 = (j : Int)) (ht : s.testBit j = true) : thru R n i s k = (dp R n s).1 ↔ okCol R n i s j = true := by
  unfold thru ttimes okCol
  rw [hj, Int.toNat_natCast, ht]
  by_cases h1 : ent R i j = -1000000000000000
  · rw [if_pos h1]
    simp [h1, Ne.symm hb]
  · rw [if_neg h1, times_comm']
    simp [h1]
/-- The place of the least column of a set that reaches the greatest weight. -/
theorem pick_at {R : List (List Int)} {n i s k : Nat} (hs : s < 2 ^ n) (hn : n ≤ 10) (hb : (dp R n s).1 ≠ -1000000000000000) (hk : k < (setL 10 s).length)
    (h1 : thru R n i s k = (dp R n s).1) (h2 : ∀ m, m < k → thru R n i s m ≠ (dp R n s).1) :
    ∃ u : Nat, (setL 10 s).getD k 0 = (u : Int) ∧ u < n ∧ s.testBit u = true ∧ okCol R n i s u = true ∧ ∀ j, j < u → okCol R n i s j = false := by
  obtain ⟨u, e, -, hu⟩ := setL_bit 10 s hk
  refine ⟨u, e, bit_lt hu hs, hu, (thru_ok hb e hu).1 h1, fun j hj => ?_⟩
  cases q : okCol R n i s j with
  | false => rfl
  | true =>
    have hbj : s.testBit j = true := by
      unfold okCol at q
      simp only [Bool.and_eq_true] at q
      exact q.1
    have hjn := bit_lt hbj hs
    obtain ⟨m, hm, em⟩ := setL_has (n := 10) (by omega) hbj
    have hmk : m < k := by
      apply Classical.byContradiction
      intro hmk
      by_cases e2 : m = k
      · subst e2; rw [e] at em; omega
      · have := setL_lt 10 s (a := k) (b := m) (by omega) hm
        rw [e, em] at this
        omega
    exact absurd ((thru_ok hb em hbj).2 q) (h2 m hmk)
/-- There is such a place. -/
theorem pick_any {R : List (List Int)} {n i s u : Nat} (hs : s < 2 ^ n) (hn : n ≤ 10) (hb : (dp R n s).1 ≠ -1000000000000000) (h : okCol R n i s u = true) : ∃ m, m < (setL 10 s).length ∧ thru R n i s m = (dp R n s).1 := by
  have hbu : s.testBit u = true := by
    unfold okCol at h
    simp only [Bool.and_eq_true] at h
    exact h.1
  obtain ⟨m, hm, em⟩ := setL_has (n := 10) (by have := bit_lt hbu hs; omega) hbu
  exact ⟨m, hm, (thru_ok hb em hbu).2 h⟩
end M
end Go.Proofs.Ytmobcobdpemlnaa

namespace Go.Proofs.Ytmobcobdpemlnaa
namespace V
set_option maxRecDepth 100000
open Go.RowKit
theorem b_al3 (w : World) (x y z : Obj) : Below w.heap.size w (((w.alloc x).alloc y).alloc z) := (b_alloc2 w x y).trans ((b_alloc _ z).mono (by simp; omega))
theorem b_al2d (w : World) (x y : Obj) : Below w.heap.size w ((w.alloc x).alloc y).drew := below_drewN (b_alloc2 w x y) 1
set_option maxRecDepth 100000 in
set_option maxHeartbeats 1000000 in
theorem tallyPlus (a b c d : Int) (w : World) (hb : 0 ≤ b ∧ b ≤ 2000000000000) (hd : 0 ≤ d ∧ d ≤ 2000000000000) :
    Calls Try.prog 114 #[.agg #[.int .i64 a, .int .i64 b], .agg #[.int .i64 c, .int .i64 d]] w fun e w' => e = .returned (.agg #[.int .i64 (M.tplus (a, b) (c, d)).1, .int .i64 (M.tplus (a, b) (c, d)).2]) ∧ Below w.heap.size w w' := by
  have hwr : wrap64 (b + d) = b + d := IntWalk.wrap64_in _ ⟨by omega, by omega⟩
  unfold M.tplus
  by_cases h1 : c < a
  · rw [if_pos h1]
    go_enter Try.func114, Try.ntmps114
    go_wp2
    exact bodyPost_ret (v := .agg #[.int .i64 a, .int .i64 b]) (by simp [results, Try.results114, go_sem]) rfl ⟨rfl, b_al3 _ _ _ _⟩
  · rw [if_neg h1]
    by_cases h2 : a < c
    · rw [if_pos h2]
      go_enter Try.func114, Try.ntmps114
      go_wp2
      exact bodyPost_ret (v := .agg #[.int .i64 c, .int .i64 d]) (by simp [results, Try.results114, go_sem]) rfl ⟨rfl, b_al3 _ _ _ _⟩
    · rw [if_neg h2]
      go_enter Try.func114, Try.ntmps114
      go_wp2
      exact bodyPost_ret (v := .agg #[.int .i64 a, .int .i64 (b + d)]) (by simp [results, Try.results114, go_sem]) rfl ⟨rfl, b_al3 _ _ _ _⟩
set_option maxRecDepth 100000 in
set_option maxHeartbeats 1000000 in
theorem tallyTimes (a b x : Int) (w : World) (ha : M.Big a) (hx : M.Big x) :
    Calls Try.prog 136 #[.agg #[.int .i64 a, .int .i64 b], .int .i64 x] w fun e w' => e = .returned (.agg #[.int .i64 (M.ttimes (a, b) x).1, .int .i64 (M.ttimes (a, b) x).2]) ∧ Below w.heap.size w w' := by
  have HA := Lib.hid ha
  have HX := Lib.hid hx
  clear ha hx
  unfold M.ttimes
  by_cases h1 : x = -1000000000000000
  · rw [if_pos h1]
    subst h1
    go_enter Try.func136, Try.ntmps136
    go_wp2
    exact bodyPost_ret (v := .agg #[.int .i64 (-1000000000000000), .int .i64 0]) (by simp [results, Try.results136, go_sem]) rfl ⟨rfl, b_alloc2 _ _ _⟩
  · rw [if_neg h1]
    have e1 : (x == -1000000000000000) = false := by simpa using h1
    obtain ⟨y, hy⟩ : ∃ y, y = M.times a x := ⟨_, rfl⟩
    have HT : ∀ w : World, Calls Try.prog 129 #[.int .i64 a, .int .i64 x] w fun e w' => e = .returned (.int .i64 y) ∧ w = w' := fun w => by rw [hy]; exact timesB a x w HA.out HX.out
    rw [← hy]
    clear hy
    go_enter Try.func136, Try.ntmps136
    go_wp2
    go_region_with (first | (go_at_call 129; refine (HT _).mono ?_; rintro e wx ⟨rfl, rfl⟩))
    all_goals
      go_wp2
      exact bodyPost_ret (v := .agg #[.int .i64 y, .int .i64 b]) (by simp [results, Try.results136, go_sem]) rfl ⟨rfl, b_al2d _ _ _⟩
end V
end Go.Proofs.Ytmobcobdpemlnaa

namespace Go.Proofs.Ytmobcobdpemlnaa.V
open Go.RowKit Go.ChangeShapes Go.WideShapes Go.Deep

theorem mat_open {H : Type} {enc : TypeId × Value → H} {P : Program} {w : World} {base : Nat} {held : Bool} {t e q : TypeId} {fuel : Nat} {cs : List Value} {x : DataW H × List MemPlace} (ht : P.underlying t = some (.slice e)) (he : P.underlying e = some (.slice q)) (hq : P.underlying q = some (.int .i64))
    (ce : P.cellsOf e = 1) (cq : P.cellsOf q = 1) (h : DataW.trod enc P w base (fun _ => true) held fuel t cs = some x) :
    ∃ a len cap R, cs = [.slice a len cap] ∧ Mat w a len R := by
  rcases open_int_rows ht he hq ce cq h with ⟨rfl, -⟩ | ⟨a, len, cap, A, L, C, Z, rfl, hb, hl, hm, -, hr⟩
  · exact ⟨none, 0, 0, [], rfl, rfl, Nat.zero_le _, .inl rfl⟩
  · refine ⟨some a, len, cap, (List.range len).map fun r => (Z r).take (L r), rfl, by simp, by omega, ?_⟩
    by_cases h0 : len = 0
    · exact .inl h0
    · have hsp : a.spot = none := by
        have := (hr 0 (by omega)).1
        simpa [Addr.add] using World.cell?_spot this
      obtain ⟨b, off, spot⟩ := a
      simp only at hsp
      subst hsp
      refine .inr ⟨b, off, rfl, ?_, fun i hi => ?_⟩
      · have := cell_lt (hr 0 (by omega)).1
        simpa [Addr.add] using this
      · obtain ⟨h1, h2, h3, h4, h5, h6, h7⟩ := hr i (by omega)
        have eR : ((List.range len).map fun r => (Z r).take (L r)).getD i [] = (Z i).take (L i) := by simp [hi]
        rw [eR]
        have eL : ((Z i).take (L i)).length = L i := by rw [List.length_take]; omega
        rw [eL]
        refine ⟨A i, C i, by rw [← Go.WideShapes.add_plain]; exact h1, eL, by omega, ?_⟩
        by_cases hL : L i = 0
        · exact .inl hL
        · cases hA : A i with
          | none => have := h6 hA; omega
          | some a' =>
            obtain ⟨-, hc⟩ := h7 a' hA
            obtain ⟨b', off', rfl, hc'⟩ := ints_at (k := .i64) (zs := Z i) (fun j hj => hc j (by omega)) (by omega)
            refine .inr ⟨b', off', rfl, cell_lt (hc' 0 (by omega)), fun j hj => ?_⟩
            rw [hc' j (by omega)]
            simp [List.getD_eq_getElem?_getD, hj]
end Go.Proofs.Ytmobcobdpemlnaa.V

namespace Go.Proofs.Ytmobcobdpemlnaa.V
open Go.RowKit

set_option maxRecDepth 100000 in
set_option maxHeartbeats 4000000 in
theorem transposed (a : Option Addr) (n cap L : Nat) (R : List (List Int)) (w : World) (h : Mat w a n R) (hr : Rect R n L) (n1 : 1 ≤ n) (n2 : n ≤ 10) (l1 : 1 ≤ L) (l2 : L ≤ 10) :
    Calls Try.prog 88 #[.slice a n cap] w (MPost L (M.mk L n (fun i j => M.ent R j i)) w) := by
  have HA := Lib.hid h
  have HR := Lib.hid hr
  obtain ⟨b, off, ra, rc, rfl, hbw, hc⟩ := h.rect_first hr (by omega)
  have hmk := run_make_row' (P := Try.prog) 24 26 (.slice none 0 0) 24 Try.underlying24 infoS64 rfl .i64 .i64 L (by omega) (by omega)
  have hmk2 := run_make_row' (P := Try.prog) 26 2 (.int .i64 0) 8 Try.underlying26 info64 rfl .i64 .i64 n (by omega) (by omega)
  have hO0 : Hid (OwnM (w.alloc (.cells (madeCells #[.slice none 0 0] L) 26)) w.heap.size (.slice (some ⟨w.heap.size, 0, none⟩) L L) (M.part L n (fun i j => M.ent R j i) 0)) := by
    rw [M.part_zero]; exact ownM_made w _ L (Nat.le_refl _) (by unfold maxLen; omega)
  have HB0 : Hid (Below w.heap.size w (w.alloc (.cells (madeCells #[.slice none 0 0] L) 26))) := b_alloc w _
  clear h hr
  go_enter Try.func88, Try.ntmps88
  go_wp2
  clear hc
  go_loopw [14] (fun i wr => ∃ k : Nat, k ≤ L ∧ i = .int .i64 k ∧ OwnM wr w.heap.size (.slice (some ⟨w.heap.size, 0, none⟩) L L) (M.part L n (fun i j => M.ent R j i) k) ∧ Below w.heap.size w wr) (fun i _ => L - (intOf i).toNat)
  case atStart => exact ⟨0, Nat.zero_le _, rfl, hO0.out, HB0.out⟩
  case round =>
    obtain ⟨k, hk, rfl, hO, hb⟩ := hrel
    obtain ⟨wo, rfl⟩ : ∃ x, x = wr := ⟨_, rfl⟩
    have HO := Lib.hid hO
    have HB := Lib.hid hb
    clear hO hb hO0 HB0
    by_cases hlt : k < L
    · have hki : (k : Int) < (L : Int) := by omega
      have hg := HO.out.lt rfl
      have hsz := HB.out.size
      obtain ⟨v0, hv0⟩ := HO.out.outer k hlt
      have hfz0 := HO.out.outerFz k
      have hO2 := HO.out.setRow (b_alloc wo (.cells (madeCells #[.int .i64 0] n) 2)) hsz (own_made wo wo.heap.size n (Nat.le_refl _) (by unfold maxLen; omega)) k hlt
      rw [M.part_set] at hO2
      rw [World.setCell_alloc_past _ _ _ _ hg] at hO2
      have HO2 := Lib.hid hO2
      have hB2 := (((HB.out.alloc hsz (.cells (madeCells #[.int .i64 0] n) 2))).setCell (p := ⟨w.heap.size, k, none⟩) (Nat.le_refl _) (.slice (some ⟨wo.heap.size, 0, none⟩) n n))
      rw [World.setCell_alloc_past _ _ _ _ hg] at hB2
      have HB2 := Lib.hid hB2
      clear hO2 hB2
      go_wp2
      clear hv0 hfz0 hg
      go_loopw [25] (fun j wr => ∃ t : Nat, t ≤ n ∧ j = .int .i64 t ∧ OwnM wr w.heap.size (.slice (some ⟨w.heap.size, 0, none⟩) L L) (M.part2 L n (fun i j => M.ent R j i) k t) ∧ Below w.heap.size w wr) (fun j _ => n - (intOf j).toNat)
      case atStart => exact ⟨0, Nat.zero_le _, rfl, HO2.out, HB2.out⟩
      case round =>
        obtain ⟨t, ht, rfl, hO, hb⟩ := hrel
        have HOi := Lib.hid hO
        have HBi := Lib.hid hb
        clear hO hb HO2 HB2
        by_cases htl : t < n
        · have hti : (t : Int) < (n : Int) := by omega
          obtain ⟨g, q, L3, c3, x3, hgg, hg3, hq3, hL3, hx3, c31, c32, f31, ho3⟩ := HOi.out.at k t hlt (by rw [M.part2_rowlen _ _ _ _ _ hlt]; exact htl)
          injection hgg with hgg
          injection hgg with hgg
          subst hgg
          rw [M.part2_rowlen _ _ _ _ _ hlt] at hL3
          subst hL3
          obtain ⟨d, od, rd, ro, c4, x4, hdd, hx4, c41, c42⟩ := (HA.out.below HBi.out).rect_ent HR.out t k htl hlt
          injection hdd with hdd
          injection hdd with e1 e2
          subst e1 e2
          have HN : Hid (OwnM (wr.setCell ⟨q, t, none⟩ (.int .i64 x4)) w.heap.size (.slice (some ⟨w.heap.size, 0, none⟩) L L) (M.part2 L L3 (fun i j => M.ent R j i) k (t + 1))) :=
            (congrArg (OwnM _ _ _) (by rw [hx4]; exact M.part2_set _ _ (fun i j => M.ent R j i) _ _ hlt)).mp (ho3 x4)
          clear ho3 hx3 hx4
          go_wp2
          go_still_tail 10, (by kernel_rfl)
          change wpList _ _ _ _ _ wr.drew
          go_wp2
          go_roundw
          case rel => exact ⟨t + 1, by omega, by go_num, HN.out.keep (fun _ _ _ => rfl), HBi.out.drew.setCell hq3 _⟩
          case measure => simp [intOf]; omega
        · obtain rfl : t = n := by omega
          have hO2 := HOi.out
          rw [M.part2_end] at hO2
          have HO2 := Lib.hid hO2
          clear hO2
          go_wp2
          go_roundw
          case rel => exact ⟨k + 1, by omega, by go_num, HO2.out, HBi.out⟩
          case measure => simp [intOf]; omega
    · obtain rfl : k = L := by omega
      go_wp2
      go_ret
      exact ⟨_, _, rfl, by rw [← M.part_end]; exact HO.out, HB.out⟩


end Go.Proofs.Ytmobcobdpemlnaa.V

namespace Go.Proofs.Ytmobcobdpemlnaa.V
open Go.RowKit

/-- A new vector and a code. -/
def VRes (r : List Int × Int) (w : World) (e : Ending) (w' : World) : Prop :=
  ∃ a n cap, e = .returned (.tuple #[.slice a n cap, .int .i64 r.2]) ∧ Own w' w.heap.size (.slice a n cap) r.1 ∧ Below w.heap.size w w'
theorem VRes.nil {r : List Int × Int} {c : Int} {w w' : World} (hr : r = ([], c)) (hb : Below w.heap.size w w') : VRes r w (.returned (.tuple #[.slice none 0 0, .int .i64 c])) w' := by
  subst hr
  exact ⟨none, 0, 0, rfl, own_nil _ _, hb⟩

theorem ints_vec {w : World} {a : Option Addr} {n : Nat} {l : List Int} (h : Ints .i64 w a n l) (hv : M.isVec l = true) : 1 ≤ n ∧ n ≤ 10 := by
  obtain ⟨h1, h2, -⟩ := M.isVec_t hv
  rw [h.1] at h1 h2
  exact ⟨h1, h2⟩
theorem isVector_b (a : Option Addr) (n cap : Nat) (l : List Int) (w : World) (b : Bool) (hb : M.isVec l = b) (h : Ints .i64 w a n l) :
    Calls Try.prog 45 #[.slice a n cap] w fun e w' => e = .returned (.bool b) ∧ w = w' := by
  subst hb
  exact isVector _ _ _ _ _ h
theorem checkedVector_t (a : Option Addr) (n cap : Nat) (l : List Int) (w : World) (hb : M.isVec l = true) (h : Ints .i64 w a n l) :
    Calls Try.prog 86 #[.slice a n cap] w fun e w' => e = .returned (.tuple #[.slice a n cap, .int .i64 0]) ∧ w = w' := by
  have HA := Lib.hid h
  have HB := Lib.hid hb
  clear h hb
  go_enter Try.func86, Try.ntmps86
  go_wp2_with (go_at_call 45; refine (isVector_b _ _ _ l _ true HB.out HA.out).mono ?_; rintro e w' ⟨rfl, rfl⟩)
  go_ret2
  exact ⟨rfl, rfl⟩
theorem checkedVector_f (a : Option Addr) (n cap : Nat) (l : List Int) (w : World) (hb : M.isVec l = false) (h : Ints .i64 w a n l) :
    Calls Try.prog 86 #[.slice a n cap] w fun e w' => e = .returned (.tuple #[.slice none 0 0, .int .i64 3]) ∧ w = w' := by
  have HA := Lib.hid h
  have HB := Lib.hid hb
  clear h hb
  go_enter Try.func86, Try.ntmps86
  go_wp2_with (go_at_call 45; refine (isVector_b _ _ _ l _ false HB.out HA.out).mono ?_; rintro e w' ⟨rfl, rfl⟩)
  go_ret2
  exact ⟨rfl, rfl⟩

theorem sVector_b (a : Option Addr) (n cap : Nat) (l : List Int) (w : World) (b : Bool) (hb : M.isVec l = b) (h : Ints .i64 w a n l) :
    Calls Try.prog 121 #[.slice a n cap] w fun e w' => e = .returned (.bool b) ∧ w = w' := by
  subst hb
  exact sVector _ _ _ _ _ h

/-- A matrix of one row that is not its own. -/
theorem mat_one (w : World) (a : Option Addr) (n cap : Nat) (l : List Int) (h : Ints .i64 w a n l) : Mat (w.alloc (.cells #[.slice a n cap] 26)) (some ⟨w.heap.size, 0, none⟩) 1 [l] := by
  refine ⟨rfl, by decide, .inr ⟨_, _, rfl, by simp, fun i hi => ?_⟩⟩
  obtain rfl : i = 0 := by omega
  have hc := cell_one_new w (.slice a n cap) 26 0 _ rfl
  refine ⟨a, cap, ?_, ?_⟩
  · show _ = some (Value.slice a l.length cap)
    rw [h.1]; exact hc
  · show Ints _ _ _ l.length l
    rw [h.1]; exact h.below (b_alloc w _)

/-- The first row of an owned matrix. -/
theorem OwnM.row0 {w : World} {B n cap : Nat} {a : Option Addr} {R : List (List Int)} (h : OwnM w B (.slice a n cap) R) (hn : 0 < n) :
    ∃ g ra rc, a = some ⟨g, 0, none⟩ ∧ w.cell? ⟨g, 0, none⟩ = some (.slice ra (R.getD 0 []).length rc) ∧ Own w B (.slice ra (R.getD 0 []).length rc) (R.getD 0 []) := by
  have hl := h.len
  obtain ⟨V, h1, h2, h3, h4, h5⟩ := h
  obtain ⟨a', c', hv, hc, hm, hg⟩ := own_form h2
  injection hv with e1 e2 e3
  subst e1 e2 e3
  obtain ⟨g, rfl, hB, hlt⟩ := hg (by omega)
  have hr := h3 0 (by omega)
  obtain ⟨ra, rc, hrv, _⟩ := own_form hr
  rw [hrv] at hr
  refine ⟨g, ra, rc, rfl, ?_, hr⟩
  rw [World.ownsRow.cellAt h2 0 (by omega), ← hrv]
  simp [show 0 < V.length by omega]

/-- The column of a vector. -/
def M.colM (l : List Int) (n : Nat) : List (List Int) := M.mk n 1 (fun i _ => l.getD i 0)
theorem M.colM_ok {l : List Int} {n : Nat} (hv : M.isVec l = true) (hl : l.length = n) : M.isMat (M.colM l n) = true := by
  obtain ⟨h1, h2, h3⟩ := M.isVec_t hv
  exact M.isMat_mk (by omega) (by omega) (Nat.le_refl _) (by omega) (fun i hi _ _ => h3 i (by omega))
theorem M.dot_col {R : List (List Int)} {l : List Int} {n i k : Nat} (hk : k ≤ n) : M.dot R (M.colM l n) i 0 k = M.dotV R l i k := by
  unfold M.dot M.dotV
  refine M.sumN_congr fun t ht => ?_
  rw [M.colM, M.ent_mk _ _ _ _ _ (by omega) (by omega)]

set_option maxRecDepth 100000 in
set_option maxHeartbeats 4000000 in
theorem timesColumn (a : Option Addr) (n cap : Nat) (R : List (List Int)) (a' : Option Addr) (N cap' : Nat) (l : List Int) (w : World) (h : Mat w a n R) (h' : Ints .i64 w a' N l) (hr : Rect R n N) (hR : ∀ i k, i < n → k < N → M.Big (M.ent R i k)) (hl : ∀ k, k < N → M.Big (l.getD k 0)) (m1 : 1 ≤ n) (m2 : n ≤ 10) (c1 : 1 ≤ N) (c2 : N ≤ 10) :
    Calls Try.prog 87 #[.slice a n cap, .slice a' N cap'] w fun e w' => ∃ b c, e = .returned (.slice b n c) ∧ Own w' w.heap.size (.slice b n c) (M.applyM R l) ∧ Below w.heap.size w w' := by
  have HA := Lib.hid h
  have HI := Lib.hid h'
  have HR := Lib.hid hR
  have HT := Lib.hid hr
  have HC : Hid (∀ i k, i < N → k < 1 → M.Big (M.ent (M.colM l N) i k)) := fun i k hi hk => by
    unfold M.colM
    rw [M.ent_mk _ _ _ _ _ hi hk]; exact hl i hi
  have HCT : Hid (Rect (M.colM l N) N 1) := rect_mk _ _ _
  have H1T : Hid (Rect [l] 1 N) := ⟨rfl, fun i hi => by obtain rfl : i = 0 := by omega
                                                        exact h'.1⟩
  have HE1 : Hid (M.mk N 1 (fun i j => M.ent [l] j i) = M.colM l N) := by
    show _ = _
    unfold M.colM
    exact M.mk_congr fun i _ j hj => by obtain rfl : j = 0 := by omega
                                        rfl
  have HE2 : Hid ((M.mk 1 n (fun i j => M.ent (M.mk n 1 (fun i j => M.dot R (M.colM l N) i j N)) j i)).getD 0 [] = M.applyM R l) := by
    show _ = _
    rw [M.mk_row _ _ _ _ (by omega)]
    unfold M.applyM
    rw [h.1]
    refine List.map_congr_left fun j hj => ?_
    rw [M.ent_mk _ _ _ _ _ (List.mem_range.1 hj) (by omega), M.dot_col (Nat.le_refl _), h'.1]
  have HAL : Hid ((M.applyM R l).length = n) := by show _ = _; unfold M.applyM; simp [h.1]
  clear h h' hR hl hr
  go_enter Try.func87, Try.ntmps87
  go_wp2_with fail
  refine (transposed _ _ _ N [l] _ (mat_one w _ _ _ l HI.out) H1T.out (by omega) (by omega) c1 c2).mono ?_
  rintro e w1 ⟨a1, cap1, rfl, ho1, hb1⟩
  rw [HE1.out] at ho1
  have HB1 := Lib.hid (bel1 hb1)
  have HO1 := Lib.hid ho1
  clear ho1 hb1
  go_wp2_with fail
  refine (maxPlus _).mono ?_
  rintro e w2 ⟨rfl, hb2⟩
  have HB2 := Lib.hid (bnext HB1.out hb2)
  have HO2 := Lib.hid (HO1.out.below hb2)
  clear hb2
  go_wp2_with fail
  refine (multipliedB _ _ _ N R _ _ 1 (M.colM l N) _ (HA.out.below HB2.out) HO2.out.mat HT.out HCT.out HR.out HC.out m1 m2 c1 c2 (by omega) (by omega)).mono ?_
  rintro e w3 ⟨a3, cap3, rfl, ho3, hb3⟩
  have HB3 := Lib.hid (bnext HB2.out hb3)
  have HO3 := Lib.hid ho3
  clear ho3 hb3
  go_wp2_with fail
  refine (transposed _ _ _ 1 _ _ HO3.out.mat (rect_mk _ _ _) m1 m2 (by omega) (by omega)).mono ?_
  rintro e w4 ⟨a4, cap4, rfl, ho4, hb4⟩
  have HB4 := Lib.hid (bnext HB3.out hb4)
  obtain ⟨g, rr, rrc, rfl, hcr, hor⟩ := ho4.row0 (by omega)
  rw [HE2.out, HAL.out] at hcr hor
  have HOR := Lib.hid (hor.mono (show w.heap.size ≤ w3.heap.size from HB3.out.size))
  clear ho4 hb4 hor
  go_wp2
  go_ret
  exact ⟨_, _, rfl, HOR.out, HB4.out⟩



set_option maxRecDepth 100000 in
set_option maxHeartbeats 4000000 in
theorem sApplyB (a : Option Addr) (n cap : Nat) (R : List (List Int)) (a' : Option Addr) (N cap' : Nat) (l : List Int) (w : World) (h : Mat w a n R) (h' : Ints .i64 w a' N l) (hr : Rect R n N) (hR : ∀ i k, i < n → k < N → M.Big (M.ent R i k)) (hl : ∀ k, k < N → M.Big (l.getD k 0)) (n2 : n ≤ 10) (N1 : 1 ≤ N) (N2 : N ≤ 10) :
    Calls Try.prog 50 #[.slice a n cap, .slice a' N cap'] w fun e w' => ∃ b c, e = .returned (.slice b n c) ∧ Own w' w.heap.size (.slice b n c) (M.applyM R l) ∧ Below w.heap.size w w' := by
  have HA := Lib.hid h
  have HI := Lib.hid h'
  have HT := Lib.hid hr
  have HL := Lib.hid h.1
  have HV := Lib.hid hR
  have HV' := Lib.hid hl
  have HF : Hid (M.applyM R l = (List.range n).map fun i => M.dotV R l i N) := by show _ = _; unfold M.applyM; rw [h.1, h'.1]
  have hO0 : Hid (Own (w.alloc (.cells #[] 2)) w.heap.size (.slice (some ⟨w.heap.size, 0, none⟩) 0 0) []) := own_lit0 w _ (Nat.le_refl _)
  obtain ⟨rb, ro, x0, rfl, -, -, -⟩ := h'.at 0 (by omega)
  clear h h' hr hR hl
  go_enter Try.func50, Try.ntmps50
  go_wp2
  go_loopw [5, 6] (fun out i wr => ∃ (k : Nat) (b : Option Addr) (c : Nat), k ≤ n ∧ i = .int .i64 k ∧ out = .slice b k c ∧ Own wr w.heap.size (.slice b k c) ((List.range k).map fun i => M.dotV R l i N) ∧ Below w.heap.size w wr) (fun _ i _ => n - (intOf i).toNat)
  case atStart => exact ⟨0, _, _, Nat.zero_le _, rfl, rfl, hO0.out, b_alloc _ _⟩
  case round =>
    obtain ⟨k, b, c, hk, rfl, rfl, hO, hb⟩ := hrel
    obtain ⟨wo, rfl⟩ : ∃ x, x = wr := ⟨_, rfl⟩
    have HO := Lib.hid hO
    have HB := Lib.hid hb
    clear hO hb hO0
    by_cases hlt : k < n
    · have hki : (k : Int) < (n : Int) := by omega
      have HS0 : Hid ((-1000000000000000 : Int) = M.dotV R l k 0) := rfl
      go_wp2
      go_loopw [7, 8] (fun sm j wr => ∃ (u : Nat) (y : Int), u ≤ N ∧ j = .int .i64 u ∧ sm = .int .i64 y ∧ Hid (y = M.dotV R l k u) ∧ ∃ q, wr = wo.drewN q) (fun _ j _ => N - (intOf j).toNat)
      case atStart => exact ⟨0, _, Nat.zero_le _, rfl, rfl, HS0, 0, rfl⟩
      case round =>
        obtain ⟨u, y, hu, rfl, rfl, HY, q2, rfl⟩ := hrel
        by_cases hul : u < N
        · have hui : (u : Int) < (N : Int) := by omega
          obtain ⟨d, od, rd, rdo, c4, x1, rfl, hx1, c41, c42⟩ := (HA.out.below HB.out).rect_ent HT.out k u hlt hul
          obtain ⟨rx, rxo, x2, hrr, -, hx2, hcx2⟩ := (HI.out.below HB.out).at u hul
          injection hrr with hrr
          injection hrr with e1 e2
          subst e1 e2
          have HV1 : Hid (M.Big x1) := by show M.Big _; rw [hx1]; exact HV.out k u hlt hul
          have HV2 : Hid (M.Big x2) := by show M.Big _; rw [hx2]; exact HV'.out u hul
          obtain ⟨z, hz⟩ : ∃ z, z = M.times x1 x2 := ⟨_, rfl⟩
          have HY2 : Hid ((if y < z then z else y) = M.dotV R l k (u + 1)) := by show _ = _; rw [← M.ifmax, hz, HY.out, hx1, hx2]; rfl
          have HC1 : ∀ w : World, Calls Try.prog 92 #[.int .i64 x1, .int .i64 x2] w fun e w' => e = .returned (.int .i64 z) ∧ w = w' := by
            intro w
            rw [hz]
            exact sTimesB _ _ _ HV1.out HV2.out
          clear hx1 hx2 hz
          go_wp2
          go_quiet ((go_at_call 92; exact q_more_s (HC1 _)))
          go_wp2
          go_roundw
          case rel => exact ⟨u + 1, _, by omega, by go_num, rfl, HY2, _, rfl⟩
          case measure => simp [intOf]; omega
        · obtain rfl : u = N := by omega
          have HOq : Hid (Own (wo.drewN q2) w.heap.size (.slice b k c) ((List.range k).map fun i => M.dotV R l i u)) := HO.out
          have HBq : Hid (Below w.heap.size w (wo.drewN q2)) := below_drewN HB.out _
          have hsz : w.heap.size ≤ (wo.drewN q2).heap.size := HBq.out.size
          have hlen := HO.out.len
          have HLn := Lib.hid hlen
          clear hlen
          generalize wo.drewN q2 = wq at HOq HBq hsz
          go_wp2_with (at_builtin; refine append1 _ rfl (.tmp 36) (.tmp 38) rfl w.heap.size _ _ _ k HOq.out.len.symm rfl HOq.out rfl (by rw [← HLn.out]; omega) hsz ?_)
          intro b2 c2 w2 hO2 hb2 _
          have HO2 := Lib.hid hO2
          have HB2 := Lib.hid (HBq.out.trans hb2)
          clear hO2 hb2
          go_wp2
          go_roundw
          case rel => exact ⟨k + 1, _, _, by omega, by go_num, rfl, by rw [M.range_snoc, ← HY.out]; exact HO2.out, HB2.out⟩
          case measure => simp [intOf]; omega
    · obtain rfl : k = n := by omega
      go_wp2
      go_ret
      exact ⟨_, _, rfl, by rw [HF.out]; exact HO.out, HB.out⟩

theorem sApply (a : Option Addr) (n cap : Nat) (R : List (List Int)) (a' : Option Addr) (N cap' : Nat) (l : List Int) (w : World) (h : Mat w a n R) (h' : Ints .i64 w a' N l) (hr : Rect R n N) (hR : M.isMat R = true) (hl : M.isVec l = true) (n2 : n ≤ 10) (N1 : 1 ≤ N) (N2 : N ≤ 10) :
    Calls Try.prog 50 #[.slice a n cap, .slice a' N cap'] w fun e w' => ∃ b c, e = .returned (.slice b n c) ∧ Own w' w.heap.size (.slice b n c) (M.applyM R l) ∧ Below w.heap.size w w' :=
  if hn : 0 < n then sApplyB a n cap R a' N cap' l w h h' hr (fun i k hi hk => M.big_val (tm_val hR hr hn hi hk)) (fun k hk => M.big_val ((M.isVec_t hl).2.2 k (by rw [h'.1]; exact hk))) n2 N1 N2
  else sApplyB a n cap R a' N cap' l w h h' hr (fun i k hi hk => absurd (Nat.lt_of_le_of_lt (Nat.zero_le _) hi) hn) (fun k hk => M.big_val ((M.isVec_t hl).2.2 k (by rw [h'.1]; exact hk))) n2 N1 N2


end Go.Proofs.Ytmobcobdpemlnaa.V

namespace Go.Proofs.Ytmobcobdpemlnaa
namespace M
/-- What is asked of the element i. -/
def stepOk (n : Nat) (l : List Int) (i : Nat) : Prop := inN n (l.getD i 0) = true ∧ (0 < i → l.getD (i - 1) 0 < l.getD i 0)
theorem prin_ok {n : Nat} {l : List Int} (h : ∀ i, i < l.length → stepOk n l i) : ndsB n l = true ∧ incB l = true := by
  constructor
  · unfold ndsB
    rw [List.all_eq_true]
    intro x hx
    obtain ⟨i, hi, rfl⟩ := List.mem_iff_getElem.1 hx
    have h1 := (h i hi).1
    rw [List.getD_eq_getElem?_getD, List.getElem?_eq_getElem hi] at h1
    have h1 : inN n l[i] = true := h1
    unfold inN at h1
    rw [decide_eq_true_iff]
    simpa using h1
  · unfold incB
    rw [List.all_eq_true]
    intro i hi
    have hi := List.mem_range.1 hi
    have := (h (i + 1) (by omega)).2 (by omega)
    rw [decide_eq_true_iff]
    simpa using this
theorem prin_no {n i : Nat} {l : List Int} (hi : i < l.length) (h : ¬ stepOk n l i) : (ndsB n l && incB l) = false := by
  cases e : (ndsB n l && incB l) with
  | false => rfl
  | true =>
    exfalso
    rw [Bool.and_eq_true] at e
    apply h
    refine ⟨?_, fun h0 => ?_⟩
    · have h1 := List.all_eq_true.1 e.1 l[i] (List.getElem_mem hi)
      rw [decide_eq_true_iff] at h1
      rw [List.getD_eq_getElem?_getD, List.getElem?_eq_getElem hi]
      show inN n l[i] = true
      unfold inN
      simpa using h1
    · unfold incB at e
      have h1 := List.all_eq_true.1 e.2 (i - 1) (List.mem_range.2 (by omega))
      rw [decide_eq_true_iff, show i - 1 + 1 = i by omega] at h1
      exact h1
theorem prin_len {n : Nat} {l : List Int} (h : ∀ i, i < l.length → stepOk n l i) : l.length ≤ n := by
  have key : ∀ i, i < l.length → (i : Int) ≤ l.getD i 0 := fun i => by
    induction i with
    | zero =>
      intro hi
      have := (h 0 hi).1
      unfold inN at this
      simp at this
      simpa using this.1
    | succ i ih =>
      intro hi
      have h1 := ih (by omega)
      have h2 := (h (i + 1) hi).2 (by omega)
      rw [Nat.add_sub_cancel] at h2
      push_cast
      omega
  by_cases e : l.length = 0
  · omega
  · have h1 := key (l.length - 1) (by omega)
    have h2 := (h (l.length - 1) (by omega)).1
    unfold inN at h2
    simp only [Bool.and_eq_true, decide_eq_true_iff] at h2
    omega
end M
end Go.Proofs.Ytmobcobdpemlnaa

namespace Go.Proofs.Ytmobcobdpemlnaa
namespace M
/-- The least number from k on that fits, within so many. -/
def lv (p : Nat → Bool) : Nat → Nat → Nat
  | 0, k => k
  | f + 1, k => if p k then k else lv p f (k + 1)
theorem lv_is {p : Nat → Bool} {m : Nat} (hm : p m = true) (f : Nat) : ∀ k, k ≤ m → m < k + f → (∀ v, k ≤ v → v < m → p v = false) → lv p f k = m := by
  induction f with
  | zero => intro k h1 h2; omega
  | succ f ih =>
    intro k h1 h2 h3
    by_cases e : k = m
    · subst e; show (if p k then k else _) = _; rw [if_pos hm]
    · show (if p k then k else _) = _
      rw [h3 k (Nat.le_refl _) (by omega), if_neg (by simp)]
      exact ih (k + 1) (by omega) (by omega) fun v h4 h5 => h3 v (by omega) h5
theorem lv_ex {p : Nat → Bool} {n : Nat} (h : ∃ m, m < n ∧ p m = true) : p (lv p n 0) = true ∧ lv p n 0 < n ∧ ∀ v, v < lv p n 0 → p v = false := by
  have key : ∀ n, (∃ m, m < n ∧ p m = true) → ∃ m, m < n ∧ p m = true ∧ ∀ v, v < m → p v = false := by
    intro n
    induction n with
    | zero => rintro ⟨m, hm, _⟩; omega
    | succ n ih =>
      rintro ⟨m, hm, hp⟩
      by_cases e : ∃ m, m < n ∧ p m = true
      · obtain ⟨m, h1, h2, h3⟩ := ih e
        exact ⟨m, by omega, h2, h3⟩
      · refine ⟨m, hm, hp, fun v hv => ?_⟩
        cases h : p v with
        | false => rfl
        | true => exact absurd ⟨v, by omega, h⟩ e
  obtain ⟨m, h1, h2, h3⟩ := key n h
  rw [lv_is h2 n 0 (Nat.zero_le _) (by omega) fun v _ hv => h3 v hv]
  exact ⟨h2, h1, h3⟩
/-- Whether a heaviest path with s + 1 arcs goes on from x by v. -/
def stepB (A : Nat → Nat → Int) (n t s x v : Nat) : Bool := decide (times (cpw A n s t v) (A v x) = cpw A n (s + 1) t x)
def nxt (A : Nat → Nat → Int) (n t s x : Nat) : Nat := lv (stepB A n t s x) n 0
/-- The number of arcs. -/
def arcs (A : Nat → Nat → Int) (n f t : Nat) : Nat := lv (fun s => decide (cpw A n s t f = starF A n t f)) 11 0
/-- The nodes of the path. -/
def xs (A : Nat → Nat → Int) (n t s f : Nat) : Nat → Nat
  | 0 => f
  | k + 1 => nxt A n t (s - 1 - k) (xs A n t s f k)
def hvL (A : Nat → Nat → Int) (n t s f : Nat) (k : Nat) : List Int := (List.range k).map fun i => ((xs A n t s f i : Nat) : Int)
def heavyRes (R : List (List Int)) (f t : Int) : List Int × Int :=
  if sqB R then (if inN R.length f && inN R.length t then (if noPos (ent R) R.length then (if starF (ent R) R.length t.toNat f.toNat = -1000000000000000 then ([], 4)
    else (hvL (ent R) R.length t.toNat (arcs (ent R) R.length f.toNat t.toNat) f.toNat (arcs (ent R) R.length f.toNat t.toNat + 1), 0)) else ([], 5)) else ([], 2)) else ([], 1)
theorem hvL_len (A : Nat → Nat → Int) (n t s f k : Nat) : (hvL A n t s f k).length = k := by simp [hvL]
theorem hvL_succ (A : Nat → Nat → Int) (n t s f k : Nat) : hvL A n t s f (k + 1) = hvL A n t s f k ++ [((xs A n t s f k : Nat) : Int)] := by
  unfold hvL; rw [List.range_succ]; simp
theorem hvL_at (A : Nat → Nat → Int) (n t s f k i : Nat) (h : i < k) : (hvL A n t s f k).getD i 0 = ((xs A n t s f i : Nat) : Int) := by
  simp [hvL, h]
theorem lv_le (p : Nat → Bool) (f : Nat) : ∀ k, lv p f k ≤ k + f := by
  induction f with
  | zero => intro k; exact Nat.le_refl _
  | succ f ih =>
    intro k
    show (if p k then k else _) ≤ _
    split
    · omega
    · have := ih (k + 1); omega
theorem heavyRes_len (R : List (List Int)) (f t : Int) : (heavyRes R f t).1.length ≤ 12 := by
  unfold heavyRes
  split
  · split
    · split
      · split
        · simp
        · rw [hvL_len]
          have := lv_le (fun s => decide (cpw (ent R) R.length s t.toNat f.toNat = starF (ent R) R.length t.toNat f.toNat)) 11 0
          unfold arcs
          omega
      · simp
    · simp
  · simp
section
variable {A : Nat → Nat → Int} {n : Nat} (hn : n ≤ 10) (hA : ∀ i j, i < n → j < n → Sm 1000001000000 (A i j))
include hn hA
/-- There is a number of arcs with which the weight in the star is reached. -/
theorem arcs_is (hp : noPos A n = true) {f t : Nat} (hf : f < n) (ht : t < n) (h : starF A n t f ≠ -1000000000000000) :
    cpw A n (arcs A n f t) t f = starF A n t f ∧ arcs A n f t ≤ 10 ∧ ∀ s, s < arcs A n f t → cpw A n s t f ≠ starF A n t f := by
  have hd := o_diag hn hA hp
  have e1 : o (starF A n t f) = obm (fun i j => o (A i j)) n n t f := by
    unfold starF
    rw [← clo_star hn hA hp ht hf, o_cbm hA n (by omega) t f ht hf]
  obtain ⟨s, hs, hle⟩ := opw_star (f := fun i j => o (A i j)) ht hf (by rw [← e1]; exact fun e => h (o_none.1 e))
  have hge := opw_le hd ht hf s
  have e2 := ole_anti hge hle
  rw [← o_cpw hA s (by omega) t f ht hf, ← e1] at e2
  have e3 := o_inj e2
  obtain ⟨h1, h2, h3⟩ := lv_ex (p := fun s => decide (cpw A n s t f = starF A n t f)) (n := 11) ⟨s, by omega, by simpa using e3⟩
  refine ⟨of_decide_eq_true h1, by unfold arcs; omega, fun s hs => ?_⟩
  have := h3 s hs
  simpa using this
end
section
variable {A : Nat → Nat → Int} {n : Nat} (hA : ∀ i j, i < n → j < n → Sm 1000001000000 (A i j))
include hA
/-- A heaviest path with more than no arcs goes on. -/
theorem nxt_is {t s x : Nat} (hs : s ≤ 10) (ht : t < n) (hx : x < n) (h : cpw A n (s + 1) t x ≠ -1000000000000000) :
    nxt A n t s x < n ∧ times (cpw A n s t (nxt A n t s x)) (A (nxt A n t s x) x) = cpw A n (s + 1) t x ∧ ∀ v, v < nxt A n t s x → times (cpw A n s t v) (A v x) ≠ cpw A n (s + 1) t x := by
  have hex : ∃ v, v < n ∧ stepB A n t s x v = true := by
    have e := o_cpw hA (s + 1) (by omega) t x ht hx
    rcases osum_att n (fun u => omul (opw (fun i j => o (A i j)) n s t u) (o (A u x))) with k | ⟨u, hu, k⟩
    · exact absurd (o_none.1 (e.trans k)) h
    · refine ⟨u, hu, ?_⟩
      unfold stepB
      rw [decide_eq_true_eq]
      refine o_inj ?_
      rw [o_times (cpw_sm hA s t u ht hu) (hA u x hu hx) (by omega) (by omega), o_cpw hA s (by omega) t u ht hu]
      exact (e.trans k).symm
  obtain ⟨h1, h2, h3⟩ := lv_ex hex
  refine ⟨h2, of_decide_eq_true h1, fun v hv => ?_⟩
  have := h3 v hv
  simpa [stepB] using this
theorem nxt_fin {t s x : Nat} (hs : s ≤ 10) (ht : t < n) (hx : x < n) (h : cpw A n (s + 1) t x ≠ -1000000000000000) :
    cpw A n s t (nxt A n t s x) ≠ -1000000000000000 ∧ A (nxt A n t s x) x ≠ -1000000000000000 := by
  obtain ⟨h1, h2, -⟩ := nxt_is hA hs ht hx h
  refine ⟨fun e => h ?_, fun e => h ?_⟩
  · rw [← h2, e, bot_times]
  · rw [← h2, e, times_bot]
/-- Along the path the rest stays a heaviest one. -/
theorem xs_inv {t s f : Nat} (hs : s ≤ 10) (ht : t < n) (hf : f < n) (h : cpw A n s t f ≠ -1000000000000000) (k : Nat) (hk : k ≤ s) :
    xs A n t s f k < n ∧ cpw A n (s - k) t (xs A n t s f k) ≠ -1000000000000000 := by
  induction k with
  | zero => exact ⟨hf, h⟩
  | succ k ih =>
    obtain ⟨h1, h2⟩ := ih (by omega)
    have e : s - k = s - 1 - k + 1 := by omega
    rw [e] at h2
    show nxt A n t (s - 1 - k) (xs A n t s f k) < n ∧ cpw A n (s - (k + 1)) t (nxt A n t (s - 1 - k) (xs A n t s f k)) ≠ _
    rw [show s - (k + 1) = s - 1 - k by omega]
    exact ⟨(nxt_is hA (by omega) ht h1 h2).1, (nxt_fin hA (by omega) ht h1 h2).1⟩
/-- What is left of the weight. -/
theorem xs_need {t s f : Nat} (hs : s ≤ 10) (ht : t < n) (hf : f < n) (h : cpw A n s t f ≠ -1000000000000000) (k : Nat) (hk : k < s) :
    cpw A n (s - (k + 1)) t (xs A n t s f (k + 1)) = cpw A n (s - k) t (xs A n t s f k) - A (xs A n t s f (k + 1)) (xs A n t s f k) := by
  obtain ⟨h1, h2⟩ := xs_inv hA hs ht hf h k (by omega)
  have e : s - k = s - 1 - k + 1 := by omega
  rw [e] at h2
  have h3 := (nxt_is hA (by omega) ht h1 h2).2.1
  have h4 := nxt_fin hA (by omega) ht h1 h2
  rw [show s - (k + 1) = s - 1 - k by omega, e]
  show cpw A n (s - 1 - k) t (nxt A n t (s - 1 - k) (xs A n t s f k)) = _ - A (nxt A n t (s - 1 - k) (xs A n t s f k)) _
  unfold times at h3
  rw [if_neg (by rintro (e | e); exact h4.1 e; exact h4.2 e)] at h3
  omega
theorem xs_end {t s f : Nat} (hs : s ≤ 10) (ht : t < n) (hf : f < n) (h : cpw A n s t f ≠ -1000000000000000) : xs A n t s f s = t := by
  obtain ⟨h1, h2⟩ := xs_inv hA hs ht hf h s (Nat.le_refl _)
  rw [Nat.sub_self] at h2
  have h2 : unit t (xs A n t s f s) ≠ -1000000000000000 := h2
  unfold unit at h2
  split at h2
  · next e => exact e.symm
  · exact absurd rfl h2
end
end M
end Go.Proofs.Ytmobcobdpemlnaa

namespace Go.Proofs.Ytmobcobdpemlnaa.V
open Go.RowKit

/-- The matrices P, n rows each, in a list of its own; each was made at a world of its own and has stayed since. -/
def Pws (w : World) (B : Nat) (v : Value) (m n : Nat) (P : Nat → List (List Int)) : Prop :=
  ∃ V : List Value, V.length = m ∧ w.ownsRow B 24 1 v m V ∧
    ∀ i, i < m → ∃ (wi : World) (lo : Nat) (b : Option Addr) (c : Nat), V.getD i (.slice none 0 0) = .slice b n c ∧ OwnM wi lo (.slice b n c) (P i) ∧ wi.heap.size ≤ w.heap.size ∧ Same lo wi.heap.size wi w ∧ ∀ k, v.ownBlock = some k → ¬(lo ≤ k ∧ k < wi.heap.size)

theorem OwnM.same {wi w : World} {lo : Nat} {v : Value} {R : List (List Int)} (h : OwnM wi lo v R) (hs : Same lo wi.heap.size wi w) : OwnM w lo v R :=
  h.keep hs
theorem Pws.below {w w' : World} {B : Nat} {v : Value} {m n : Nat} {P : Nat → List (List Int)} (h : Pws w B v m n P) (hb : Below w.heap.size w w') : Pws w' B v m n P := by
  obtain ⟨V, h1, h2, h3⟩ := h
  refine ⟨V, h1, ownsRow_keep h2 (fun k hv => hb.block k (own_lt h2 hv).2), fun i hi => ?_⟩
  obtain ⟨wi, lo, b, c, e, ho, hz, hs, hk⟩ := h3 i hi
  exact ⟨wi, lo, b, c, e, ho, Nat.le_trans hz hb.size, hs.below hb hz, hk⟩
/-- One of the matrices. -/
theorem Pws.at {w : World} {B : Nat} {a : Option Addr} {m n cap : Nat} {P : Nat → List (List Int)} (h : Pws w B (.slice a m cap) m n P) (i : Nat) (hi : i < m) :
    ∃ g b c, a = some ⟨g, 0, none⟩ ∧ w.cell? ⟨g, i, none⟩ = some (.slice b n c) ∧ Mat w b n (P i) := by
  obtain ⟨V, h1, h2, h3⟩ := h
  obtain ⟨a', c', hv, hc, hm, hg⟩ := own_form h2
  injection hv with e1 e2 e3
  subst e1 e3
  obtain ⟨g, rfl, hB, hlt⟩ := hg (by omega)
  obtain ⟨wi, lo, b, c, e, ho, hz, hs, hk⟩ := h3 i hi
  refine ⟨g, b, c, rfl, ?_, (ho.same hs).mat⟩
  rw [World.ownsRow.cellAt h2 i (by omega), ← e]
  simp [show i < V.length by omega]
theorem Pws.caps {w : World} {B : Nat} {a : Option Addr} {m n cap : Nat} {P : Nat → List (List Int)} (h : Pws w B (.slice a m cap) m n P) : m ≤ cap ∧ cap ≤ maxLen := by
  obtain ⟨V, h1, h2, _⟩ := h
  obtain ⟨a', c', hv, k1, k2, _⟩ := own_form h2
  injection hv with e1 e2 e3
  subst e3
  exact ⟨k1, k2⟩
theorem pws_lit1 (w : World) (B n : Nat) (hB : B ≤ w.heap.size) {b : Option Addr} {c : Nat} {M : List (List Int)} (ho : OwnM w B (.slice b n c) M) (P : Nat → List (List Int)) (hP : P 0 = M) :
    Pws (w.alloc (.cells #[.slice b n c] 24)) B (.slice (some ⟨w.heap.size, 0, none⟩) 1 1) 1 n P := by
  refine ⟨[.slice b n c], rfl, World.ownsRow_lit w #[.slice b n c] 1 hB (by decide) rfl, fun i hi => ?_⟩
  obtain rfl : i = 0 := by omega
  refine ⟨w, B, b, c, rfl, by rw [hP]; exact ho, (b_alloc w _).size, (Same.refl B w.heap.size w).below (b_alloc w _) (Nat.le_refl _), fun k hk => ?_⟩
  simp only [Value.ownBlock, Option.some.injEq] at hk
  omega
theorem infoM64 : (Try.prog.info? 24).map (fun i => (i.zero, i.size, i.bytes)) = some (some (.slice none 0 0), 1, 24) := by kernel_rfl

set_option maxRecDepth 100000 in
set_option maxHeartbeats 400000 in
theorem sNode (a : Option Addr) (n cap : Nat) (x : Int) (w : World) (hn : n ≤ 1000) : Calls Try.prog 72 #[.slice a n cap, .int .i64 x] w fun e w' => e = .returned (.bool (M.inN n x)) ∧ w = w' := by
  go_enter Try.func72, Try.ntmps72
  go_wp2_with fail
  refine (sIn _ _ _ _).mono ?_
  rintro e w' ⟨rfl, rfl⟩
  go_wp2
  go_ret
  exact ⟨retB (by unfold M.inN; rw [Bool.eq_iff_iff]; simp; omega), rfl⟩
theorem sNode_b (a : Option Addr) (n cap : Nat) (x : Int) (w : World) (b : Bool) (hb : M.inN n x = b) (hn : n ≤ 1000) : Calls Try.prog 72 #[.slice a n cap, .int .i64 x] w fun e w' => e = .returned (.bool b) ∧ w = w' := by
  subst hb; exact sNode a n cap x w hn
end Go.Proofs.Ytmobcobdpemlnaa.V
