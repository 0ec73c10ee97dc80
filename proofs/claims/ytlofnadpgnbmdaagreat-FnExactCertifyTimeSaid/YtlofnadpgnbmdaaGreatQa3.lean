/- Texts laid together: Mark, Grb, Grc, Vals0, Grd. -/
import Derived.Test.YtlofnadpgnbmdaaGreatRows
import Derived.Test.YtlofnadpgnbmdaaGreatQa1
import Derived.Test.YtlofnadpgnbmdaaGreatQa2
import Derived.WalkKit
import Derived.ProofKit
import Derived.WalkSmall
import Derived.Deep.QuietTactic
import Derived.BigQuiet
import Derived.BigRegion
import Derived.Deep.Draws
import Derived.Lib.Hide
import Derived.OpenShut
import Derived.Deep.OwnRows
import Derived.Deep.RegionWith
set_option linter.unusedSimpArgs false
set_option linter.unusedVariables false
set_option linter.unusedSectionVars false
namespace Go.Proofs.YtlofnadpgnbmdaaGreat.V
open Go.RowKit

/-- Only blocks of S may have changed, and no others were added. -/
structure Chg (S : Nat → Prop) (w w' : World) : Prop where
  os : w'.os = w.os
  tape : w'.tape = w.tape
  output : w'.output = w.output
  size : w'.heap.size = w.heap.size
  other : ∀ k, ¬ S k → w'.heap[k]? = w.heap[k]?

theorem Chg.refl (S : Nat → Prop) (w : World) : Chg S w w := ⟨rfl, rfl, rfl, rfl, fun _ _ => rfl⟩
theorem Chg.trans {S : Nat → Prop} {a b c : World} (h : Chg S a b) (k : Chg S b c) : Chg S a c :=
  ⟨k.os.trans h.os, k.tape.trans h.tape, k.output.trans h.output, k.size.trans h.size, fun i hi => (k.other i hi).trans (h.other i hi)⟩
theorem Chg.mono {S S' : Nat → Prop} {a b : World} (h : Chg S a b) (hs : ∀ k, S k → S' k) : Chg S' a b :=
  ⟨h.os, h.tape, h.output, h.size, fun k hk => h.other k (fun hh => hk (hs k hh))⟩
theorem Chg.below {S : Nat → Prop} {a b : World} {B : Nat} (h : Chg S a b) (hs : ∀ k, S k → B ≤ k) : Below B a b :=
  ⟨h.os, h.tape, h.output, Nat.le_of_eq h.size.symm, fun k hk => h.other k (fun hh => by have := hs k hh; omega)⟩
theorem Chg.set {S : Nat → Prop} {a b : World} (h : Chg S a b) {g i : Nat} (hg : S g) (v : Value) : Chg S a (b.setCell ⟨g, i, none⟩ v) :=
  ⟨h.os, h.tape, h.output, by have := h.size; simpa [World.setCell] using this, fun k hk => (Below.heap_setCell _ _ _ _ (by show k ≠ g; intro e; subst e; exact hk hg)).trans (h.other k hk)⟩
theorem Own.chg {S : Nat → Prop} {w w' : World} {B : Nat} {v : Value} {l : List Int} (h : Own w B v l) (hc : Chg S w w') (hs : ∀ k, v.ownBlock = some k → ¬ S k) : Own w' B v l :=
  ownsRow_keep h fun k hk => hc.other k (hs k hk)

/-- The blocks from lo up to hi are as they were. -/
def Same (lo hi : Nat) (w w' : World) : Prop := ∀ k, lo ≤ k → k < hi → w'.heap[k]? = w.heap[k]?
theorem Same.refl (lo hi : Nat) (w : World) : Same lo hi w w := fun _ _ _ => rfl
theorem Same.below {lo hi b : Nat} {a w w' : World} (h : Same lo hi a w) (hb : Below b w w') (hh : hi ≤ b) : Same lo hi a w' :=
  fun k h1 h2 => (hb.block k (by omega)).trans (h k h1 h2)
theorem Same.chg {S : Nat → Prop} {lo hi : Nat} {a w w' : World} (h : Same lo hi a w) (hc : Chg S w w') (hs : ∀ k, lo ≤ k → k < hi → ¬ S k) : Same lo hi a w' :=
  fun k h1 h2 => (hc.other k (hs k h1 h2)).trans (h k h1 h2)

/-- One row of an owned matrix is rewritten. -/
theorem OwnV.row {w w' : World} {B : Nat} {v : Value} {R : List (List Int)} {V : List Value} {l : List Int} (h : OwnV w B v R V) (i : Nat) (hi : i < R.length) (ho : Own w' B (V.getD i (.slice none 0 0)) l)
    (hc : Chg (fun k => (V.getD i (.slice none 0 0)).ownBlock = some k) w w') : OwnV w' B v (R.set i l) V := by
  obtain ⟨h1, h2, h3, h4, h5⟩ := h
  refine ⟨by simpa using h1, ?_, ?_, ?_, ?_⟩
  · rw [List.length_set]
    exact ownsRow_keep h2 fun k hk => hc.other k (fun e => h4 i hi k e hk)
  · intro j hj
    simp only [List.length_set] at hj
    rw [getD_set _ _ _ _ _ hi]
    by_cases e : j = i
    · subst e; rw [if_pos rfl]; exact ho
    · rw [if_neg e]
      exact (h3 j hj).chg hc (fun k hk e2 => h5 j i hj hi e k hk e2)
  · intro j hj
    simp only [List.length_set] at hj
    exact h4 j hj
  · intro j t hj ht
    simp only [List.length_set] at hj ht
    exact h5 j t hj ht

set_option maxRecDepth 100000 in
set_option maxHeartbeats 400000 in
theorem markInts (a : Option Addr) (n cap B : Nat) (l : List Int) (m : Int) (w : World) (h : Own w B (.slice a n cap) l) (hn : n ≤ 1048576) (h1 : 0 ≤ m) (h2 : m ≤ 40000000) :
    Calls Tryz.prog 41 #[.slice a n cap, .int .i64 m] w fun e w' => e = .returned (.int .i64 (m + n)) ∧ Own w' B (.slice a n cap) (M.iota m n) ∧ Chg (fun k => (Value.slice a n cap).ownBlock = some k) w w' := by
  have HO := Lib.hid h
  have HL := Lib.hid h.len
  have hgg := own_form h
  obtain ⟨a', c', hv, -, -, hg⟩ := hgg
  injection hv with e1 e2 e3
  subst e1 e3
  rw [← e2] at hg
  clear h e2
  go_enter Tryz.func41, Tryz.ntmps41
  go_wp2
  go_loopw [1, 5] (fun x i wr => ∃ k : Nat, k ≤ n ∧ i = .int .i64 k ∧ x = .int .i64 (m + k) ∧ Own wr B (.slice a n cap) ((List.range n).map fun j => if j < k then m + (j : Int) else l.getD j 0) ∧ Chg (fun k => (Value.slice a n cap).ownBlock = some k) w wr) (fun _ i _ => n - (intOf i).toNat)
  case atStart =>
    refine ⟨0, Nat.zero_le _, rfl, by simp, ?_, Chg.refl _ _⟩
    refine (congrArg (Own _ _ _) ?_).mp HO.out
    have hl := HL.out
    apply List.ext_getElem
    · simp [hl]
    · intro i h1 h2
      simp [h1]
  case round =>
    obtain ⟨k, hk, rfl, rfl, hrow, hb⟩ := hrel
    by_cases hlt : k < n
    · obtain ⟨g, rfl, hBg, hgl⟩ := hg (by omega)
      have hst : ∃ v, wr.cell? ⟨g, k, none⟩ = some v := ⟨_, hrow.cellAt k hlt⟩
      obtain ⟨v, hst⟩ := hst
      have hfz := hrow.frozenAt k
      have HR := Lib.hid hrow
      have HB := Lib.hid hb
      clear hrow hb hg
      have hb1 : 0 ≤ m + (k : Int) := by omega
      have hb2 : m + (k : Int) ≤ 50000000 := by omega
      go_wp2
      go_roundw
      case rel =>
        refine ⟨k + 1, by omega, by go_num, vi (by omega), ?_, HB.out.set rfl _⟩
        have := Own.set HR.out k (m + k)
        rw [M.map_set] at this
        refine (congrArg (Own _ _ _) (List.map_congr_left fun j hj => ?_)).mp this
        by_cases e : j = k
        · subst e; rw [if_pos rfl, if_pos (by omega)]
        · rw [if_neg e]
          by_cases e2 : j < k
          · rw [if_pos e2, if_pos (by omega)]
          · rw [if_neg e2, if_neg (by omega)]
      case measure => simp [intOf]; omega
    · have hkn : k = n := by omega
      subst hkn
      have HR := Lib.hid hrow
      have HB := Lib.hid hb
      clear hrow hb hg
      go_wp2
      go_ret
      refine ⟨rfl, (congrArg (Own _ _ _) ?_).mp HR.out, HB.out⟩
      unfold M.iota
      exact List.map_congr_left fun j hj => by rw [if_pos (List.mem_range.1 hj)]

set_option maxRecDepth 100000 in
set_option maxHeartbeats 400000 in
theorem heldInts (a : Option Addr) (n cap : Nat) (m : Int) (w : World) (h : Ints .i64 w a n (M.iota m n)) (hn : n ≤ 1048576) (h1 : 0 ≤ m) (h2 : m ≤ 40000000) :
    Calls Tryz.prog 42 #[.slice a n cap, .int .i64 m] w fun e w' => e = .returned (.int .i64 (m + n)) ∧ w = w' := by
  have HI := Lib.hid h
  clear h
  go_enter Tryz.func42, Tryz.ntmps42
  go_wp2
  go_loop [1, 5] (fun x i => ∃ k : Nat, k ≤ n ∧ i = .int .i64 k ∧ x = .int .i64 (m + k)) (fun _ i => n - (intOf i).toNat)
  case atStart => exact ⟨0, Nat.zero_le _, rfl, by simp⟩
  case round =>
    obtain ⟨k, hk, rfl, rfl⟩ := hrel
    by_cases hlt : k < n
    · obtain ⟨b, off, x, rfl, hbl, hx, hc⟩ := HI.out.at k hlt
      rw [M.iota_getD m n k hlt] at hx
      subst hx
      have hb1 : 0 ≤ m + (k : Int) := by omega
      have hb2 : m + (k : Int) ≤ 50000000 := by omega
      go_wp2
      go_round
      case rel => exact ⟨k + 1, by omega, by go_num, vi (by omega)⟩
      case measure => simp [intOf]; omega
    · have hkn : k = n := by omega
      subst hkn
      go_wp2
      go_ret
      exact ⟨rfl, rfl⟩

theorem markV (a : Option Addr) (n cap B : Nat) (l : List Int) (m : Int) (w0 w : World) (h0 : Own w0 B (.slice a n cap) l) (hb0 : Same B w0.heap.size w0 w) (hn : n ≤ 1048576) (h1 : 0 ≤ m) (h2 : m ≤ 40000000) :
    Calls Tryz.prog 41 #[.slice a n cap, .int .i64 m] w fun e w' => ∃ y : Int, e = .returned (.int .i64 y) ∧ 0 ≤ y ∧ Hid (y = m + n) ∧ Own w' B (.slice a n cap) (M.iota m n) ∧ Chg (fun k => B ≤ k ∧ k < w0.heap.size) w w' := by
  refine (markInts _ _ _ B l _ _ (h0.keep hb0) hn h1 h2).mono ?_
  rintro e w' ⟨rfl, ho, hc⟩
  exact ⟨_, rfl, by omega, rfl, ho, hc.mono (fun k hk => own_lt h0 hk)⟩
theorem heldV (a : Option Addr) (n cap : Nat) (m y : Int) (w : World) (h : Ints .i64 w a n (M.iota m n)) (hn : n ≤ 1048576) (h1 : 0 ≤ m) (h2 : m ≤ 40000000) (hy : y = m + n) :
    Calls Tryz.prog 42 #[.slice a n cap, .int .i64 m] w fun e w' => e = .returned (.int .i64 y) ∧ w = w' := by
  subst hy
  exact heldInts _ _ _ _ _ h hn h1 h2
end Go.Proofs.YtlofnadpgnbmdaaGreat.V

namespace Go.Proofs.YtlofnadpgnbmdaaGreat
namespace M
/-- The first k places of l, then zeros. -/
def cpK (l : List Pc) (n k : Nat) : List Pc := (List.range n).map fun i => if i < k then l.getD i pz else pz
theorem cpK_zero (l : List Pc) (n : Nat) : cpK l n 0 = List.replicate n pz := by
  unfold cpK
  apply List.ext_getElem
  · simp
  · intro i h1 h2
    simp
theorem cpK_all (l : List Pc) : cpK l l.length l.length = l := by
  unfold cpK
  apply List.ext_getElem
  · simp
  · intro i h1 h2
    simp at h1
    simp [h1]
theorem cpK_len (l : List Pc) (n k : Nat) : (cpK l n k).length = n := by simp [cpK]
theorem cpK_set (l : List Pc) {n k : Nat} (hk : k < n) : (cpK l n k).set k (l.getD k pz) = cpK l n (k + 1) := by
  unfold cpK
  apply List.ext_getElem
  · simp
  · intro i h1 h2
    simp only [List.length_set, List.length_map, List.length_range] at h1
    rw [List.getElem_set]
    by_cases e : k = i
    · subst e; simp
    · rw [if_neg e]
      simp only [List.getElem_map, List.getElem_range]
      by_cases h : i < k
      · rw [if_pos h, if_pos (by omega)]
      · rw [if_neg h, if_neg (by omega)]
/-- Marks from m on. -/
def mkP (m : Int) (i : Nat) : Pc := (m + 4 * i, m + 4 * i + 1, m + 4 * i + 2, m + 4 * i + 3)
def iop (m : Int) (n : Nat) : List Pc := (List.range n).map (mkP m)
def mkK (m : Int) (l : List Pc) (n k : Nat) : List Pc := (List.range n).map fun i => if i < k then mkP m i else l.getD i pz
theorem iop_len (m : Int) (n : Nat) : (iop m n).length = n := by simp [iop]
theorem iop_get (m : Int) {n i : Nat} (h : i < n) : (iop m n).getD i pz = mkP m i := by simp [iop, h]
theorem mkK_zero (m : Int) (l : List Pc) : mkK m l l.length 0 = l := by
  unfold mkK
  apply List.ext_getElem
  · simp
  · intro i h1 h2
    simp at h1
    simp [h1]
theorem mkK_all (m : Int) (l : List Pc) (n : Nat) : mkK m l n n = iop m n := by
  unfold mkK iop
  apply List.map_congr_left
  intro i hi
  rw [if_pos (List.mem_range.1 hi)]
theorem mkK_len (m : Int) (l : List Pc) (n k : Nat) : (mkK m l n k).length = n := by simp [mkK]
theorem mkK_set (m : Int) (l : List Pc) {n k : Nat} (hk : k < n) : (mkK m l n k).set k (mkP m k) = mkK m l n (k + 1) := by
  unfold mkK
  apply List.ext_getElem
  · simp
  · intro i h1 h2
    simp only [List.length_set, List.length_map, List.length_range] at h1
    rw [List.getElem_set]
    by_cases e : k = i
    · subst e; simp
    · rw [if_neg e]
      simp only [List.getElem_map, List.getElem_range]
      by_cases h : i < k
      · rw [if_pos h, if_pos (by omega)]
      · rw [if_neg h, if_neg (by omega)]
theorem quad {l : List Pc} {i : Nat} (hi : i < l.length) (x0 x1 x2 x3 : Int) : stF (stF (stF (stF l i 0 x0) i 1 x1) i 2 x2) i 3 x3 = l.set i (x0, x1, x2, x3) := by
  simp [stF, List.getD_eq_getElem?_getD, hi, setP]
end M
namespace V
set_option maxRecDepth 100000
open Go.RowKit
theorem OwnPl.setQ {w : World} {B g n cap : Nat} {l : List M.Pc} (h : OwnPl w B (.slice (some ⟨g, 0, none⟩) n cap) l) {i : Nat} (hi : i < n) (x0 x1 x2 x3 : Int) :
    OwnPl ((((w.setCell ⟨g, i * 4, none⟩ (.int .i64 x0)).setCell ⟨g, i * 4 + 1, none⟩ (.int .i64 x1)).setCell ⟨g, i * 4 + 2, none⟩ (.int .i64 x2)).setCell ⟨g, i * 4 + 3, none⟩ (.int .i64 x3)) B (.slice (some ⟨g, 0, none⟩) n cap) (l.set i (x0, x1, x2, x3)) := by
  have hl := h.len
  have := (((h.setF x0 hi (j := 0) (by omega)).setF x1 hi (j := 1) (by omega)).setF x2 hi (j := 2) (by omega)).setF x3 hi (j := 3) (by omega)
  rw [M.quad (by omega)] at this
  exact this
/-- What a store into the place i asks. -/
theorem OwnPl.room {w : World} {B g n cap : Nat} {l : List M.Pc} (h : OwnPl w B (.slice (some ⟨g, 0, none⟩) n cap) l) {i : Nat} (hi : i < n) :
    (∃ v, w.cell? ⟨g, i * 4, none⟩ = some v) ∧ (∃ v, w.cell? ⟨g, i * 4 + 1, none⟩ = some v) ∧ (∃ v, w.cell? ⟨g, i * 4 + 2, none⟩ = some v) ∧ (∃ v, w.cell? ⟨g, i * 4 + 3, none⟩ = some v) ∧ w.frozen? ⟨g, i * 4, none⟩ = false ∧ w.frozen? ⟨g, i * 4 + 1, none⟩ = false ∧ w.frozen? ⟨g, i * 4 + 2, none⟩ = false ∧ w.frozen? ⟨g, i * 4 + 3, none⟩ = false := by
  obtain ⟨b, off, p0, p1, p2, p3, hb, -, -, c0, c1, c2, c3⟩ := h.pls.at i hi
  injection hb with hb
  injection hb with e1 e2
  subst e1 e2
  rw [Nat.zero_add] at c0 c1 c2 c3
  exact ⟨⟨_, c0⟩, ⟨_, c1⟩, ⟨_, c2⟩, ⟨_, c3⟩, h.frozenAt _, h.frozenAt _, h.frozenAt _, h.frozenAt _⟩
theorem run_makeP (n : Nat) (hn : n ≤ 1048576) (w : World) : (Instr.makeSlice 24 (.int .i64 (n : Int)) (.int .i64 (n : Int))).run Tryz.prog w = .ok (.slice (some ⟨w.heap.size, 0, none⟩) n n) (w.alloc (.cells (madeCells #[.int .i64 0, .int .i64 0, .int .i64 0, .int .i64 0] (n * 4)) 71)) := by
  obtain ⟨i, hi, hzz⟩ := Option.map_eq_some_iff.1 infoP
  simp only [Prod.mk.injEq] at hzz
  obtain ⟨hz, hs, hb⟩ := hzz
  have hr := run_make (P := Tryz.prog) w 24 71 i (.agg #[.int .i64 0, .int .i64 0, .int .i64 0, .int .i64 0]) Tryz.underlying24 hi hz .i64 .i64 n n (by omega) (Int.le_refl _) (by rw [hb]; omega) (by omega)
  simp only [Int.toNat_natCast, hs] at hr
  exact hr
set_option maxRecDepth 100000 in
set_option maxHeartbeats 400000 in
theorem szPl_t (a : Option Addr) (n cap : Nat) (w : World) (hn : n ≤ 1048576) : Calls Tryz.prog 90 #[.slice a n cap, .int .i64 1048576] w fun e w' => e = .returned (.int .i64 (1048576 - n)) ∧ w = w' := by
  go_enter Tryz.func90, Tryz.ntmps90
  go_wp2
  go_ret
  exact ⟨rfl, rfl⟩
set_option maxRecDepth 100000 in
set_option maxHeartbeats 400000 in
theorem szPl_f (a : Option Addr) (n cap : Nat) (w : World) (hn : 1048576 < n) (hm : n ≤ maxLen) : Calls Tryz.prog 90 #[.slice a n cap, .int .i64 1048576] w fun e w' => e = .returned (.int .i64 (-1)) ∧ w = w' := by
  unfold maxLen at hm
  go_enter Tryz.func90, Tryz.ntmps90
  go_wp2
  go_ret
  exact ⟨rfl, rfl⟩
set_option maxRecDepth 100000 in
set_option maxHeartbeats 400000 in
theorem szGr_t (x : Int) (a : Option Addr) (n cap : Nat) (w : World) (hn : n ≤ 1048576) : Calls Tryz.prog 33 #[.agg #[.int .i64 x, .slice a n cap], .int .i64 1048576] w fun e w' => e = .returned (.int .i64 (1048576 - n)) ∧ Below w.heap.size w w' := by
  go_enter Tryz.func33, Tryz.ntmps33
  go_wp2_with (go_at_call 90; refine (szPl_t _ _ _ _ hn).mono ?_; rintro e w' ⟨rfl, rfl⟩)
  go_ret
  exact ⟨rfl, b_alloc _ _⟩
set_option maxRecDepth 100000 in
set_option maxHeartbeats 400000 in
theorem szGr_f (x : Int) (a : Option Addr) (n cap : Nat) (w : World) (hn : 1048576 < n) (hm : n ≤ maxLen) : Calls Tryz.prog 33 #[.agg #[.int .i64 x, .slice a n cap], .int .i64 1048576] w fun e w' => e = .returned (.int .i64 (-1)) ∧ Below w.heap.size w w' := by
  go_enter Tryz.func33, Tryz.ntmps33
  go_wp2_with (go_at_call 90; refine (szPl_f _ _ _ _ hn hm).mono ?_; rintro e w' ⟨rfl, rfl⟩)
  go_ret
  exact ⟨rfl, b_alloc _ _⟩
set_option maxRecDepth 100000 in
set_option maxHeartbeats 1000000 in
theorem toPlace (p0 p1 p2 p3 : Int) (w : World) :
    Calls Tryz.prog 140 #[.agg #[.int .i64 p0, .int .i64 p1, .int .i64 p2, .int .i64 p3]] w fun e w' => e = .returned (.agg #[.int .i64 p0, .int .i64 p1, .int .i64 p2, .int .i64 p3]) ∧ Below w.heap.size w w' := by
  go_enter Tryz.func140, Tryz.ntmps140
  go_wp2
  exact bodyPost_ret (v := .agg #[.int .i64 p0, .int .i64 p1, .int .i64 p2, .int .i64 p3]) (by simp [results, Tryz.results140, go_sem]) rfl ⟨rfl, (b_alloc2 _ _ _).alloc (by simp; omega) _⟩
set_option maxRecDepth 100000 in
set_option maxHeartbeats 1000000 in
theorem eqPlace (p0 p1 p2 p3 : Int) (w : World) :
    Calls Tryz.prog 141 #[.agg #[.int .i64 p0, .int .i64 p1, .int .i64 p2, .int .i64 p3], .agg #[.int .i64 p0, .int .i64 p1, .int .i64 p2, .int .i64 p3]] w fun e w' => e = .returned (.bool true) ∧ Below w.heap.size w w' := by
  go_enter Tryz.func141, Tryz.ntmps141
  go_wp2
  go_ret
  exact ⟨rfl, b_alloc2 _ _ _⟩
set_option maxRecDepth 100000 in
set_option maxHeartbeats 2000000 in
theorem toPlaces (a : Option Addr) (n cap : Nat) (l : List M.Pc) (w : World) (h : Pls w a n l) (hn : n ≤ 1048576) :
    Calls Tryz.prog 91 #[.slice a n cap] w fun e w' => ∃ b, e = .returned (.slice b n n) ∧ OwnPl w' w.heap.size (.slice b n n) l ∧ Below w.heap.size w w' := by
  have HI := Lib.hid h
  have HL : Hid (l.length = n) := h.1
  have hmk := run_makeP n hn
  have HO0 : Hid (OwnPl (w.alloc (.cells (madeCells #[.int .i64 0, .int .i64 0, .int .i64 0, .int .i64 0] (n * 4)) 71)) w.heap.size (.slice (some ⟨w.heap.size, 0, none⟩) n n) (M.cpK l n 0)) := by
    rw [M.cpK_zero]; exact ownPl_made w _ n (Nat.le_refl _) (by unfold maxLen; omega)
  have HB0 : Hid (Below w.heap.size w (w.alloc (.cells (madeCells #[.int .i64 0, .int .i64 0, .int .i64 0, .int .i64 0] (n * 4)) 71))) := b_alloc w _
  have HTo : Hid (∀ p0 p1 p2 p3 w, Calls Tryz.prog 140 #[.agg #[.int .i64 p0, .int .i64 p1, .int .i64 p2, .int .i64 p3]] w fun e w' => e = .returned (.agg #[.int .i64 p0, .int .i64 p1, .int .i64 p2, .int .i64 p3]) ∧ Below w.heap.size w w') := toPlace
  clear h
  go_enter Tryz.func91, Tryz.ntmps91
  go_wp2
  go_loopw [4] (fun kv wr => ∃ k : Nat, k ≤ n ∧ kv = .int .i64 k ∧ Hid (OwnPl wr w.heap.size (.slice (some ⟨w.heap.size, 0, none⟩) n n) (M.cpK l n k)) ∧ Hid (Below w.heap.size w wr)) (fun kv _ => n - (intOf kv).toNat)
  case atStart => exact ⟨0, Nat.zero_le _, rfl, HO0, HB0⟩
  case round =>
    obtain ⟨k, hk, rfl, HO, HB⟩ := hrel
    obtain ⟨wo, rfl⟩ : ∃ x, x = wr := ⟨_, rfl⟩
    clear HO0 HB0
    by_cases hkl : k < n
    · have hki : (k : Int) < (n : Int) := by omega
      obtain ⟨b, off, p0, p1, p2, p3, rfl, -, hp, c0, c1, c2, c3⟩ := (HI.out.below HB.out).at k hkl
      have HS := M.cpK_set l hkl
      rw [hp] at HS
      have HSh := Lib.hid HS
      clear HS hp
      go_wp2_with fail
      refine (HTo.out p0 p1 p2 p3 _).mono ?_
      rintro e w2 ⟨rfl, hb2⟩
      have hO2 := HO.out.below hb2
      obtain ⟨⟨v0, d0⟩, ⟨v1, d1⟩, ⟨v2, d2⟩, ⟨v3, d3⟩, f0, f1, f2, f3⟩ := hO2.room hkl
      have HN := Lib.hid (hO2.setQ hkl p0 p1 p2 p3)
      have HB2 := Lib.hid (((((HB.out.trans (hb2.mono HB.out.size)).setCell (p := ⟨w.heap.size, k * 4, none⟩) (Nat.le_refl _) (.int .i64 p0)).setCell (p := ⟨w.heap.size, k * 4 + 1, none⟩) (Nat.le_refl _) (.int .i64 p1)).setCell (p := ⟨w.heap.size, k * 4 + 2, none⟩) (Nat.le_refl _) (.int .i64 p2)).setCell (p := ⟨w.heap.size, k * 4 + 3, none⟩) (Nat.le_refl _) (.int .i64 p3))
      rw [HSh.out] at HN
      clear hO2 hb2
      go_wp2
      go_roundw
      case rel => exact ⟨k + 1, by omega, by go_num, HN, HB2⟩
      case measure => simp [intOf]; omega
    · obtain rfl : k = n := by omega
      have hO := HO.out
      rw [show M.cpK l k k = l by rw [← HL.out]; exact M.cpK_all l] at hO
      have HO := Lib.hid hO
      clear hO
      go_wp2
      go_ret
      exact ⟨_, rfl, HO.out, HB.out⟩
end V
end Go.Proofs.YtlofnadpgnbmdaaGreat

namespace Go.Proofs.YtlofnadpgnbmdaaGreat
namespace V
set_option maxRecDepth 100000
open Go.RowKit
theorem b_al3g (w : World) (x y z : Obj) : Below w.heap.size w (((w.alloc x).alloc y).alloc z) := (b_alloc2 w x y).trans ((b_alloc _ z).mono (by simp; omega))
set_option maxRecDepth 100000 in
set_option maxHeartbeats 2000000 in
theorem toGraph (x : Int) (a : Option Addr) (n cap : Nat) (l : List M.Pc) (w : World) (h : Pls w a n l) (hn : n ≤ 1048576) :
    Calls Tryz.prog 35 #[.agg #[.int .i64 x, .slice a n cap]] w fun e w' => ∃ b, e = .returned (.agg #[.int .i64 x, .slice b n n]) ∧ OwnPl w' w.heap.size (.slice b n n) l ∧ Below w.heap.size w w' := by
  have HI := Lib.hid h
  have HT : Hid (∀ W, Below w.heap.size w W → Calls Tryz.prog 91 #[.slice a n cap] W fun e w' => ∃ b, e = .returned (.slice b n n) ∧ OwnPl w' W.heap.size (.slice b n n) l ∧ Below W.heap.size W w') := fun W hW => toPlaces a n cap l W (h.below hW) hn
  clear h
  go_enter Tryz.func35, Tryz.ntmps35
  go_wp2_with fail
  refine (HT.out _ (b_al3g _ _ _ _)).mono ?_
  rintro e w2 ⟨b, rfl, ho2, hb2⟩
  obtain ⟨hcr, hfr⟩ := bcell hb2
  have hzz := hb2.size
  simp at hzz
  have h10 : w2.cell? ⟨w.heap.size + 1, 0, none⟩ = some (.int .i64 0) := by rw [hcr _ _ (by simp)]; simp [go_sem]
  have h11 : w2.cell? ⟨w.heap.size + 1, 1, none⟩ = some (.slice none 0 0) := by rw [hcr _ _ (by simp)]; simp [go_sem]
  have h20 : w2.cell? ⟨w.heap.size + 1 + 1, 0, none⟩ = some (.int .i64 x) := by rw [hcr _ _ (by simp)]; simp [go_sem]
  have h21 : w2.cell? ⟨w.heap.size + 1 + 1, 1, none⟩ = some (.slice none 0 0) := by rw [hcr _ _ (by simp)]; simp [go_sem]
  have k10 : w2.frozen? ⟨w.heap.size + 1, 0, none⟩ = false := by rw [hfr _ _ (by simp)]; simp [go_sem]
  have k11 : w2.frozen? ⟨w.heap.size + 1, 1, none⟩ = false := by rw [hfr _ _ (by simp)]; simp [go_sem]
  have k21 : w2.frozen? ⟨w.heap.size + 1 + 1, 1, none⟩ = false := by rw [hfr _ _ (by simp)]; simp [go_sem]
  have HO2 := Lib.hid ho2
  have hba : Below w.heap.size w w2 := (b_al3g _ _ _ _).trans (hb2.mono (by simp; omega))
  have z1 : w.heap.size + 1 < w2.heap.size := by omega
  have z2 : w.heap.size + 1 + 1 < w2.heap.size := by omega
  have HBa := Lib.hid hba
  have HBz := Lib.hid hzz
  have HOw : Hid (OwnPl (((w2.setCell ⟨w.heap.size + 1 + 1, 1, none⟩ (.slice b n n)).setCell ⟨w.heap.size + 1, 0, none⟩ (.int .i64 x)).setCell ⟨w.heap.size + 1, 1, none⟩ (.slice b n n)) w.heap.size (.slice b n n) l) := by
    refine (ho2.keepB fun k hk => ?_).mono (by simp; omega)
    have := (ho2.lt hk).1
    simp at this
    rw [Below.heap_setCell _ _ _ _ (by show k ≠ w.heap.size + 1; omega), Below.heap_setCell _ _ _ _ (by show k ≠ w.heap.size + 1; omega), Below.heap_setCell _ _ _ _ (by show k ≠ w.heap.size + 1 + 1; omega)]
  clear ho2 hb2 hcr hfr hba
  go_wp2
  exact bodyPost_ret (v := .agg #[.int .i64 x, .slice b n n]) (by simp [results, Tryz.results35, go_sem, z1, z2, h10, h11, h20, h21]) rfl ⟨b, rfl, HOw.out, ((HBa.out.setCell (by show _ ≤ w.heap.size + 1 + 1; omega) _).setCell (by show _ ≤ w.heap.size + 1; omega) _).setCell (by show _ ≤ w.heap.size + 1; omega) _⟩
set_option maxRecDepth 100000 in
set_option maxHeartbeats 2000000 in
theorem eqPlaces (a : Option Addr) (n cap : Nat) (a' : Option Addr) (n' cap' : Nat) (l : List M.Pc) (w : World) (h : Pls w a n l) (h' : Pls w a' n' l) :
    Calls Tryz.prog 92 #[.slice a n cap, .slice a' n' cap'] w fun e w' => e = .returned (.bool true) ∧ Below w.heap.size w w' := by
  obtain rfl : n' = n := by rw [← h.1, ← h'.1]
  have HI := Lib.hid h
  have HI' := Lib.hid h'
  have hm := h.2.1
  unfold maxLen at hm
  have HEq : Hid (∀ p0 p1 p2 p3 w, Calls Tryz.prog 141 #[.agg #[.int .i64 p0, .int .i64 p1, .int .i64 p2, .int .i64 p3], .agg #[.int .i64 p0, .int .i64 p1, .int .i64 p2, .int .i64 p3]] w fun e w' => e = .returned (.bool true) ∧ Below w.heap.size w w') := eqPlace
  clear h h'
  go_enter Tryz.func92, Tryz.ntmps92
  go_wp2
  go_loopw [5] (fun kv wr => ∃ k : Nat, k ≤ n' ∧ kv = .int .i64 k ∧ Hid (Below w.heap.size w wr)) (fun kv _ => n' - (intOf kv).toNat)
  case atStart => exact ⟨0, Nat.zero_le _, rfl, Below.refl _ _⟩
  case round =>
    obtain ⟨k, hk, rfl, HB⟩ := hrel
    obtain ⟨wo, rfl⟩ : ∃ x, x = wr := ⟨_, rfl⟩
    by_cases hkl : k < n'
    · have hki : (k : Int) < (n' : Int) := by omega
      obtain ⟨b, off, p0, p1, p2, p3, rfl, -, hp, c0, c1, c2, c3⟩ := (HI.out.below HB.out).at k hkl
      obtain ⟨b', off', q0, q1, q2, q3, rfl, -, hq, d0, d1, d2, d3⟩ := (HI'.out.below HB.out).at k hkl
      rw [hp] at hq
      injection hq with e0 hq
      injection hq with e1 hq
      injection hq with e2 e3
      subst e0 e1 e2 e3
      clear hp
      go_wp2
      go_region_with (first | (go_at_call 141; refine (HEq.out p0 p1 p2 p3 _).mono ?_; rintro e w2 ⟨rfl, hb2⟩))
      all_goals
        have HB2 : Hid (Below w.heap.size w w2) := (HB.out.trans ((b_draws wo 1).mono HB.out.size)).trans (hb2.mono (by have := HB.out.size; simpa using this))
        go_wp2
        go_roundw
        case rel => exact ⟨k + 1, by omega, by go_num, HB2⟩
        case measure => simp [intOf]; omega
    · obtain rfl : k = n' := by omega
      go_wp2
      go_ret
      exact ⟨rfl, HB.out⟩
set_option maxRecDepth 100000 in
set_option maxHeartbeats 4000000 in
theorem markPlaces (a : Option Addr) (n cap B : Nat) (l : List M.Pc) (m : Int) (w0 w : World) (h0 : OwnPl w0 B (.slice a n cap) l) (hb0 : Same B w0.heap.size w0 w) (hn : n ≤ 1048576) (h1 : 0 ≤ m) (h2 : m ≤ 40000000) :
    Calls Tryz.prog 93 #[.slice a n cap, .int .i64 m] w fun e w' => ∃ y : Int, e = .returned (.int .i64 y) ∧ 0 ≤ y ∧ Hid (y = m + 4 * n) ∧ OwnPl w' B (.slice a n cap) (M.iop m n) ∧ Chg (fun k => B ≤ k ∧ k < w0.heap.size) w w' := by
  have h := h0.keep hb0
  have HO := Lib.hid h
  have HL : Hid (n = l.length) := h.len
  have hgg := h0.form
  obtain ⟨a', c', hv, -, -, hg⟩ := hgg
  injection hv with e1 e2 e3
  subst e1 e3
  rw [← e2] at hg
  have HG := Lib.hid hg
  have HO0 : Hid (OwnPl w B (.slice a n cap) (M.mkK m l n 0)) := by
    show OwnPl _ _ _ _
    have := M.mkK_zero m l
    rw [← HL.out] at this
    rw [this]; exact h
  clear h h0 hb0 hg e2
  go_enter Tryz.func93, Tryz.ntmps93
  go_wp2
  go_loopw [1, 5] (fun x i wr => ∃ (k : Nat) (y : Int), k ≤ n ∧ i = .int .i64 k ∧ x = .int .i64 y ∧ y = m + 4 * k ∧ Hid (OwnPl wr B (.slice a n cap) (M.mkK m l n k)) ∧ Hid (Chg (fun k => B ≤ k ∧ k < w0.heap.size) w wr)) (fun _ i _ => n - (intOf i).toNat)
  case atStart => exact ⟨0, m, Nat.zero_le _, rfl, rfl, by simp, HO0, Chg.refl _ _⟩
  case round =>
    obtain ⟨k, y, hk, rfl, rfl, hy, hO, HC⟩ := hrel
    clear HO0
    by_cases hkl : k < n
    · obtain ⟨g, rfl, hBg, hgl⟩ := HG.out (by omega)
      have hki : (k : Int) < (n : Int) := by omega
      obtain ⟨⟨v0, d0⟩, ⟨v1, d1⟩, ⟨v2, d2⟩, ⟨v3, d3⟩, f0, f1, f2, f3⟩ := hO.out.room hkl
      have HN := Lib.hid (hO.out.setQ hkl y (y + 1) (y + 1 + 1) (y + 1 + 1 + 1))
      rw [show (y, y + 1, y + 1 + 1, y + 1 + 1 + 1) = M.mkP m k by unfold M.mkP; rw [hy]; ext <;> simp <;> omega, M.mkK_set m l hkl] at HN
      have HC2 : Hid (Chg (fun k => B ≤ k ∧ k < w0.heap.size) w ((((wr.setCell ⟨g, k * 4, none⟩ (.int .i64 y)).setCell ⟨g, k * 4 + 1, none⟩ (.int .i64 (y + 1))).setCell ⟨g, k * 4 + 2, none⟩ (.int .i64 (y + 1 + 1))).setCell ⟨g, k * 4 + 3, none⟩ (.int .i64 (y + 1 + 1 + 1)))) := (((HC.out.set ⟨hBg, hgl⟩ _).set ⟨hBg, hgl⟩ _).set ⟨hBg, hgl⟩ _).set ⟨hBg, hgl⟩ _
      have HY := Lib.hid hy
      have hy0 : 0 ≤ y := by omega
      have hy1 : y ≤ 50000000 := by omega
      clear hy hO
      go_wp2
      go_roundw
      case rel => exact ⟨k + 1, y + 1 + 1 + 1 + 1, by omega, by go_num, by first | rfl | go_num, by have := HY.out; omega, HN, HC2⟩
      case measure => simp [intOf]; omega
    · obtain rfl : k = n := by omega
      have HNo : Hid (OwnPl wr B (.slice a k cap) (M.iop m k)) := by
        have := hO.out
        rw [M.mkK_all] at this
        exact this
      have HY := Lib.hid hy
      go_wp2
      go_ret
      exact ⟨y, rfl, by omega, HY.out, HNo.out, HC.out⟩
set_option maxRecDepth 100000 in
set_option maxHeartbeats 1000000 in
theorem eqGraph (x : Int) (a : Option Addr) (n cap : Nat) (a' : Option Addr) (n' cap' : Nat) (l : List M.Pc) (w : World) (h : Pls w a n l) (h' : Pls w a' n' l) :
    Calls Tryz.prog 39 #[.agg #[.int .i64 x, .slice a n cap], .agg #[.int .i64 x, .slice a' n' cap']] w fun e w' => e = .returned (.bool true) ∧ Below w.heap.size w w' := by
  have HT : Hid (∀ W, Below w.heap.size w W → Calls Tryz.prog 92 #[.slice a n cap, .slice a' n' cap'] W fun e w' => e = .returned (.bool true) ∧ Below W.heap.size W w') := fun W hW => eqPlaces a n cap a' n' cap' l W (h.below hW) (h'.below hW)
  clear h h'
  go_enter Tryz.func39, Tryz.ntmps39
  go_wp2_with fail
  refine (HT.out _ (b_alloc2 _ _ _)).mono ?_
  rintro e w2 ⟨rfl, hb2⟩
  have HB := Lib.hid ((b_alloc2 w _ _).trans (hb2.mono (by simp; omega)))
  clear hb2
  go_wp2
  go_ret
  exact ⟨rfl, HB.out⟩
set_option maxRecDepth 100000 in
set_option maxHeartbeats 1000000 in
theorem markGraph (x : Int) (a : Option Addr) (n cap B : Nat) (l : List M.Pc) (m : Int) (w0 w : World) (h0 : OwnPl w0 B (.slice a n cap) l) (hb0 : Same B w0.heap.size w0 w) (hw : w0.heap.size ≤ w.heap.size) (hn : n ≤ 1048576) (h1 : 0 ≤ m) (h2 : m ≤ 40000000) :
    Calls Tryz.prog 40 #[.agg #[.int .i64 x, .slice a n cap], .int .i64 m] w fun e w' => ∃ y : Int, e = .returned (.int .i64 y) ∧ 0 ≤ y ∧ Hid (y = m + 4 * n) ∧ OwnPl w' B (.slice a n cap) (M.iop m n) ∧ (∀ k, k < w.heap.size → ¬ (B ≤ k ∧ k < w0.heap.size) → w'.heap[k]? = w.heap[k]?) ∧ w.heap.size ≤ w'.heap.size ∧ (B ≤ w.heap.size → Below B w w') := by
  have hs : Same B w0.heap.size w0 (w.alloc (.cells #[.int .i64 x, .slice a n cap] 26)) := fun k q1 q2 => by
    rw [Below.heap_alloc w _ _ (by omega)]; exact hb0 k q1 q2
  have HT := Lib.hid (markPlaces a n cap B l m w0 (w.alloc (.cells #[.int .i64 x, .slice a n cap] 26)) h0 hs hn h1 h2)
  clear h0 hb0 hs
  go_enter Tryz.func40, Tryz.ntmps40
  go_wp2_with fail
  refine (HT.out).mono ?_
  rintro e w2 ⟨y, rfl, hy, HY, ho, hc⟩
  have HO := Lib.hid ho
  have HCh : Hid (∀ k, k < w.heap.size → ¬ (B ≤ k ∧ k < w0.heap.size) → w2.heap[k]? = w.heap[k]?) := fun k q1 q2 => (hc.other k q2).trans (Below.heap_alloc w _ _ q1)
  have hsz : w.heap.size ≤ w2.heap.size := by have := hc.size; simp at this; omega
  have HBl : Hid (B ≤ w.heap.size → Below B w w2) := fun q => ((Below.refl B w).alloc q _).trans (hc.below fun k hk => hk.1)
  have HT := True.intro
  clear ho hc HT
  go_wp2
  go_ret
  exact ⟨y, rfl, hy, HY, HO.out, HCh.out, hsz, HBl.out⟩
end V
end Go.Proofs.YtlofnadpgnbmdaaGreat

namespace Go.Proofs.YtlofnadpgnbmdaaGreat.V
open Go.RowKit

theorem retB {a b : Bool} (h : a = b) : Ending.returned (.bool a) = .returned (.bool b) := by rw [h]
theorem retI {a b : Int} {k : IntKind} (h : a = b) : Ending.returned (.int k a) = .returned (.int k b) := by rw [h]
theorem retI2 {a b c d : Int} {k l : IntKind} (h : a = c) (h' : b = d) : Ending.returned (.tuple #[.int k a, .int l b]) = .returned (.tuple #[.int k c, .int l d]) := by rw [h, h']
theorem retP {a b : Int} {p : Int × Int} {k l : IntKind} (h : p = (a, b)) : Ending.returned (.tuple #[.int k a, .int l b]) = .returned (.tuple #[.int k p.1, .int l p.2]) := by rw [h]

set_option maxRecDepth 100000 in
set_option maxHeartbeats 400000 in
theorem isFinite (a : Int) (w : World) : Calls Tryz.prog 82 #[.int .i64 a] w fun e w' => e = .returned (.bool (M.isFin a)) ∧ w = w' := by
  go_enter Tryz.func82, Tryz.ntmps82
  go_wp2
  all_goals
    go_ret
    refine ⟨retB ?_, rfl⟩
    unfold M.isFin
    grind

set_option maxRecDepth 100000 in
set_option maxHeartbeats 400000 in
theorem isValid (a : Int) (w : World) : Calls Tryz.prog 176 #[.int .i64 a] w fun e w' => e = .returned (.bool (M.isVal a)) ∧ w = w' := by
  go_enter Tryz.func176, Tryz.ntmps176
  go_wp2_with (first | (go_at_call 82; refine (isFinite _ _).mono ?_; rintro e w' ⟨rfl, rfl⟩))
  all_goals
    go_ret
    refine ⟨retB ?_, rfl⟩
    unfold M.isVal
    grind

set_option maxRecDepth 100000 in
set_option maxHeartbeats 400000 in
theorem isValue (a : Int) (w : World) : Calls Tryz.prog 165 #[.int .i64 a] w fun e w' => e = .returned (.bool (M.isVal a)) ∧ w = w' := by
  go_enter Tryz.func165, Tryz.ntmps165
  go_wp2_with (first | (go_at_call 176; refine (isValid _ _).mono ?_; rintro e w' ⟨rfl, rfl⟩))
  all_goals
    go_ret
    exact ⟨rfl, rfl⟩

set_option maxRecDepth 100000 in
set_option maxHeartbeats 400000 in
theorem sIn (a b c : Int) (w : World) : Calls Tryz.prog 55 #[.int .i64 a, .int .i64 b, .int .i64 c] w fun e w' => e = .returned (.bool (decide (b ≤ a) && decide (a ≤ c))) ∧ w = w' := by
  go_enter Tryz.func55, Tryz.ntmps55
  go_wp2
  all_goals
    go_ret
    refine ⟨retB ?_, rfl⟩
    grind

set_option maxRecDepth 100000 in
set_option maxHeartbeats 400000 in
theorem sFinite (a : Int) (w : World) : Calls Tryz.prog 120 #[.int .i64 a] w fun e w' => e = .returned (.bool (M.isFin a)) ∧ w = w' := by
  go_enter Tryz.func120, Tryz.ntmps120
  go_wp2_with (first | (go_at_call 55; refine (sIn _ _ _ _).mono ?_; rintro e w' ⟨rfl, rfl⟩))
  all_goals
    go_ret
    exact ⟨retB (by unfold M.isFin; grind), rfl⟩

set_option maxRecDepth 100000 in
set_option maxHeartbeats 400000 in
theorem sIsValue (a : Int) (w : World) : Calls Tryz.prog 126 #[.int .i64 a] w fun e w' => e = .returned (.bool (M.isVal a)) ∧ w = w' := by
  go_enter Tryz.func126, Tryz.ntmps126
  go_wp2_with (first | (go_at_call 120; refine (sFinite _ _).mono ?_; rintro e w' ⟨rfl, rfl⟩))
  all_goals
    go_ret
    refine ⟨retB ?_, rfl⟩
    unfold M.isVal
    grind

end Go.Proofs.YtlofnadpgnbmdaaGreat.V

namespace Go.Proofs.YtlofnadpgnbmdaaGreat
namespace M
def inB (x lo hi : Int) : Bool := decide (lo ≤ x) && decide (x ≤ hi)
/-- A place whose events are at most m. -/
def plW (m : Int) (p : Pc) : Bool := inB p.1 0 m && (inB p.2.1 0 m && (inB p.2.2.1 0 1000 && inB p.2.2.2 0 5))
def isGr (e : Int) (l : List Pc) : Bool := inB e 1 10 && (decide (l.length ≤ 30) && l.all (plW (e - 1)))
theorem all_at {p : Pc → Bool} {l : List Pc} (h : l.all p = true) {i : Nat} (hi : i < l.length) : p (l.getD i pz) = true := by
  rw [List.getD_eq_getElem?_getD, List.getElem?_eq_getElem hi]
  exact List.all_eq_true.1 h _ (List.getElem_mem hi)
theorem all_of {p : Pc → Bool} {l : List Pc} (h : ∀ i, i < l.length → p (l.getD i pz) = true) : l.all p = true := by
  rw [List.all_eq_true]
  intro x hx
  obtain ⟨i, hi, rfl⟩ := List.mem_iff_getElem.1 hx
  have := h i hi
  rw [List.getD_eq_getElem?_getD, List.getElem?_eq_getElem hi] at this
  exact this
theorem all_no {p : Pc → Bool} {l : List Pc} {i : Nat} (hi : i < l.length) (h : p (l.getD i pz) = false) : l.all p = false := by
  cases e : l.all p with
  | false => rfl
  | true => rw [all_at e hi] at h; cases h
end M
namespace V
set_option maxRecDepth 100000
open Go.RowKit
set_option maxRecDepth 100000 in
set_option maxHeartbeats 400000 in
theorem sPlace (p0 p1 p2 p3 x : Int) (w : World) :
    Calls Tryz.prog 103 #[.agg #[.int .i64 p0, .int .i64 p1, .int .i64 p2, .int .i64 p3], .int .i64 x] w fun e w' => e = .returned (.bool (M.plW (wrap64 (x - 1)) (p0, p1, p2, p3))) ∧ Below w.heap.size w w' := by
  obtain ⟨m, hm⟩ : ∃ m, m = wrap64 (x - 1) := ⟨_, rfl⟩
  have hm2 : wrap64 (x - 1) = m := hm.symm
  rw [hm2]
  show Calls _ _ _ _ fun e w' => e = .returned (.bool ((decide (0 ≤ p0) && decide (p0 ≤ m)) && ((decide (0 ≤ p1) && decide (p1 ≤ m)) && ((decide (0 ≤ p2) && decide (p2 ≤ 1000)) && (decide (0 ≤ p3) && decide (p3 ≤ 5)))))) ∧ Below w.heap.size w w'
  clear hm
  cases h0 : (decide (0 ≤ p0) && decide (p0 ≤ m)) with
  | false =>
    go_enter Tryz.func103, Tryz.ntmps103
    go_wp2_with (first | (go_at_call 55; refine (sIn _ _ _ _).mono ?_; rintro e w' ⟨rfl, rfl⟩))
    go_ret
    exact ⟨rfl, b_alloc _ _⟩
  | true =>
    cases h1 : (decide (0 ≤ p1) && decide (p1 ≤ m)) with
    | false =>
      go_enter Tryz.func103, Tryz.ntmps103
      go_wp2_with (first | (go_at_call 55; refine (sIn _ _ _ _).mono ?_; rintro e w' ⟨rfl, rfl⟩))
      go_ret
      exact ⟨rfl, b_alloc _ _⟩
    | true =>
      cases h2 : (decide (0 ≤ p2) && decide (p2 ≤ 1000)) with
      | false =>
        go_enter Tryz.func103, Tryz.ntmps103
        go_wp2_with (first | (go_at_call 55; refine (sIn _ _ _ _).mono ?_; rintro e w' ⟨rfl, rfl⟩))
        go_ret
        exact ⟨rfl, b_alloc _ _⟩
      | true =>
        cases h3 : (decide (0 ≤ p3) && decide (p3 ≤ 5)) with
        | false =>
          go_enter Tryz.func103, Tryz.ntmps103
          go_wp2_with (first | (go_at_call 55; refine (sIn _ _ _ _).mono ?_; rintro e w' ⟨rfl, rfl⟩))
          go_ret
          exact ⟨rfl, b_alloc _ _⟩
        | true =>
          go_enter Tryz.func103, Tryz.ntmps103
          go_wp2_with (first | (go_at_call 55; refine (sIn _ _ _ _).mono ?_; rintro e w' ⟨rfl, rfl⟩))
          go_ret
          exact ⟨rfl, b_alloc _ _⟩
set_option maxRecDepth 100000 in
set_option maxHeartbeats 400000 in
theorem isUpTo (x m : Int) (w : World) : Calls Tryz.prog 53 #[.int .i64 x, .int .i64 m] w fun e w' => e = .returned (.bool (M.inB x 0 m)) ∧ w = w' := by
  unfold M.inB
  by_cases h : 0 ≤ x
  · rw [decide_eq_true h, Bool.true_and]
    go_enter Tryz.func53, Tryz.ntmps53
    go_wp2
    go_ret
    exact ⟨rfl, rfl⟩
  · rw [decide_eq_false h, Bool.false_and]
    go_enter Tryz.func53, Tryz.ntmps53
    go_wp2
    go_ret
    exact ⟨rfl, rfl⟩
set_option maxRecDepth 100000 in
set_option maxHeartbeats 400000 in
theorem hasEvent (x : Int) (a : Option Addr) (n cap : Nat) (y : Int) (w : World) : Calls Tryz.prog 147 #[.agg #[.int .i64 x, .slice a n cap], .int .i64 y] w fun e w' => e = .returned (.bool (M.inB y 0 (wrap64 (x - 1)))) ∧ Below w.heap.size w w' := by
  obtain ⟨m, hm⟩ : ∃ m, m = wrap64 (x - 1) := ⟨_, rfl⟩
  have hm2 : wrap64 (x - 1) = m := hm.symm
  rw [hm2]
  clear hm
  go_enter Tryz.func147, Tryz.ntmps147
  go_wp2_with (go_at_call 53; refine (isUpTo y m _).mono ?_; rintro e w' ⟨rfl, rfl⟩)
  go_ret
  exact ⟨rfl, b_alloc _ _⟩
end V
end Go.Proofs.YtlofnadpgnbmdaaGreat
