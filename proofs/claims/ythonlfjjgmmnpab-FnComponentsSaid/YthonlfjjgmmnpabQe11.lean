/- Texts laid together: Mat1, Mat2, Mark. -/
import Derived.Test.YthonlfjjgmmnpabRows
import Derived.Test.YthonlfjjgmmnpabQe1
import Derived.Test.YthonlfjjgmmnpabQe2
import Derived.Test.YthonlfjjgmmnpabQe3
import Derived.WalkKit
import Derived.ProofKit
import Derived.WalkSmall
import Derived.Deep.QuietTactic
import Derived.BigQuiet
import Derived.BigRegion
import Derived.Deep.Draws
import Derived.Lib.Hide
import Derived.OpenShut
import Derived.Deep.OwnRows
namespace Go.Proofs.Ythonlfjjgmmnpab.V
open Go.RowKit

set_option maxRecDepth 100000 in
set_option maxHeartbeats 400000 in
theorem eqInts (a : Option Addr) (n cap : Nat) (l : List Int) (a' : Option Addr) (n' cap' : Nat) (l' : List Int) (w : World) (h : Ints .i64 w a n l) (h' : Ints .i64 w a' n' l') (heq : l = l') :
    Calls Try.prog 63 #[.slice a n cap, .slice a' n' cap'] w fun e w' => e = .returned (.bool true) ∧ ∃ q, w' = w.drewN q := by
  subst heq
  obtain ⟨hl, hm, hr⟩ := h
  obtain ⟨hl', hm', hr'⟩ := h'
  obtain rfl : n = n' := by omega
  unfold maxLen at hm
  clear hm'
  have HL := Lib.hid hl
  clear hl hl'
  go_enter Try.func63, Try.ntmps63
  go_wp2
  go_loopw [5] (fun i wr => ∃ k : Nat, k ≤ n ∧ i = .int .i64 k ∧ ∃ q, wr = w.drewN q) (fun i _ => n - (intOf i).toNat)
  case atStart => exact ⟨0, Nat.zero_le _, rfl, 0, rfl⟩
  case round =>
    obtain ⟨k, hk, rfl, q, rfl⟩ := hrel
    by_cases hlt : k < n
    · rcases hr with h0 | ⟨b, off, rfl, hbl, hc⟩
      · omega
      rcases hr' with h0 | ⟨b', off', rfl, hbl', hc'⟩
      · omega
      have hck := hc k hlt
      have hck' := hc' k hlt
      obtain ⟨x, hx⟩ : ∃ x, x = l.getD k 0 := ⟨_, rfl⟩
      rw [← hx] at hck hck'
      clear hc hx hc'
      have hki : (k : Int) < (n : Int) := by omega
      go_wp2
      go_quiet (fail)
      go_wp2
      go_roundw
      case rel => exact ⟨k + 1, by omega, by go_num, _, rfl⟩
      case measure => simp [intOf]; omega
    · have hkn : k = n := by omega
      subst hkn
      clear hr hr'
      go_wp2
      go_ret
      exact ⟨rfl, q, rfl⟩

set_option maxRecDepth 100000 in
set_option maxHeartbeats 400000 in
theorem copyInts (a : Option Addr) (n cap : Nat) (l : List Int) (w : World) (h : Ints .i64 w a n l) (hs : n ≤ 1048576) :
    Calls Try.prog 62 #[.slice a n cap] w fun e w' => e = .returned (.slice (some ⟨w.heap.size, 0, none⟩) n n) ∧ Own w' w.heap.size (.slice (some ⟨w.heap.size, 0, none⟩) n n) l ∧ Below w.heap.size w w' := by
  obtain ⟨hl, hm, hr⟩ := h
  have hm2 := hm
  unfold maxLen at hm
  have HL := Lib.hid hl
  clear hl
  have hmk := run_make_row' (P := Try.prog) 30 2 (.int .i64 0) 8 Try.underlying30 info64 rfl .i64 .i64 n (by omega) (by omega)
  go_enter Try.func62, Try.ntmps62
  go_wp2
  clear hmk
  go_loopw [4] (fun i wr => ∃ k : Nat, k ≤ n ∧ i = .int .i64 k ∧ Own wr w.heap.size (.slice (some ⟨w.heap.size, 0, none⟩) n n) ((List.range n).map fun j => if j < k then l.getD j 0 else 0) ∧ Below w.heap.size w wr) (fun i _ => n - (intOf i).toNat)
  case atStart => exact ⟨0, Nat.zero_le _, rfl, by simpa using own_made w _ n (Nat.le_refl _) hm2, b_alloc _ _⟩
  case round =>
    obtain ⟨k, hk, rfl, hrow, hb⟩ := hrel
    by_cases hlt : k < n
    · rcases hr with h0 | ⟨b, off, rfl, hbl, hc⟩
      · omega
      have hck := hc k hlt
      obtain ⟨x, hx⟩ : ∃ x, x = l.getD k 0 := ⟨_, rfl⟩
      rw [← hx] at hck
      have hck' : wr.cell? ⟨b, off + k, none⟩ = some (.int .i64 x) := by rw [hb.cell (p := ⟨b, off + k, none⟩) hbl]; exact hck
      have hst : ∃ v, wr.cell? ⟨w.heap.size, k, none⟩ = some v := ⟨_, hrow.cellAt k hlt⟩
      obtain ⟨v, hst⟩ := hst
      have hfz := hrow.frozenAt k
      have HR := Lib.hid hrow
      have HB := Lib.hid hb
      have HX := Lib.hid hx
      clear hc hx hck hrow hb
      go_wp2
      go_roundw
      case rel =>
        refine ⟨k + 1, by omega, by go_num, ?_, HB.out.setCell (Nat.le_refl _) _⟩
        have := Own.set HR.out k x
        rw [M.map_set] at this
        refine (congrArg (Own _ _ _) (List.map_congr_left fun j hj => ?_)).mp this
        by_cases e : j = k
        · subst e; rw [if_pos rfl, if_pos (by omega), HX.out]
        · rw [if_neg e]
          by_cases e2 : j < k
          · rw [if_pos e2, if_pos (by omega)]
          · rw [if_neg e2, if_neg (by omega)]
      case measure => simp [intOf]; omega
    · have hkn : k = n := by omega
      subst hkn
      have HR := Lib.hid hrow
      have HB := Lib.hid hb
      clear hr hrow hb
      go_wp2
      go_ret
      refine ⟨rfl, ?_, HB.out⟩
      refine (congrArg (Own _ _ _) ?_).mp HR.out
      have hl := HL.out
      apply List.ext_getElem
      · simp [hl]
      · intro i h1 h2
        simp [show i < k by omega, h2]

/-- What is left of a size. -/
def SzPost (n : Nat) (left : Int) (w : World) (e : Ending) (w' : World) : Prop := ∃ x : Int, e = .returned (.int .i64 x) ∧ (x < 0 ∨ (0 ≤ x ∧ x + n = left)) ∧ w = w'

set_option maxRecDepth 100000 in
set_option maxHeartbeats 400000 in
theorem szInts (a : Option Addr) (n cap : Nat) (left : Int) (w : World) (hm : n ≤ maxLen) (h1 : 0 ≤ left) (h2 : left ≤ 1048576) :
    Calls Try.prog 61 #[.slice a n cap, .int .i64 left] w (SzPost n left w) := by
  unfold maxLen at hm
  by_cases hlt : left < n
  · go_enter Try.func61, Try.ntmps61
    go_wp2
    go_ret
    exact ⟨_, rfl, .inl (by omega), rfl⟩
  · go_enter Try.func61, Try.ntmps61
    go_wp2
    go_ret
    exact ⟨_, rfl, .inr ⟨by omega, by omega⟩, rfl⟩

/-- What is left of a size: nothing, or all the sizes fit. -/
def SzMPost (n : Nat) (R : List (List Int)) (left : Int) (w : World) (e : Ending) (w' : World) : Prop := ∃ x : Int, e = .returned (.int .i64 x) ∧ (x < 0 ∨ (0 ≤ x ∧ x ≤ left ∧ (n : Int) ≤ left ∧ (M.pre R R.length : Int) ≤ left)) ∧ w = w'

set_option maxRecDepth 100000 in
set_option maxHeartbeats 400000 in
theorem szIntss (a : Option Addr) (n cap : Nat) (R : List (List Int)) (left : Int) (w : World) (h : Mat w a n R) (h1 : 0 ≤ left) (h2 : left ≤ 1048576) :
    Calls Try.prog 29 #[.slice a n cap, .int .i64 left] w (SzMPost n R left w) := by
  have HM := Lib.hid h
  obtain ⟨hl, hm, -⟩ := h
  unfold maxLen at hm
  have HL := Lib.hid hl
  clear hl
  by_cases hlt : left < n
  · go_enter Try.func29, Try.ntmps29
    go_wp2
    go_ret
    exact ⟨_, rfl, .inl (by omega), rfl⟩
  · go_enter Try.func29, Try.ntmps29
    go_wp2
    go_loop [1, 5] (fun x i => ∃ (k : Nat) (y : Int), k ≤ n ∧ i = .int .i64 k ∧ x = .int .i64 y ∧ 0 ≤ y ∧ (M.pre R k : Int) + n + y ≤ left) (fun _ i => n - (intOf i).toNat)
    case atStart => exact ⟨0, left - n, Nat.zero_le _, rfl, rfl, by omega, by rw [M.pre_zero]; omega⟩
    case round =>
      obtain ⟨k, y, hk, rfl, rfl, hy, hp⟩ := hrel
      by_cases hkn : k < n
      · obtain ⟨b, off, ra, rc, L, l, rfl, hbl, hll, hc, hI⟩ := HM.out.at k hkn
        have hps := M.pre_succ R k (by have := HL.out; omega)
        have hLl : L = l.length := hI.1.symm
        rw [← hll, ← hLl] at hps
        have HP := Lib.hid hps
        have hLm := hI.2.1
        clear hI hll hps hLl
        go_wp2_with fail
        refine (szInts _ _ _ _ _ hLm hy (by omega)).mono ?_
        rintro e w' ⟨z, rfl, hz, rfl⟩
        rcases hz with hz | ⟨hz1, hz2⟩
        · go_wp2
          go_ret
          exact ⟨_, rfl, .inl (by omega), rfl⟩
        · go_wp2
          go_round
          case rel => exact ⟨k + 1, z, by omega, by go_num, rfl, hz1, by rw [HP.out]; omega⟩
          case measure => simp [intOf]; omega
      · obtain rfl : k = n := by omega
        go_wp2
        go_ret
        exact ⟨_, rfl, .inr ⟨hy, by omega, by omega, by rw [HL.out]; omega⟩, rfl⟩

end Go.Proofs.Ythonlfjjgmmnpab.V

namespace Go.Proofs.Ythonlfjjgmmnpab.V
open Go.RowKit

set_option maxRecDepth 100000 in
set_option maxHeartbeats 400000 in
theorem eqIntss (a : Option Addr) (n cap : Nat) (R : List (List Int)) (a' : Option Addr) (n' cap' : Nat) (R' : List (List Int)) (w : World) (h : Mat w a n R) (h' : Mat w a' n' R') (heq : R = R') :
    Calls Try.prog 32 #[.slice a n cap, .slice a' n' cap'] w fun e w' => e = .returned (.bool true) ∧ ∃ q, w' = w.drewN q := by
  subst heq
  have HM := Lib.hid h
  have HM' := Lib.hid h'
  obtain ⟨hl, hm, -⟩ := h
  obtain ⟨hl', -, -⟩ := h'
  obtain rfl : n = n' := by omega
  unfold maxLen at hm
  have HL := Lib.hid hl
  clear hl hl'
  go_enter Try.func32, Try.ntmps32
  go_wp2
  go_loopw [5] (fun i wr => ∃ k : Nat, k ≤ n ∧ i = .int .i64 k ∧ ∃ q, wr = w.drewN q) (fun i _ => n - (intOf i).toNat)
  case atStart => exact ⟨0, Nat.zero_le _, rfl, 0, rfl⟩
  case round =>
    obtain ⟨k, hk, rfl, q, rfl⟩ := hrel
    by_cases hlt : k < n
    · obtain ⟨b, off, ra, rc, L, l, rfl, hbl, hll, hc, hI⟩ := HM.out.at k hlt
      obtain ⟨b', off', ra', rc', L', l', rfl, hbl', hll', hc', hI'⟩ := HM'.out.at k hlt
      have HI := Lib.hid hI
      have HI' := Lib.hid hI'
      have HE := Lib.hid (hll.trans hll'.symm)
      clear hI hI' hll hll' HM HM'
      have hki : (k : Int) < (n : Int) := by omega
      go_wp2
      go_quiet ((go_at_call 63; exact q_more (eqInts _ _ _ l _ _ _ l' _ HI.out HI'.out HE.out)))
      go_wp2
      go_roundw
      case rel => exact ⟨k + 1, by omega, by go_num, _, rfl⟩
      case measure => simp [intOf]; omega
    · have hkn : k = n := by omega
      subst hkn
      go_wp2
      go_ret
      exact ⟨rfl, q, rfl⟩

set_option maxRecDepth 100000 in
set_option maxHeartbeats 400000 in
theorem copyIntss (a : Option Addr) (n cap : Nat) (R : List (List Int)) (w : World) (h : Mat w a n R) (hs : n ≤ 1048576) (hr : M.pre R R.length ≤ 1048576) :
    Calls Try.prog 30 #[.slice a n cap] w fun e w' => e = .returned (.slice (some ⟨w.heap.size, 0, none⟩) n n) ∧ OwnM w' w.heap.size (.slice (some ⟨w.heap.size, 0, none⟩) n n) R ∧ Below w.heap.size w w' := by
  have HM := Lib.hid h
  obtain ⟨hl, hm, -⟩ := h
  have hm2 := hm
  unfold maxLen at hm
  have HL := Lib.hid hl
  have HR := Lib.hid hr
  clear hl hr
  have hmk := run_make_row' (P := Try.prog) 24 30 (.slice none 0 0) 24 Try.underlying24 infoS64 rfl .i64 .i64 n (by omega) (by omega)
  go_enter Try.func30, Try.ntmps30
  go_wp2
  clear hmk
  go_loopw [4] (fun i wr => ∃ k : Nat, k ≤ n ∧ i = .int .i64 k ∧ OwnM wr w.heap.size (.slice (some ⟨w.heap.size, 0, none⟩) n n) ((List.range n).map fun j => if j < k then R.getD j [] else []) ∧ Below w.heap.size w wr) (fun i _ => n - (intOf i).toNat)
  case atStart =>
    refine ⟨0, Nat.zero_le _, rfl, ?_, b_alloc _ _⟩
    refine (congrArg (OwnM _ _ _) ?_).mp (ownM_made w _ n (Nat.le_refl _) hm2)
    apply List.ext_getElem
    · simp
    · intro i h1 h2; simp
  case round =>
    obtain ⟨k, hk, rfl, hO, hb⟩ := hrel
    have HO := Lib.hid hO
    have HB := Lib.hid hb
    clear hO hb
    by_cases hlt : k < n
    · obtain ⟨b, off, ra, rc, L, l, rfl, hbl, hll, hc, hI⟩ := (HM.out.below HB.out).at k hlt
      have HI := Lib.hid hI
      have HLL := Lib.hid hll
      have hLs : L ≤ 1048576 := by
        have e1 := M.len_le_pre R k (by have := HL.out; omega)
        have e2 := HR.out
        have e3 := HI.out.1
        rw [HLL.out] at e3
        omega
      clear hI hll
      go_wp2_with fail
      refine (copyInts _ _ _ l _ HI.out hLs).mono ?_
      rintro e w1 ⟨rfl, ho1, hb1⟩
      have hg := HO.out.lt rfl
      have hst : ∃ v, w1.cell? ⟨w.heap.size, k, none⟩ = some v := by
        obtain ⟨v, hv⟩ := HO.out.outer k hlt
        exact ⟨v, by rw [hb1.cell (p := ⟨w.heap.size, k, none⟩) hg]; exact hv⟩
      obtain ⟨v, hst⟩ := hst
      have hfz : w1.frozen? ⟨w.heap.size, k, none⟩ = false := by rw [hb1.frozen (p := ⟨w.heap.size, k, none⟩) hg]; exact HO.out.outerFz k
      have HN := Lib.hid (HO.out.setRow hb1 HB.out.size ho1 k hlt)
      have HB1 := Lib.hid (bnext HB.out hb1)
      clear ho1 hb1 hg
      go_wp2
      go_roundw
      case rel =>
        refine ⟨k + 1, by omega, by go_num, ?_, HB1.out.setCell (Nat.le_refl _) _⟩
        refine (congrArg (OwnM _ _ _) ?_).mp HN.out
        apply List.ext_getElem
        · simp
        · intro j h1 h2
          simp only [List.length_map, List.length_range] at h2
          rw [List.getElem_set]
          simp only [List.getElem_map, List.getElem_range]
          by_cases e : k = j
          · subst e; rw [if_pos rfl, if_pos (by omega), HLL.out]
          · rw [if_neg e]
            by_cases e2 : j < k
            · rw [if_pos e2, if_pos (by omega)]
            · rw [if_neg e2, if_neg (by omega)]
      case measure => simp [intOf]; omega
    · have hkn : k = n := by omega
      subst hkn
      go_wp2
      go_ret
      refine ⟨rfl, ?_, HB.out⟩
      refine (congrArg (OwnM _ _ _) ?_).mp HO.out
      have hl := HL.out
      apply List.ext_getElem
      · simp [hl]
      · intro i h1 h2
        simp [show i < k by omega, h2]

/-- The same, said for the exact laws. -/
theorem eqM (a : Option Addr) (n cap : Nat) (R : List (List Int)) (a' : Option Addr) (n' cap' : Nat) (w : World) (h : Mat w a n R) (h' : Mat w a' n' R) :
    Calls Try.prog 32 #[.slice a n cap, .slice a' n' cap'] w fun e w' => e = .returned (.bool true) ∧ Below w.heap.size w w' := by
  refine (eqIntss _ _ _ _ _ _ _ _ _ h h' rfl).mono ?_
  rintro e w' ⟨rfl, q, rfl⟩
  exact ⟨rfl, b_draws _ _⟩
theorem eqV (a : Option Addr) (n cap : Nat) (l : List Int) (a' : Option Addr) (n' cap' : Nat) (w : World) (h : Ints .i64 w a n l) (h' : Ints .i64 w a' n' l) :
    Calls Try.prog 63 #[.slice a n cap, .slice a' n' cap'] w fun e w' => e = .returned (.bool true) ∧ Below w.heap.size w w' := by
  refine (eqInts _ _ _ _ _ _ _ _ _ h h' rfl).mono ?_
  rintro e w' ⟨rfl, q, rfl⟩
  exact ⟨rfl, b_draws _ _⟩
end Go.Proofs.Ythonlfjjgmmnpab.V

namespace Go.Proofs.Ythonlfjjgmmnpab.V
open Go.RowKit

/-- Only blocks of S may have changed, and no others were added. -/
structure Chg (S : Nat → Prop) (w w' : World) : Prop where
  os : w'.os = w.os
  tape : w'.tape = w.tape
  output : w'.output = w.output
  size : w'.heap.size = w.heap.size
  other : ∀ k, ¬ S k → w'.heap[k]? = w.heap[k]?

theorem Chg.refl (S : Nat → Prop) (w : World) : Chg S w w := ⟨rfl, rfl, rfl, rfl, fun _ _ => rfl⟩
theorem Chg.trans {S : Nat → Prop} {a b c : World} (h : Chg S a b) (k : Chg S b c) : Chg S a c :=
  ⟨k.os.trans h.os, k.tape.trans h.tape, k.output.trans h.output, k.size.trans h.size, fun i hi => (k.other i hi).trans (h.other i hi)⟩
theorem Chg.mono {S S' : Nat → Prop} {a b : World} (h : Chg S a b) (hs : ∀ k, S k → S' k) : Chg S' a b :=
  ⟨h.os, h.tape, h.output, h.size, fun k hk => h.other k (fun hh => hk (hs k hh))⟩
theorem Chg.below {S : Nat → Prop} {a b : World} {B : Nat} (h : Chg S a b) (hs : ∀ k, S k → B ≤ k) : Below B a b :=
  ⟨h.os, h.tape, h.output, Nat.le_of_eq h.size.symm, fun k hk => h.other k (fun hh => by have := hs k hh; omega)⟩
theorem Chg.set {S : Nat → Prop} {a b : World} (h : Chg S a b) {g i : Nat} (hg : S g) (v : Value) : Chg S a (b.setCell ⟨g, i, none⟩ v) :=
  ⟨h.os, h.tape, h.output, by have := h.size; simpa [World.setCell] using this, fun k hk => (Below.heap_setCell _ _ _ _ (by show k ≠ g; intro e; subst e; exact hk hg)).trans (h.other k hk)⟩
theorem Own.chg {S : Nat → Prop} {w w' : World} {B : Nat} {v : Value} {l : List Int} (h : Own w B v l) (hc : Chg S w w') (hs : ∀ k, v.ownBlock = some k → ¬ S k) : Own w' B v l :=
  ownsRow_keep h fun k hk => hc.other k (hs k hk)

/-- The blocks from lo up to hi are as they were. -/
def Same (lo hi : Nat) (w w' : World) : Prop := ∀ k, lo ≤ k → k < hi → w'.heap[k]? = w.heap[k]?
theorem Same.refl (lo hi : Nat) (w : World) : Same lo hi w w := fun _ _ _ => rfl
theorem Same.below {lo hi b : Nat} {a w w' : World} (h : Same lo hi a w) (hb : Below b w w') (hh : hi ≤ b) : Same lo hi a w' :=
  fun k h1 h2 => (hb.block k (by omega)).trans (h k h1 h2)
theorem Same.chg {S : Nat → Prop} {lo hi : Nat} {a w w' : World} (h : Same lo hi a w) (hc : Chg S w w') (hs : ∀ k, lo ≤ k → k < hi → ¬ S k) : Same lo hi a w' :=
  fun k h1 h2 => (hc.other k (hs k h1 h2)).trans (h k h1 h2)

/-- One row of an owned matrix is rewritten. -/
theorem OwnV.row {w w' : World} {B : Nat} {v : Value} {R : List (List Int)} {V : List Value} {l : List Int} (h : OwnV w B v R V) (i : Nat) (hi : i < R.length) (ho : Own w' B (V.getD i (.slice none 0 0)) l)
    (hc : Chg (fun k => (V.getD i (.slice none 0 0)).ownBlock = some k) w w') : OwnV w' B v (R.set i l) V := by
  obtain ⟨h1, h2, h3, h4, h5⟩ := h
  refine ⟨by simpa using h1, ?_, ?_, ?_, ?_⟩
  · rw [List.length_set]
    exact ownsRow_keep h2 fun k hk => hc.other k (fun e => h4 i hi k e hk)
  · intro j hj
    simp only [List.length_set] at hj
    rw [getD_set _ _ _ _ _ hi]
    by_cases e : j = i
    · subst e; rw [if_pos rfl]; exact ho
    · rw [if_neg e]
      exact (h3 j hj).chg hc (fun k hk e2 => h5 j i hj hi e k hk e2)
  · intro j hj
    simp only [List.length_set] at hj
    exact h4 j hj
  · intro j t hj ht
    simp only [List.length_set] at hj ht
    exact h5 j t hj ht

end Go.Proofs.Ythonlfjjgmmnpab.V
