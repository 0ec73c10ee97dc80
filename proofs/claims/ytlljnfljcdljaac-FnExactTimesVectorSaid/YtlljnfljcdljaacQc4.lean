/- Texts laid together: Mat2, Mark, Vals0, App. -/
import Derived.Test.YtlljnfljcdljaacRows
import Derived.Test.YtlljnfljcdljaacQc1
import Derived.Test.YtlljnfljcdljaacQc2
import Derived.Test.YtlljnfljcdljaacQc3
import Derived.WalkKit
import Derived.ProofKit
import Derived.WalkSmall
import Derived.Deep.QuietTactic
import Derived.BigQuiet
import Derived.BigRegion
import Derived.Deep.Draws
import Derived.Lib.Hide
import Derived.OpenShut
import Derived.Deep.OwnRows
import Derived.Maps.AppendAt
set_option linter.unusedSimpArgs false
set_option linter.unusedVariables false
set_option linter.unusedSectionVars false
namespace Go.Proofs.Ytlljnfljcdljaac.V
open Go.RowKit

set_option maxRecDepth 100000 in
set_option maxHeartbeats 400000 in
theorem eqIntss (a : Option Addr) (n cap : Nat) (R : List (List Int)) (a' : Option Addr) (n' cap' : Nat) (R' : List (List Int)) (w : World) (h : Mat w a n R) (h' : Mat w a' n' R') (heq : R = R') :
    Calls Try.prog 9 #[.slice a n cap, .slice a' n' cap'] w fun e w' => e = .returned (.bool true) ∧ ∃ q, w' = w.drewN q := by
  subst heq
  have HM := Lib.hid h
  have HM' := Lib.hid h'
  obtain ⟨hl, hm, -⟩ := h
  obtain ⟨hl', -, -⟩ := h'
  obtain rfl : n = n' := by omega
  unfold maxLen at hm
  have HL := Lib.hid hl
  clear hl hl'
  go_enter Try.func9, Try.ntmps9
  go_wp2
  go_loopw [5] (fun i wr => ∃ k : Nat, k ≤ n ∧ i = .int .i64 k ∧ ∃ q, wr = w.drewN q) (fun i _ => n - (intOf i).toNat)
  case atStart => exact ⟨0, Nat.zero_le _, rfl, 0, rfl⟩
  case round =>
    obtain ⟨k, hk, rfl, q, rfl⟩ := hrel
    by_cases hlt : k < n
    · obtain ⟨b, off, ra, rc, L, l, rfl, hbl, hll, hc, hI⟩ := HM.out.at k hlt
      obtain ⟨b', off', ra', rc', L', l', rfl, hbl', hll', hc', hI'⟩ := HM'.out.at k hlt
      have HI := Lib.hid hI
      have HI' := Lib.hid hI'
      have HE := Lib.hid (hll.trans hll'.symm)
      clear hI hI' hll hll' HM HM'
      have hki : (k : Int) < (n : Int) := by omega
      go_wp2
      go_quiet ((go_at_call 15; exact q_more (eqInts _ _ _ l _ _ _ l' _ HI.out HI'.out HE.out)))
      go_wp2
      go_roundw
      case rel => exact ⟨k + 1, by omega, by go_num, _, rfl⟩
      case measure => simp [intOf]; omega
    · have hkn : k = n := by omega
      subst hkn
      go_wp2
      go_ret
      exact ⟨rfl, q, rfl⟩

set_option maxRecDepth 100000 in
set_option maxHeartbeats 400000 in
theorem copyIntss (a : Option Addr) (n cap : Nat) (R : List (List Int)) (w : World) (h : Mat w a n R) (hs : n ≤ 1048576) (hr : M.pre R R.length ≤ 1048576) :
    Calls Try.prog 7 #[.slice a n cap] w fun e w' => e = .returned (.slice (some ⟨w.heap.size, 0, none⟩) n n) ∧ OwnM w' w.heap.size (.slice (some ⟨w.heap.size, 0, none⟩) n n) R ∧ Below w.heap.size w w' := by
  have HM := Lib.hid h
  obtain ⟨hl, hm, -⟩ := h
  have hm2 := hm
  unfold maxLen at hm
  have HL := Lib.hid hl
  have HR := Lib.hid hr
  clear hl hr
  have hmk := run_make_row' (P := Try.prog) 22 29 (.slice none 0 0) 24 Try.underlying22 infoS64 rfl .i64 .i64 n (by omega) (by omega)
  go_enter Try.func7, Try.ntmps7
  go_wp2
  clear hmk
  go_loopw [4] (fun i wr => ∃ k : Nat, k ≤ n ∧ i = .int .i64 k ∧ OwnM wr w.heap.size (.slice (some ⟨w.heap.size, 0, none⟩) n n) ((List.range n).map fun j => if j < k then R.getD j [] else []) ∧ Below w.heap.size w wr) (fun i _ => n - (intOf i).toNat)
  case atStart =>
    refine ⟨0, Nat.zero_le _, rfl, ?_, b_alloc _ _⟩
    refine (congrArg (OwnM _ _ _) ?_).mp (ownM_made w _ n (Nat.le_refl _) hm2)
    apply List.ext_getElem
    · simp
    · intro i h1 h2; simp
  case round =>
    obtain ⟨k, hk, rfl, hO, hb⟩ := hrel
    have HO := Lib.hid hO
    have HB := Lib.hid hb
    clear hO hb
    by_cases hlt : k < n
    · obtain ⟨b, off, ra, rc, L, l, rfl, hbl, hll, hc, hI⟩ := (HM.out.below HB.out).at k hlt
      have HI := Lib.hid hI
      have HLL := Lib.hid hll
      have hLs : L ≤ 1048576 := by
        have e1 := M.len_le_pre R k (by have := HL.out; omega)
        have e2 := HR.out
        have e3 := HI.out.1
        rw [HLL.out] at e3
        omega
      clear hI hll
      go_wp2_with fail
      refine (copyInts _ _ _ l _ HI.out hLs).mono ?_
      rintro e w1 ⟨rfl, ho1, hb1⟩
      have hg := HO.out.lt rfl
      have hst : ∃ v, w1.cell? ⟨w.heap.size, k, none⟩ = some v := by
        obtain ⟨v, hv⟩ := HO.out.outer k hlt
        exact ⟨v, by rw [hb1.cell (p := ⟨w.heap.size, k, none⟩) hg]; exact hv⟩
      obtain ⟨v, hst⟩ := hst
      have hfz : w1.frozen? ⟨w.heap.size, k, none⟩ = false := by rw [hb1.frozen (p := ⟨w.heap.size, k, none⟩) hg]; exact HO.out.outerFz k
      have HN := Lib.hid (HO.out.setRow hb1 HB.out.size ho1 k hlt)
      have HB1 := Lib.hid (bnext HB.out hb1)
      clear ho1 hb1 hg
      go_wp2
      go_roundw
      case rel =>
        refine ⟨k + 1, by omega, by go_num, ?_, HB1.out.setCell (Nat.le_refl _) _⟩
        refine (congrArg (OwnM _ _ _) ?_).mp HN.out
        apply List.ext_getElem
        · simp
        · intro j h1 h2
          simp only [List.length_map, List.length_range] at h2
          rw [List.getElem_set]
          simp only [List.getElem_map, List.getElem_range]
          by_cases e : k = j
          · subst e; rw [if_pos rfl, if_pos (by omega), HLL.out]
          · rw [if_neg e]
            by_cases e2 : j < k
            · rw [if_pos e2, if_pos (by omega)]
            · rw [if_neg e2, if_neg (by omega)]
      case measure => simp [intOf]; omega
    · have hkn : k = n := by omega
      subst hkn
      go_wp2
      go_ret
      refine ⟨rfl, ?_, HB.out⟩
      refine (congrArg (OwnM _ _ _) ?_).mp HO.out
      have hl := HL.out
      apply List.ext_getElem
      · simp [hl]
      · intro i h1 h2
        simp [show i < k by omega, h2]

/-- The same, said for the exact laws. -/
theorem eqM (a : Option Addr) (n cap : Nat) (R : List (List Int)) (a' : Option Addr) (n' cap' : Nat) (w : World) (h : Mat w a n R) (h' : Mat w a' n' R) :
    Calls Try.prog 9 #[.slice a n cap, .slice a' n' cap'] w fun e w' => e = .returned (.bool true) ∧ Below w.heap.size w w' := by
  refine (eqIntss _ _ _ _ _ _ _ _ _ h h' rfl).mono ?_
  rintro e w' ⟨rfl, q, rfl⟩
  exact ⟨rfl, b_draws _ _⟩
theorem eqV (a : Option Addr) (n cap : Nat) (l : List Int) (a' : Option Addr) (n' cap' : Nat) (w : World) (h : Ints .i64 w a n l) (h' : Ints .i64 w a' n' l) :
    Calls Try.prog 15 #[.slice a n cap, .slice a' n' cap'] w fun e w' => e = .returned (.bool true) ∧ Below w.heap.size w w' := by
  refine (eqInts _ _ _ _ _ _ _ _ _ h h' rfl).mono ?_
  rintro e w' ⟨rfl, q, rfl⟩
  exact ⟨rfl, b_draws _ _⟩
end Go.Proofs.Ytlljnfljcdljaac.V

namespace Go.Proofs.Ytlljnfljcdljaac.V
open Go.RowKit

/-- Only blocks of S may have changed, and no others were added. -/
structure Chg (S : Nat → Prop) (w w' : World) : Prop where
  os : w'.os = w.os
  tape : w'.tape = w.tape
  output : w'.output = w.output
  size : w'.heap.size = w.heap.size
  other : ∀ k, ¬ S k → w'.heap[k]? = w.heap[k]?

theorem Chg.refl (S : Nat → Prop) (w : World) : Chg S w w := ⟨rfl, rfl, rfl, rfl, fun _ _ => rfl⟩
theorem Chg.trans {S : Nat → Prop} {a b c : World} (h : Chg S a b) (k : Chg S b c) : Chg S a c :=
  ⟨k.os.trans h.os, k.tape.trans h.tape, k.output.trans h.output, k.size.trans h.size, fun i hi => (k.other i hi).trans (h.other i hi)⟩
theorem Chg.mono {S S' : Nat → Prop} {a b : World} (h : Chg S a b) (hs : ∀ k, S k → S' k) : Chg S' a b :=
  ⟨h.os, h.tape, h.output, h.size, fun k hk => h.other k (fun hh => hk (hs k hh))⟩
theorem Chg.below {S : Nat → Prop} {a b : World} {B : Nat} (h : Chg S a b) (hs : ∀ k, S k → B ≤ k) : Below B a b :=
  ⟨h.os, h.tape, h.output, Nat.le_of_eq h.size.symm, fun k hk => h.other k (fun hh => by have := hs k hh; omega)⟩
theorem Chg.set {S : Nat → Prop} {a b : World} (h : Chg S a b) {g i : Nat} (hg : S g) (v : Value) : Chg S a (b.setCell ⟨g, i, none⟩ v) :=
  ⟨h.os, h.tape, h.output, by have := h.size; simpa [World.setCell] using this, fun k hk => (Below.heap_setCell _ _ _ _ (by show k ≠ g; intro e; subst e; exact hk hg)).trans (h.other k hk)⟩
theorem Own.chg {S : Nat → Prop} {w w' : World} {B : Nat} {v : Value} {l : List Int} (h : Own w B v l) (hc : Chg S w w') (hs : ∀ k, v.ownBlock = some k → ¬ S k) : Own w' B v l :=
  ownsRow_keep h fun k hk => hc.other k (hs k hk)

/-- The blocks from lo up to hi are as they were. -/
def Same (lo hi : Nat) (w w' : World) : Prop := ∀ k, lo ≤ k → k < hi → w'.heap[k]? = w.heap[k]?
theorem Same.refl (lo hi : Nat) (w : World) : Same lo hi w w := fun _ _ _ => rfl
theorem Same.below {lo hi b : Nat} {a w w' : World} (h : Same lo hi a w) (hb : Below b w w') (hh : hi ≤ b) : Same lo hi a w' :=
  fun k h1 h2 => (hb.block k (by omega)).trans (h k h1 h2)
theorem Same.chg {S : Nat → Prop} {lo hi : Nat} {a w w' : World} (h : Same lo hi a w) (hc : Chg S w w') (hs : ∀ k, lo ≤ k → k < hi → ¬ S k) : Same lo hi a w' :=
  fun k h1 h2 => (hc.other k (hs k h1 h2)).trans (h k h1 h2)

/-- One row of an owned matrix is rewritten. -/
theorem OwnV.row {w w' : World} {B : Nat} {v : Value} {R : List (List Int)} {V : List Value} {l : List Int} (h : OwnV w B v R V) (i : Nat) (hi : i < R.length) (ho : Own w' B (V.getD i (.slice none 0 0)) l)
    (hc : Chg (fun k => (V.getD i (.slice none 0 0)).ownBlock = some k) w w') : OwnV w' B v (R.set i l) V := by
  obtain ⟨h1, h2, h3, h4, h5⟩ := h
  refine ⟨by simpa using h1, ?_, ?_, ?_, ?_⟩
  · rw [List.length_set]
    exact ownsRow_keep h2 fun k hk => hc.other k (fun e => h4 i hi k e hk)
  · intro j hj
    simp only [List.length_set] at hj
    rw [getD_set _ _ _ _ _ hi]
    by_cases e : j = i
    · subst e; rw [if_pos rfl]; exact ho
    · rw [if_neg e]
      exact (h3 j hj).chg hc (fun k hk e2 => h5 j i hj hi e k hk e2)
  · intro j hj
    simp only [List.length_set] at hj
    exact h4 j hj
  · intro j t hj ht
    simp only [List.length_set] at hj ht
    exact h5 j t hj ht

set_option maxRecDepth 100000 in
set_option maxHeartbeats 400000 in
theorem markInts (a : Option Addr) (n cap B : Nat) (l : List Int) (m : Int) (w : World) (h : Own w B (.slice a n cap) l) (hn : n ≤ 1048576) (h1 : 0 ≤ m) (h2 : m ≤ 40000000) :
    Calls Try.prog 16 #[.slice a n cap, .int .i64 m] w fun e w' => e = .returned (.int .i64 (m + n)) ∧ Own w' B (.slice a n cap) (M.iota m n) ∧ Chg (fun k => (Value.slice a n cap).ownBlock = some k) w w' := by
  have HO := Lib.hid h
  have HL := Lib.hid h.len
  have hgg := own_form h
  obtain ⟨a', c', hv, -, -, hg⟩ := hgg
  injection hv with e1 e2 e3
  subst e1 e3
  rw [← e2] at hg
  clear h e2
  go_enter Try.func16, Try.ntmps16
  go_wp2
  go_loopw [1, 5] (fun x i wr => ∃ k : Nat, k ≤ n ∧ i = .int .i64 k ∧ x = .int .i64 (m + k) ∧ Own wr B (.slice a n cap) ((List.range n).map fun j => if j < k then m + (j : Int) else l.getD j 0) ∧ Chg (fun k => (Value.slice a n cap).ownBlock = some k) w wr) (fun _ i _ => n - (intOf i).toNat)
  case atStart =>
    refine ⟨0, Nat.zero_le _, rfl, by simp, ?_, Chg.refl _ _⟩
    refine (congrArg (Own _ _ _) ?_).mp HO.out
    have hl := HL.out
    apply List.ext_getElem
    · simp [hl]
    · intro i h1 h2
      simp [h1]
  case round =>
    obtain ⟨k, hk, rfl, rfl, hrow, hb⟩ := hrel
    by_cases hlt : k < n
    · obtain ⟨g, rfl, hBg, hgl⟩ := hg (by omega)
      have hst : ∃ v, wr.cell? ⟨g, k, none⟩ = some v := ⟨_, hrow.cellAt k hlt⟩
      obtain ⟨v, hst⟩ := hst
      have hfz := hrow.frozenAt k
      have HR := Lib.hid hrow
      have HB := Lib.hid hb
      clear hrow hb hg
      have hb1 : 0 ≤ m + (k : Int) := by omega
      have hb2 : m + (k : Int) ≤ 50000000 := by omega
      go_wp2
      go_roundw
      case rel =>
        refine ⟨k + 1, by omega, by go_num, vi (by omega), ?_, HB.out.set rfl _⟩
        have := Own.set HR.out k (m + k)
        rw [M.map_set] at this
        refine (congrArg (Own _ _ _) (List.map_congr_left fun j hj => ?_)).mp this
        by_cases e : j = k
        · subst e; rw [if_pos rfl, if_pos (by omega)]
        · rw [if_neg e]
          by_cases e2 : j < k
          · rw [if_pos e2, if_pos (by omega)]
          · rw [if_neg e2, if_neg (by omega)]
      case measure => simp [intOf]; omega
    · have hkn : k = n := by omega
      subst hkn
      have HR := Lib.hid hrow
      have HB := Lib.hid hb
      clear hrow hb hg
      go_wp2
      go_ret
      refine ⟨rfl, (congrArg (Own _ _ _) ?_).mp HR.out, HB.out⟩
      unfold M.iota
      exact List.map_congr_left fun j hj => by rw [if_pos (List.mem_range.1 hj)]

set_option maxRecDepth 100000 in
set_option maxHeartbeats 400000 in
theorem heldInts (a : Option Addr) (n cap : Nat) (m : Int) (w : World) (h : Ints .i64 w a n (M.iota m n)) (hn : n ≤ 1048576) (h1 : 0 ≤ m) (h2 : m ≤ 40000000) :
    Calls Try.prog 17 #[.slice a n cap, .int .i64 m] w fun e w' => e = .returned (.int .i64 (m + n)) ∧ w = w' := by
  have HI := Lib.hid h
  clear h
  go_enter Try.func17, Try.ntmps17
  go_wp2
  go_loop [1, 5] (fun x i => ∃ k : Nat, k ≤ n ∧ i = .int .i64 k ∧ x = .int .i64 (m + k)) (fun _ i => n - (intOf i).toNat)
  case atStart => exact ⟨0, Nat.zero_le _, rfl, by simp⟩
  case round =>
    obtain ⟨k, hk, rfl, rfl⟩ := hrel
    by_cases hlt : k < n
    · obtain ⟨b, off, x, rfl, hbl, hx, hc⟩ := HI.out.at k hlt
      rw [M.iota_getD m n k hlt] at hx
      subst hx
      have hb1 : 0 ≤ m + (k : Int) := by omega
      have hb2 : m + (k : Int) ≤ 50000000 := by omega
      go_wp2
      go_round
      case rel => exact ⟨k + 1, by omega, by go_num, vi (by omega)⟩
      case measure => simp [intOf]; omega
    · have hkn : k = n := by omega
      subst hkn
      go_wp2
      go_ret
      exact ⟨rfl, rfl⟩

set_option maxRecDepth 100000 in
set_option maxHeartbeats 400000 in
theorem markIntss (a : Option Addr) (n cap B : Nat) (R : List (List Int)) (m : Int) (w0 w : World) (h0 : OwnM w0 B (.slice a n cap) R) (hb0 : Same B w0.heap.size w0 w) (hn : n ≤ 1048576) (hp : M.pre R R.length ≤ 1048576) (h1 : 0 ≤ m) (h2 : m + M.pre R R.length ≤ 40000000) :
    Calls Try.prog 10 #[.slice a n cap, .int .i64 m] w fun e w' => e = .returned (.int .i64 (m + M.pre R R.length)) ∧ OwnM w' B (.slice a n cap) (M.marks m R) ∧ Chg (fun k => B ≤ k ∧ k < w0.heap.size) w w' := by
  obtain ⟨V, hV0⟩ := h0
  have hV : OwnV w B (.slice a n cap) R V := by
    obtain ⟨h1, h2, h3, h4, h5⟩ := hV0
    exact ⟨h1, ownsRow_keep h2 (fun k hv => hb0 k (own_lt h2 hv).1 (own_lt h2 hv).2), fun i hi => (h3 i hi).keep hb0, h4, h5⟩
  have hlt : ∀ i, i < n → ∀ k, (V.getD i (.slice none 0 0)).ownBlock = some k → B ≤ k ∧ k < w0.heap.size := by
    obtain ⟨e1, e2, e3, e4, e5⟩ := hV0
    have hl := OwnM.len ⟨V, e1, e2, e3, e4, e5⟩
    exact fun i hi k hk => own_lt (e3 i (by omega)) hk
  have HT := Lib.hid hlt
  have HL := Lib.hid (OwnM.len ⟨V, hV⟩)
  have hgg := own_form hV.2.1
  obtain ⟨a', c', hv, -, -, hg⟩ := hgg
  injection hv with e1 e2 e3
  subst e1 e3
  rw [← e2] at hg
  have HV := Lib.hid hV
  clear hV hlt hV0 e2 hb0
  go_enter Try.func10, Try.ntmps10
  go_wp2
  go_loopw [1, 5] (fun x i wr => ∃ (k : Nat) (y : Int), k ≤ n ∧ i = .int .i64 k ∧ x = .int .i64 y ∧ y = m + M.pre R k ∧ OwnV wr B (.slice a n cap) (M.marked m R k) V ∧ Chg (fun k => B ≤ k ∧ k < w0.heap.size) w wr) (fun _ i _ => n - (intOf i).toNat)
  case atStart => exact ⟨0, m, Nat.zero_le _, rfl, rfl, by rw [M.pre_zero]; omega, by rw [M.marked_zero]; exact HV.out, Chg.refl _ _⟩
  case round =>
    obtain ⟨k, y, hk, rfl, rfl, hy, hO, hb⟩ := hrel
    have HO := Lib.hid hO
    have HB := Lib.hid hb
    by_cases hlt : k < n
    · have hkR : k < R.length := by have := HL.out; omega
      have hps := M.pre_succ R k hkR
      have hpm := M.pre_mono R (show k + 1 ≤ R.length by omega)
      have hle := M.len_le_pre R k hkR
      obtain ⟨g, rfl, hBg, hgl⟩ := hg (by omega)
      have hrow := HO.out.2.2.1 k (by simpa using hkR)
      obtain ⟨ra, rc, hrv, hrc, hrm, hrg⟩ := own_form hrow
      have hcell : wr.cell? ⟨g, k, none⟩ = some (V.getD k (.slice none 0 0)) := by
        have e : n = (M.marked m R k).length := by have := HL.out; simpa using this
        have h2 := HO.out.2.1
        rw [← e] at h2
        rw [World.ownsRow.cellAt h2 k (by omega)]
        have := HO.out.1
        simp [show k < V.length by omega]
      rw [M.marked_rowlen m R k k hkR] at hrv hrc
      rw [hrv] at hcell hrow
      rw [M.marked_at m R k k hkR, if_neg (Nat.lt_irrefl _)] at hrow
      have y1 : 0 ≤ y := by omega
      have y2 : y ≤ 40000000 := by omega
      generalize hLn : (R.getD k []).length = L at *
      have hLs : L ≤ 1048576 := by omega
      have HY := Lib.hid hy
      have HP := Lib.hid hps
      have HRV := Lib.hid hrv
      have HRW := Lib.hid hrow
      have HLn := Lib.hid hLn
      have HTk := Lib.hid (HT.out k hlt)
      clear hO hb hg hps hpm hle hrow hrv hrg hrc hy hLn
      go_wp2_with fail
      refine (markInts _ _ _ B _ _ _ HRW.out hLs y1 y2).mono ?_
      rintro e w1 ⟨rfl, ho1, hc1⟩
      have hN : OwnV w1 B (.slice (some ⟨g, 0, none⟩) n cap) (M.marked m R (k + 1)) V := by
        have := HO.out.row k (by simpa using hkR) (l := M.iota y L) (by rw [HRV.out]; exact ho1) (by rw [HRV.out]; exact hc1)
        rw [HY.out, ← HLn.out, M.marked_set m R k hkR] at this
        exact this
      have HN := Lib.hid hN
      have HB1 := Lib.hid (HB.out.trans (hc1.mono (fun j hj => HTk.out j (by rw [HRV.out]; exact hj))))
      clear ho1 hc1 hN
      go_wp2
      go_roundw
      case rel => exact ⟨k + 1, y + L, by omega, by go_num, rfl, by rw [HY.out, HP.out]; omega, HN.out, HB1.out⟩
      case measure => simp [intOf]; omega
    · have hkn : k = n := by omega
      subst hkn
      have HY := Lib.hid hy
      clear hO hb hg hy
      go_wp2
      go_ret
      have e := HL.out
      refine ⟨by rw [HY.out, ← e]; rfl, ⟨V, ?_⟩, HB.out⟩
      unfold M.marks
      rw [← e]
      exact HO.out

set_option maxRecDepth 100000 in
set_option maxHeartbeats 400000 in
theorem heldIntss (a : Option Addr) (n cap : Nat) (R : List (List Int)) (m : Int) (w : World) (h : Mat w a n (M.marks m R)) (hp : M.pre R R.length ≤ 1048576) (h1 : 0 ≤ m) (h2 : m + M.pre R R.length ≤ 40000000) :
    Calls Try.prog 11 #[.slice a n cap, .int .i64 m] w fun e w' => e = .returned (.int .i64 (m + M.pre R R.length)) ∧ w = w' := by
  have HL : Hid (n = R.length) := by have := h.1; unfold M.marks at this; show _ = _; simpa using this.symm
  have hm := h.2.1
  have HI := Lib.hid h
  clear h
  unfold maxLen at hm
  go_enter Try.func11, Try.ntmps11
  go_wp2
  go_loop [1, 5] (fun x i => ∃ (k : Nat) (y : Int), k ≤ n ∧ i = .int .i64 k ∧ x = .int .i64 y ∧ y = m + M.pre R k) (fun _ i => n - (intOf i).toNat)
  case atStart => exact ⟨0, m, Nat.zero_le _, rfl, rfl, by rw [M.pre_zero]; omega⟩
  case round =>
    obtain ⟨k, y, hk, rfl, rfl, hy⟩ := hrel
    by_cases hlt : k < n
    · have hkR : k < R.length := by have := HL.out; omega
      have hps := M.pre_succ R k hkR
      have hpm := M.pre_mono R (show k + 1 ≤ R.length by omega)
      have hle := M.len_le_pre R k hkR
      obtain ⟨b, off, ra, rc, L, l, rfl, hbl, hll, hc, hI⟩ := HI.out.at k hlt
      unfold M.marks at hll
      rw [M.marked_at m R _ k hkR, if_pos hkR] at hll
      have hLe : L = (R.getD k []).length := by have := hI.1; rw [hll] at this; simpa using this.symm
      rw [← hLe] at hps hle hll
      rw [hll, ← hy] at hI
      have y1 : 0 ≤ y := by omega
      have y2 : y ≤ 40000000 := by omega
      have hLs : L ≤ 1048576 := by omega
      have HY := Lib.hid hy
      have HP := Lib.hid hps
      have HII := Lib.hid hI
      have hyL : 0 ≤ y + (L : Int) := by omega
      clear hI hll hps hpm hle hLe hy
      go_wp2_with fail
      refine (heldInts _ _ _ _ _ HII.out hLs y1 y2).mono ?_
      rintro e w' ⟨rfl, rfl⟩
      go_wp2
      go_round
      case rel => exact ⟨k + 1, y + L, by omega, by go_num, rfl, by rw [HY.out, HP.out]; omega⟩
      case measure => simp [intOf]; omega
    · have hkn : k = n := by omega
      subst hkn
      have HY := Lib.hid hy
      clear hy
      go_wp2
      go_ret
      have e := HL.out
      exact ⟨by rw [HY.out, ← e]; rfl, rfl⟩

/-- The same, said for the exact laws: the number is named, and what changed lies in the blocks of the marked slice. -/
theorem markM (a : Option Addr) (n cap B : Nat) (R : List (List Int)) (m : Int) (w0 w : World) (h0 : OwnM w0 B (.slice a n cap) R) (hb0 : Same B w0.heap.size w0 w) (hn : n ≤ 1048576) (hp : M.pre R R.length ≤ 1048576) (h1 : 0 ≤ m) (h2 : m + M.pre R R.length ≤ 40000000) :
    Calls Try.prog 10 #[.slice a n cap, .int .i64 m] w fun e w' => ∃ y : Int, e = .returned (.int .i64 y) ∧ 0 ≤ y ∧ Hid (y = m + M.pre R R.length) ∧ OwnM w' B (.slice a n cap) (M.marks m R) ∧ Chg (fun k => B ≤ k ∧ k < w0.heap.size) w w' := by
  refine (markIntss _ _ _ _ _ _ _ _ h0 hb0 hn hp h1 h2).mono ?_
  rintro e w' ⟨rfl, ho, hc⟩
  exact ⟨_, rfl, by omega, rfl, ho, hc⟩
theorem heldM (a : Option Addr) (n cap : Nat) (R : List (List Int)) (m y : Int) (w : World) (h : Mat w a n (M.marks m R)) (hp : M.pre R R.length ≤ 1048576) (h1 : 0 ≤ m) (h2 : m + M.pre R R.length ≤ 40000000) (hy : y = m + M.pre R R.length) :
    Calls Try.prog 11 #[.slice a n cap, .int .i64 m] w fun e w' => e = .returned (.int .i64 y) ∧ w = w' := by
  subst hy
  exact heldIntss _ _ _ _ _ _ h hp h1 h2
theorem markV (a : Option Addr) (n cap B : Nat) (l : List Int) (m : Int) (w0 w : World) (h0 : Own w0 B (.slice a n cap) l) (hb0 : Same B w0.heap.size w0 w) (hn : n ≤ 1048576) (h1 : 0 ≤ m) (h2 : m ≤ 40000000) :
    Calls Try.prog 16 #[.slice a n cap, .int .i64 m] w fun e w' => ∃ y : Int, e = .returned (.int .i64 y) ∧ 0 ≤ y ∧ Hid (y = m + n) ∧ Own w' B (.slice a n cap) (M.iota m n) ∧ Chg (fun k => B ≤ k ∧ k < w0.heap.size) w w' := by
  refine (markInts _ _ _ B l _ _ (h0.keep hb0) hn h1 h2).mono ?_
  rintro e w' ⟨rfl, ho, hc⟩
  exact ⟨_, rfl, by omega, rfl, ho, hc.mono (fun k hk => own_lt h0 hk)⟩
theorem heldV (a : Option Addr) (n cap : Nat) (m y : Int) (w : World) (h : Ints .i64 w a n (M.iota m n)) (hn : n ≤ 1048576) (h1 : 0 ≤ m) (h2 : m ≤ 40000000) (hy : y = m + n) :
    Calls Try.prog 17 #[.slice a n cap, .int .i64 m] w fun e w' => e = .returned (.int .i64 y) ∧ w = w' := by
  subst hy
  exact heldInts _ _ _ _ _ h hn h1 h2
end Go.Proofs.Ytlljnfljcdljaac.V

namespace Go.Proofs.Ytlljnfljcdljaac.V
open Go.RowKit

theorem retB {a b : Bool} (h : a = b) : Ending.returned (.bool a) = .returned (.bool b) := by rw [h]
theorem retI {a b : Int} {k : IntKind} (h : a = b) : Ending.returned (.int k a) = .returned (.int k b) := by rw [h]
theorem retI2 {a b c d : Int} {k l : IntKind} (h : a = c) (h' : b = d) : Ending.returned (.tuple #[.int k a, .int l b]) = .returned (.tuple #[.int k c, .int l d]) := by rw [h, h']
theorem retP {a b : Int} {p : Int × Int} {k l : IntKind} (h : p = (a, b)) : Ending.returned (.tuple #[.int k a, .int l b]) = .returned (.tuple #[.int k p.1, .int l p.2]) := by rw [h]

set_option maxRecDepth 100000 in
set_option maxHeartbeats 400000 in
theorem isFinite (a : Int) (w : World) : Calls Try.prog 44 #[.int .i64 a] w fun e w' => e = .returned (.bool (M.isFin a)) ∧ w = w' := by
  go_enter Try.func44, Try.ntmps44
  go_wp2
  all_goals
    go_ret
    refine ⟨retB ?_, rfl⟩
    unfold M.isFin
    grind

set_option maxRecDepth 100000 in
set_option maxHeartbeats 400000 in
theorem isValid (a : Int) (w : World) : Calls Try.prog 43 #[.int .i64 a] w fun e w' => e = .returned (.bool (M.isVal a)) ∧ w = w' := by
  go_enter Try.func43, Try.ntmps43
  go_wp2_with (first | (go_at_call 44; refine (isFinite _ _).mono ?_; rintro e w' ⟨rfl, rfl⟩))
  all_goals
    go_ret
    refine ⟨retB ?_, rfl⟩
    unfold M.isVal
    grind

set_option maxRecDepth 100000 in
set_option maxHeartbeats 400000 in
theorem isValue (a : Int) (w : World) : Calls Try.prog 37 #[.int .i64 a] w fun e w' => e = .returned (.bool (M.isVal a)) ∧ w = w' := by
  go_enter Try.func37, Try.ntmps37
  go_wp2_with (first | (go_at_call 43; refine (isValid _ _).mono ?_; rintro e w' ⟨rfl, rfl⟩))
  all_goals
    go_ret
    exact ⟨rfl, rfl⟩

set_option maxRecDepth 100000 in
set_option maxHeartbeats 400000 in
theorem sIn (a b c : Int) (w : World) : Calls Try.prog 30 #[.int .i64 a, .int .i64 b, .int .i64 c] w fun e w' => e = .returned (.bool (decide (b ≤ a) && decide (a ≤ c))) ∧ w = w' := by
  go_enter Try.func30, Try.ntmps30
  go_wp2
  all_goals
    go_ret
    refine ⟨retB ?_, rfl⟩
    grind

set_option maxRecDepth 100000 in
set_option maxHeartbeats 400000 in
theorem sFinite (a : Int) (w : World) : Calls Try.prog 42 #[.int .i64 a] w fun e w' => e = .returned (.bool (M.isFin a)) ∧ w = w' := by
  go_enter Try.func42, Try.ntmps42
  go_wp2_with (first | (go_at_call 30; refine (sIn _ _ _ _).mono ?_; rintro e w' ⟨rfl, rfl⟩))
  all_goals
    go_ret
    exact ⟨retB (by unfold M.isFin; grind), rfl⟩

set_option maxRecDepth 100000 in
set_option maxHeartbeats 400000 in
theorem sIsValue (a : Int) (w : World) : Calls Try.prog 36 #[.int .i64 a] w fun e w' => e = .returned (.bool (M.isVal a)) ∧ w = w' := by
  go_enter Try.func36, Try.ntmps36
  go_wp2_with (first | (go_at_call 42; refine (sFinite _ _).mono ?_; rintro e w' ⟨rfl, rfl⟩))
  all_goals
    go_ret
    refine ⟨retB ?_, rfl⟩
    unfold M.isVal
    grind

end Go.Proofs.Ytlljnfljcdljaac.V

namespace Go.Proofs.Ytlljnfljcdljaac.V
open Go.RowKit

theorem append1 (w : World) {ops : Array Oper} {rest : List Oper} {o : Oper} {a : Act} {Q : Exit → Act → World → Prop} (hgd : o.guard = none) (s x : Operand)
    (ho : o.op = .call { callee := .builtin .append, args := #[s, x], argTypes := #[29, 29] }) (B : Nat) (v : Value) (l : List Int) (y : Int) (n : Nat) (hn : l.length = n) (hs : a.eval s = v) (hown : Own w B v l)
    (hx : a.eval x = .slice (some ⟨w.heap.size, 0, none⟩) 1 1) (hlen : l.length ≤ 2000000) (hB : B ≤ w.heap.size)
    (h : ∀ b' c' w', Own w' B (.slice b' (n + 1) c') (l ++ [y]) → Below B w w' → (∀ k, k < w.heap.size → v.ownBlock ≠ some k → w'.heap[k]? = w.heap[k]?) → wpList Try.prog ops Q rest (a.put o.dst (.slice b' (n + 1) c')) w') :
    wpList Try.prog ops Q (o :: rest) a (w.alloc (.cells #[.int .i64 y] 2)) := by
  subst hn
  obtain ⟨i0, hi, hz0, hz1, hz2⟩ := info_parts info64
  have hown2 : (w.alloc (.cells #[.int .i64 y] 2)).ownsRow B 2 1 v l.length (l.map (Value.int .i64)) := World.ownsRow.alloc hown _
  refine wpList_append_own_at (w := w.alloc (.cells #[.int .i64 y] 2)) hgd s x 29 ho B 2 i0 (.int .i64 0) 1 8 Try.underlying29 hi hz0 hz1 hz2 rfl (by decide) v _ _ hs hown2 ⟨w.heap.size, 0, none⟩ 1 1 [.int .i64 y] hx rfl (cell_one_new _ _ _) ?c2 ?c3 ?c4 ?c5 ?_
  case c2 => intro u hu; simp at hu; subst hu; rfl
  case c3 => unfold maxLen; omega
  case c4 => omega
  case c5 => simp; omega
  · intro v' w' hown' hgrow hz hvb
    have ho' : Own w' B v' (l ++ [y]) := by
      show w'.ownsRow B _ 1 v' (l ++ [y]).length ((l ++ [y]).map (Value.int .i64))
      simpa using hown'
    obtain ⟨b', c', hv', _⟩ := own_form ho'
    rw [show (l ++ [y]).length = l.length + 1 by simp] at hv'
    subst hv'
    refine h b' c' w' ho' (((Below.refl B w).alloc hB _).grown hgrow (by simp; omega) (fun k hk => (own_lt hown hk).1)) (fun k hk hne => ?_)
    obtain ⟨g1, g2, g3, g4, g5⟩ := hgrow
    rw [g5 k (by simp; omega) (fun e => hne e.symm), Below.heap_alloc _ _ _ hk]

theorem appendRow (w0 w : World) {ops : Array Oper} {rest : List Oper} {o : Oper} {a : Act} {Q : Exit → Act → World → Prop} (hgd : o.guard = none) (s x : Operand)
    (ho : o.op = .call { callee := .builtin .append, args := #[s, x], argTypes := #[22, 22] }) (B : Nat) (v rv : Value) (R : List (List Int)) (l : List Int) (n : Nat) (hn : R.length = n) (hs : a.eval s = v) (hown : OwnM w0 B v R) (hb : Below w0.heap.size w0 w) (hro : Own w w0.heap.size rv l)
    (hx : a.eval x = .slice (some ⟨w.heap.size, 0, none⟩) 1 1) (hlen : R.length ≤ 2000000) (hB : B ≤ w0.heap.size)
    (h : ∀ b' c' w', OwnM w' B (.slice b' (n + 1) c') (R ++ [l]) → Below B w w' → (∀ k, k < w.heap.size → v.ownBlock ≠ some k → w'.heap[k]? = w.heap[k]?) → wpList Try.prog ops Q rest (a.put o.dst (.slice b' (n + 1) c')) w') :
    wpList Try.prog ops Q (o :: rest) a (w.alloc (.cells #[rv] 29)) := by
  subst hn
  obtain ⟨i0, hi, hz0, hz1, hz2⟩ := info_parts infoS64
  have hsz := hb.size
  obtain ⟨V, h1, h2, h3⟩ := hown
  have hwV : w.ownsRow B 29 1 v R.length V := ownsRow_keep h2 (fun k hv => hb.block k (own_lt h2 hv).2)
  have hown2 : (w.alloc (.cells #[rv] 29)).ownsRow B 29 1 v R.length V := World.ownsRow.alloc hwV _
  refine wpList_append_own_at (w := w.alloc (.cells #[rv] 29)) hgd s x 22 ho B 29 i0 (.slice none 0 0) 1 24 Try.underlying22 hi hz0 hz1 hz2 rfl (by decide) v _ _ hs hown2 ⟨w.heap.size, 0, none⟩ 1 1 [rv] hx rfl (cell_one_new _ _ _) ?c2 ?c3 ?c4 ?c5 ?_
  case c2 =>
    intro u hu; simp at hu; subst hu
    obtain ⟨b', c', hv', _⟩ := own_form hro
    rw [hv']; rfl
  case c3 => unfold maxLen; omega
  case c4 => omega
  case c5 => simp; omega
  · intro v' w' hownV' hgrow hz hvb
    obtain ⟨g1, g2, g3, g4, g5⟩ := hgrow
    have hg : ∀ k, k < w.heap.size → v.ownBlock ≠ some k → w'.heap[k]? = w.heap[k]? := fun k hk hne => by
      rw [g5 k (by simp; omega) (fun e => hne e.symm), Below.heap_alloc _ _ _ hk]
    have hM : OwnM w' B v' (R ++ [l]) := by
      exact OwnV.snoc (q := (w.alloc (.cells #[rv] 29)).heap.size) ⟨h1, h2, h3⟩ hb hB hro hownV' hg hvb (by simp)
    obtain ⟨b', c', hv', _⟩ := hM.form
    rw [show (R ++ [l]).length = R.length + 1 by simp] at hv'
    subst hv'
    exact h b' c' w' hM (((Below.refl B w).alloc (by omega) _).grown ⟨g1, g2, g3, g4, g5⟩ (by simp; omega) (fun k hk => (own_lt h2 hk).1)) hg
end Go.Proofs.Ytlljnfljcdljaac.V
