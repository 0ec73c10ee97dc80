/- Texts laid together: Drp, Drq, Drs, Drt, Ptl, Mat2, Rat4. -/
import Derived.Test.YtnnajlehhfmjfaaQe15
import Derived.Test.YtnnajlehhfmjfaaQe21
import Derived.Test.YtnnajlehhfmjfaaQe11
import Derived.Test.YtnnajlehhfmjfaaQe7
import Derived.Deep.WholeRow
import Derived.Test.YtnnajlehhfmjfaaQe12
import Derived.Test.YtnnajlehhfmjfaaQe19
import Derived.Test.YtnnajlehhfmjfaaQe14
import Derived.Test.YtnnajlehhfmjfaaQe5
import Derived.Test.YtnnajlehhfmjfaaRows
import Derived.Test.YtnnajlehhfmjfaaQe1
import Derived.Test.YtnnajlehhfmjfaaQe2
import Derived.WalkKit
import Derived.ProofKit
import Derived.WalkSmall
import Derived.Deep.QuietTactic
import Derived.BigQuiet
import Derived.BigRegion
import Derived.Deep.Draws
import Derived.Lib.Hide
import Derived.OpenShut
import Derived.Deep.OwnRows
import Derived.Test.YtnnajlehhfmjfaaQe17
set_option linter.unusedSimpArgs false
set_option linter.unusedVariables false
set_option linter.unusedSectionVars false
namespace Go.Proofs.Ytnnajlehhfmjfaa.V
set_option maxRecDepth 100000
open Go.RowKit
/-- A drawn matrix and a drawn ratio. -/
def DrawRB (g : Nat) (w : World) (e : Ending) (w' : World) : Prop :=
  ∃ (a : Option Addr) (n cap : Nat) (R : List (List Int)) (x y : Int), e = .returned (.tuple #[.slice a n cap, .agg #[.int .i64 x, .int .i64 y]]) ∧ n ≤ 200 ∧ OwnM w' w.heap.size (.slice a n cap) R ∧ Src w' g ∧ Thr g w w'
theorem mean_bd {R : List (List Int)} (h : (M.cycMeanRes R).2 = 0) : -1000000 ≤ (M.cycMeanRes R).1.1 ∧ (M.cycMeanRes R).1.1 ≤ 1000000 ∧ 1 ≤ (M.cycMeanRes R).1.2 ∧ (M.cycMeanRes R).1.2 ≤ 10 := by
  obtain ⟨h1, h2, h3, h4⟩ := M.cyc_t h
  obtain ⟨n1, n2, hA⟩ := M.sq_sm h1
  obtain ⟨⟨b1, -⟩, -, -, -, b2⟩ := M.bestR_best n2 hA h2
  rw [h4]
  have := M.isRat_t h3
  show -1000000 ≤ (M.bestR (M.ent R) R.length).1 ∧ (M.bestR (M.ent R) R.length).1 ≤ 1000000 ∧ 1 ≤ (M.bestR (M.ent R) R.length).2 ∧ (M.bestR (M.ent R) R.length).2 ≤ 10
  exact ⟨by omega, by omega, b1, b2⟩
theorem frz_box (w : World) (x y : Int) (i : Nat) : (w.alloc (rbox x y)).frozen? ⟨w.heap.size, i, none⟩ = false := by
  have hg : (w.alloc (rbox x y)).heap[w.heap.size]? = some (.cells #[.int .i64 x, .int .i64 y] 27 (0, 0)) := heap_alloc_last _ _
  unfold World.frozen?
  simp only [hg]
  simp
theorem box_thr {g : Nat} {w0 w w' : World} {x y : Int} (h : w = w0.alloc (rbox x y)) (hg : g < w0.heap.size) (ht : Thr g w w') :
    (w'.cell? ⟨w0.heap.size, 0, none⟩ = some (.int .i64 x) ∧ w'.cell? ⟨w0.heap.size, 1, none⟩ = some (.int .i64 y)) ∧ w'.frozen? ⟨w0.heap.size, 0, none⟩ = false ∧ w'.frozen? ⟨w0.heap.size, 1, none⟩ = false ∧ w0.heap.size < w'.heap.size := by
  subst h
  have hz := ht.below.size
  simp at hz
  refine ⟨⟨?_, ?_⟩, ?_, ?_, by omega⟩
  · rw [ht.cell (p := ⟨w0.heap.size, 0, none⟩) (by simp) (by show w0.heap.size ≠ g; omega)]; simp
  · rw [ht.cell (p := ⟨w0.heap.size, 1, none⟩) (by simp) (by show w0.heap.size ≠ g; omega)]; simp
  · rw [ht.frozen (p := ⟨w0.heap.size, 0, none⟩) (by simp) (by show g < w0.heap.size; omega)]; exact frz_box _ _ _ _
  · rw [ht.frozen (p := ⟨w0.heap.size, 1, none⟩) (by simp) (by show g < w0.heap.size; omega)]; exact frz_box _ _ _ _
end Go.Proofs.Ytnnajlehhfmjfaa.V

namespace Go.Proofs.Ytnnajlehhfmjfaa.V
set_option maxRecDepth 100000
open Go.RowKit
/-- A drawn matrix, a drawn ratio and a drawn list. -/
def DrawPR (g : Nat) (w : World) (e : Ending) (w' : World) : Prop :=
  ∃ (a : Option Addr) (n cap : Nat) (R : List (List Int)) (x y : Int) (b : Option Addr) (N c : Nat) (l : List Int), e = .returned (.tuple #[.slice a n cap, .agg #[.int .i64 x, .int .i64 y], .slice b N c]) ∧ n ≤ 200 ∧ OwnM w' w.heap.size (.slice a n cap) R ∧ Own w' w.heap.size (.slice b N c) l ∧ Src w' g ∧ Thr g w w'
theorem potRes_pos7 {R : List (List Int)} {a b : Int} (h : (M.potRes R a b).2 = 0) : 1 ≤ (M.potRes R a b).1.length ∧ (M.potRes R a b).1.length ≤ 10 := by
  unfold M.potRes at h ⊢
  by_cases h1 : (M.sqB R && M.isRat a b) = true
  · rw [if_pos h1] at h ⊢
    by_cases h2 : M.noPos (M.shf (M.ent R) a b) R.length = true
    · rw [if_pos h2] at h ⊢
      by_cases h3 : M.isVec (M.potL R a b) = true
      · rw [if_pos h3]
        exact ⟨(M.isVec_t h3).1, (M.isVec_t h3).2.1⟩
      · rw [if_neg h3] at h; simp at h
    · rw [if_neg h2] at h; simp at h
  · rw [if_neg h1] at h; simp at h
end Go.Proofs.Ytnnajlehhfmjfaa.V

namespace Go.Proofs.Ytnnajlehhfmjfaa.V
set_option maxRecDepth 100000
open Go.RowKit
/-- A drawn matrix and a drawn ratio. -/
def DrawnMR (w : World) (e : Ending) (w' : World) : Prop :=
  ∃ (a : Option Addr) (n cap : Nat) (R : List (List Int)) (x y : Int), e = .returned (.tuple #[.slice a n cap, .agg #[.int .i64 x, .int .i64 y]]) ∧ Mat w' a n R ∧ Below w.heap.size w w'
/-- A drawn matrix, a drawn ratio and a drawn list. -/
def DrawnMRV (w : World) (e : Ending) (w' : World) : Prop :=
  ∃ (a : Option Addr) (n cap : Nat) (R : List (List Int)) (x y : Int) (b : Option Addr) (N c : Nat) (l : List Int), e = .returned (.tuple #[.slice a n cap, .agg #[.int .i64 x, .int .i64 y], .slice b N c]) ∧ Mat w' a n R ∧ Ints .i64 w' b N l ∧ Below w.heap.size w w'
theorem box_bel {w0 w w' : World} {x y : Int} (h : w = w0.alloc (rbox x y)) (hb : Below w.heap.size w w') :
    (w'.cell? ⟨w0.heap.size, 0, none⟩ = some (.int .i64 x) ∧ w'.cell? ⟨w0.heap.size, 1, none⟩ = some (.int .i64 y)) ∧ w'.frozen? ⟨w0.heap.size, 0, none⟩ = false ∧ w'.frozen? ⟨w0.heap.size, 1, none⟩ = false ∧ w0.heap.size < w'.heap.size := by
  subst h
  have hz := hb.size
  simp at hz
  refine ⟨⟨?_, ?_⟩, ?_, ?_, by omega⟩
  · rw [hb.cell (p := ⟨w0.heap.size, 0, none⟩) (by simp)]; simp
  · rw [hb.cell (p := ⟨w0.heap.size, 1, none⟩) (by simp)]; simp
  · rw [hb.frozen (p := ⟨w0.heap.size, 0, none⟩) (by simp)]; exact frz_box _ _ _ _
  · rw [hb.frozen (p := ⟨w0.heap.size, 1, none⟩) (by simp)]; exact frz_box _ _ _ _
end Go.Proofs.Ytnnajlehhfmjfaa.V

namespace Go.Proofs.Ytnnajlehhfmjfaa.V
set_option maxRecDepth 100000
open Go.RowKit
/-- A drawn matrix, a drawn ratio and two drawn lists. -/
def DrawnMRVV (w : World) (e : Ending) (w' : World) : Prop :=
  ∃ (a : Option Addr) (n cap : Nat) (R : List (List Int)) (x y : Int) (b : Option Addr) (N c : Nat) (l : List Int) (b' : Option Addr) (N' c' : Nat) (l' : List Int), e = .returned (.tuple #[.slice a n cap, .agg #[.int .i64 x, .int .i64 y], .slice b N c, .slice b' N' c']) ∧ Mat w' a n R ∧ Ints .i64 w' b N l ∧ Ints .i64 w' b' N' l' ∧ N ≤ c ∧ c ≤ maxLen ∧ Below w.heap.size w w'
end Go.Proofs.Ytnnajlehhfmjfaa.V

namespace Go.Proofs.Ytnnajlehhfmjfaa
namespace M
theorem pot_law {R : List (List Int)} {a b : Int} (hm : (cycMeanRes R).2 = 0) (hb : (potRes R a b).2 ≠ 1) :
    (cmpOf (cycMeanRes R).1.1 (cycMeanRes R).1.2 a b).2 = 0 ∧ ((potRes R a b).2 = 5 → 0 < (cmpOf (cycMeanRes R).1.1 (cycMeanRes R).1.2 a b).1) ∧ ((potRes R a b).2 ≠ 5 → (cmpOf (cycMeanRes R).1.1 (cycMeanRes R).1.2 a b).1 ≤ 0) := by
  obtain ⟨h1, h2, h3, h4⟩ := cyc_t hm
  rw [h4]
  show (cmpOf (bestR (ent R) R.length).1 (bestR (ent R) R.length).2 a b).2 = 0 ∧ _ ∧ _
  unfold potRes at hb ⊢
  by_cases hr : isRat a b = true
  · rw [h1, hr] at hb ⊢
    have hc := pot_cmp h1 h2 hr
    have e : cmpOf (bestR (ent R) R.length).1 (bestR (ent R) R.length).2 a b = (cmpZ ((bestR (ent R) R.length).1 * b) (a * (bestR (ent R) R.length).2), 0) := by
      unfold cmpOf; rw [h3, hr]; rfl
    rw [e]
    refine ⟨rfl, ?_, ?_⟩
    · intro h
      rw [if_pos (by rfl)] at h
      by_cases hp : noPos (shf (ent R) a b) R.length = true
      · rw [if_pos hp] at h
        split at h <;> simp at h
      · have : ¬ ((bestR (ent R) R.length).1 * b ≤ a * (bestR (ent R) R.length).2) := fun q => hp (by rw [hc]; exact decide_eq_true q)
        show 0 < cmpZ _ _
        unfold cmpZ
        split <;> (try split) <;> omega
    · intro h
      rw [if_pos (by rfl)] at h
      by_cases hp : noPos (shf (ent R) a b) R.length = true
      · rw [hc] at hp
        have := of_decide_eq_true hp
        show cmpZ _ _ ≤ 0
        unfold cmpZ
        split <;> (try split) <;> omega
      · rw [if_neg hp] at h; exact absurd rfl h
  · have : (sqB R && isRat a b) = false := by rw [h1]; simpa using hr
    rw [this] at hb
    exact absurd rfl hb
end M
end Go.Proofs.Ytnnajlehhfmjfaa

namespace Go.Proofs.Ytnnajlehhfmjfaa.V
open Go.RowKit

set_option maxRecDepth 100000 in
set_option maxHeartbeats 400000 in
theorem eqIntss (a : Option Addr) (n cap : Nat) (R : List (List Int)) (a' : Option Addr) (n' cap' : Nat) (R' : List (List Int)) (w : World) (h : Mat w a n R) (h' : Mat w a' n' R') (heq : R = R') :
    Calls Try.prog 27 #[.slice a n cap, .slice a' n' cap'] w fun e w' => e = .returned (.bool true) ∧ ∃ q, w' = w.drewN q := by
  subst heq
  have HM := Lib.hid h
  have HM' := Lib.hid h'
  obtain ⟨hl, hm, -⟩ := h
  obtain ⟨hl', -, -⟩ := h'
  obtain rfl : n = n' := by omega
  unfold maxLen at hm
  have HL := Lib.hid hl
  clear hl hl'
  go_enter Try.func27, Try.ntmps27
  go_wp2
  go_loopw [5] (fun i wr => ∃ k : Nat, k ≤ n ∧ i = .int .i64 k ∧ ∃ q, wr = w.drewN q) (fun i _ => n - (intOf i).toNat)
  case atStart => exact ⟨0, Nat.zero_le _, rfl, 0, rfl⟩
  case round =>
    obtain ⟨k, hk, rfl, q, rfl⟩ := hrel
    by_cases hlt : k < n
    · obtain ⟨b, off, ra, rc, L, l, rfl, hbl, hll, hc, hI⟩ := HM.out.at k hlt
      obtain ⟨b', off', ra', rc', L', l', rfl, hbl', hll', hc', hI'⟩ := HM'.out.at k hlt
      have HI := Lib.hid hI
      have HI' := Lib.hid hI'
      have HE := Lib.hid (hll.trans hll'.symm)
      clear hI hI' hll hll' HM HM'
      have hki : (k : Int) < (n : Int) := by omega
      go_wp2
      go_quiet ((go_at_call 28; exact q_more (eqInts _ _ _ l _ _ _ l' _ HI.out HI'.out HE.out)))
      go_wp2
      go_roundw
      case rel => exact ⟨k + 1, by omega, by go_num, _, rfl⟩
      case measure => simp [intOf]; omega
    · have hkn : k = n := by omega
      subst hkn
      go_wp2
      go_ret
      exact ⟨rfl, q, rfl⟩

set_option maxRecDepth 100000 in
set_option maxHeartbeats 400000 in
theorem copyIntss (a : Option Addr) (n cap : Nat) (R : List (List Int)) (w : World) (h : Mat w a n R) (hs : n ≤ 1048576) (hr : M.pre R R.length ≤ 1048576) :
    Calls Try.prog 24 #[.slice a n cap] w fun e w' => e = .returned (.slice (some ⟨w.heap.size, 0, none⟩) n n) ∧ OwnM w' w.heap.size (.slice (some ⟨w.heap.size, 0, none⟩) n n) R ∧ Below w.heap.size w w' := by
  have HM := Lib.hid h
  obtain ⟨hl, hm, -⟩ := h
  have hm2 := hm
  unfold maxLen at hm
  have HL := Lib.hid hl
  have HR := Lib.hid hr
  clear hl hr
  have hmk := run_make_row' (P := Try.prog) 24 30 (.slice none 0 0) 24 Try.underlying24 infoS64 rfl .i64 .i64 n (by omega) (by omega)
  go_enter Try.func24, Try.ntmps24
  go_wp2
  clear hmk
  go_loopw [4] (fun i wr => ∃ k : Nat, k ≤ n ∧ i = .int .i64 k ∧ OwnM wr w.heap.size (.slice (some ⟨w.heap.size, 0, none⟩) n n) ((List.range n).map fun j => if j < k then R.getD j [] else []) ∧ Below w.heap.size w wr) (fun i _ => n - (intOf i).toNat)
  case atStart =>
    refine ⟨0, Nat.zero_le _, rfl, ?_, b_alloc _ _⟩
    refine (congrArg (OwnM _ _ _) ?_).mp (ownM_made w _ n (Nat.le_refl _) hm2)
    apply List.ext_getElem
    · simp
    · intro i h1 h2; simp
  case round =>
    obtain ⟨k, hk, rfl, hO, hb⟩ := hrel
    have HO := Lib.hid hO
    have HB := Lib.hid hb
    clear hO hb
    by_cases hlt : k < n
    · obtain ⟨b, off, ra, rc, L, l, rfl, hbl, hll, hc, hI⟩ := (HM.out.below HB.out).at k hlt
      have HI := Lib.hid hI
      have HLL := Lib.hid hll
      have hLs : L ≤ 1048576 := by
        have e1 := M.len_le_pre R k (by have := HL.out; omega)
        have e2 := HR.out
        have e3 := HI.out.1
        rw [HLL.out] at e3
        omega
      clear hI hll
      go_wp2_with fail
      refine (copyInts _ _ _ l _ HI.out hLs).mono ?_
      rintro e w1 ⟨rfl, ho1, hb1⟩
      have hg := HO.out.lt rfl
      have hst : ∃ v, w1.cell? ⟨w.heap.size, k, none⟩ = some v := by
        obtain ⟨v, hv⟩ := HO.out.outer k hlt
        exact ⟨v, by rw [hb1.cell (p := ⟨w.heap.size, k, none⟩) hg]; exact hv⟩
      obtain ⟨v, hst⟩ := hst
      have hfz : w1.frozen? ⟨w.heap.size, k, none⟩ = false := by rw [hb1.frozen (p := ⟨w.heap.size, k, none⟩) hg]; exact HO.out.outerFz k
      have HN := Lib.hid (HO.out.setRow hb1 HB.out.size ho1 k hlt)
      have HB1 := Lib.hid (bnext HB.out hb1)
      clear ho1 hb1 hg
      go_wp2
      go_roundw
      case rel =>
        refine ⟨k + 1, by omega, by go_num, ?_, HB1.out.setCell (Nat.le_refl _) _⟩
        refine (congrArg (OwnM _ _ _) ?_).mp HN.out
        apply List.ext_getElem
        · simp
        · intro j h1 h2
          simp only [List.length_map, List.length_range] at h2
          rw [List.getElem_set]
          simp only [List.getElem_map, List.getElem_range]
          by_cases e : k = j
          · subst e; rw [if_pos rfl, if_pos (by omega), HLL.out]
          · rw [if_neg e]
            by_cases e2 : j < k
            · rw [if_pos e2, if_pos (by omega)]
            · rw [if_neg e2, if_neg (by omega)]
      case measure => simp [intOf]; omega
    · have hkn : k = n := by omega
      subst hkn
      go_wp2
      go_ret
      refine ⟨rfl, ?_, HB.out⟩
      refine (congrArg (OwnM _ _ _) ?_).mp HO.out
      have hl := HL.out
      apply List.ext_getElem
      · simp [hl]
      · intro i h1 h2
        simp [show i < k by omega, h2]

/-- The same, said for the exact laws. -/
theorem eqM (a : Option Addr) (n cap : Nat) (R : List (List Int)) (a' : Option Addr) (n' cap' : Nat) (w : World) (h : Mat w a n R) (h' : Mat w a' n' R) :
    Calls Try.prog 27 #[.slice a n cap, .slice a' n' cap'] w fun e w' => e = .returned (.bool true) ∧ Below w.heap.size w w' := by
  refine (eqIntss _ _ _ _ _ _ _ _ _ h h' rfl).mono ?_
  rintro e w' ⟨rfl, q, rfl⟩
  exact ⟨rfl, b_draws _ _⟩
theorem eqV (a : Option Addr) (n cap : Nat) (l : List Int) (a' : Option Addr) (n' cap' : Nat) (w : World) (h : Ints .i64 w a n l) (h' : Ints .i64 w a' n' l) :
    Calls Try.prog 28 #[.slice a n cap, .slice a' n' cap'] w fun e w' => e = .returned (.bool true) ∧ Below w.heap.size w w' := by
  refine (eqInts _ _ _ _ _ _ _ _ _ h h' rfl).mono ?_
  rintro e w' ⟨rfl, q, rfl⟩
  exact ⟨rfl, b_draws _ _⟩
end Go.Proofs.Ytnnajlehhfmjfaa.V

namespace Go.Proofs.Ytnnajlehhfmjfaa.V
open Go.RowKit

set_option maxRecDepth 100000 in
set_option maxHeartbeats 400000 in
theorem toRatio (a b : Int) (w : World) :
    Calls Try.prog 35 #[.agg #[.int .i64 a, .int .i64 b]] w fun e w' => e = .returned (.agg #[.int .i64 a, .int .i64 b]) ∧ Below w.heap.size w w' := by
  go_enter Try.func35, Try.ntmps35
  go_wp2
  exact bodyPost_ret (v := .agg #[.int .i64 a, .int .i64 b]) (by simp [results, Try.results35, go_sem]) rfl ⟨rfl, (b_alloc2 _ _ _).alloc (by simp; omega) _⟩

set_option maxRecDepth 100000 in
set_option maxHeartbeats 400000 in
theorem eqRatio (a b : Int) (w : World) :
    Calls Try.prog 26 #[.agg #[.int .i64 a, .int .i64 b], .agg #[.int .i64 a, .int .i64 b]] w fun e w' => e = .returned (.bool true) ∧ Below w.heap.size w w' := by
  go_enter Try.func26, Try.ntmps26
  go_wp2
  go_ret
  exact ⟨rfl, b_alloc2 _ _ _⟩
end Go.Proofs.Ytnnajlehhfmjfaa.V
