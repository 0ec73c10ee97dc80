/- Texts laid together: Apply, Gr2, It0, It1. -/
import Derived.Test.YtkilnneepnbckaaRows
import Derived.Test.YtkilnneepnbckaaQd1
import Derived.Test.YtkilnneepnbckaaQd2
import Derived.WalkKit
import Derived.ProofKit
import Derived.WalkSmall
import Derived.Deep.QuietTactic
import Derived.BigQuiet
import Derived.BigRegion
import Derived.Deep.Draws
import Derived.Lib.Hide
import Derived.OpenShut
import Derived.Deep.OwnRows
import Derived.Test.YtkilnneepnbckaaQd3
import Derived.Test.YtkilnneepnbckaaQd4
import Derived.Test.YtkilnneepnbckaaQd5
import Derived.StillTailTactics
import Derived.Test.YtkilnneepnbckaaQd8
import Derived.RangeFuncNested
import Derived.RangeFuncBound
import Derived.RangeFuncCalls
import Derived.RangeFuncLeaves
import Derived.Shelf.Abstract
import Derived.OwnWalkIn
import Derived.TacticsInMore
import Derived.LoopNIn
import Derived.LoopIn
import Derived.Test.YtkilnneepnbckaaProg
set_option linter.unusedSimpArgs false
set_option linter.unusedVariables false
set_option linter.unusedSectionVars false
namespace Go.Proofs.Ytkilnneepnbckaa.V
open Go.RowKit

/-- A new vector and a code. -/
def VRes (r : List Int × Int) (w : World) (e : Ending) (w' : World) : Prop :=
  ∃ a n cap, e = .returned (.tuple #[.slice a n cap, .int .i64 r.2]) ∧ Own w' w.heap.size (.slice a n cap) r.1 ∧ Below w.heap.size w w'
theorem VRes.nil {r : List Int × Int} {c : Int} {w w' : World} (hr : r = ([], c)) (hb : Below w.heap.size w w') : VRes r w (.returned (.tuple #[.slice none 0 0, .int .i64 c])) w' := by
  subst hr
  exact ⟨none, 0, 0, rfl, own_nil _ _, hb⟩

theorem ints_vec {w : World} {a : Option Addr} {n : Nat} {l : List Int} (h : Ints .i64 w a n l) (hv : M.isVec l = true) : 1 ≤ n ∧ n ≤ 10 := by
  obtain ⟨h1, h2, -⟩ := M.isVec_t hv
  rw [h.1] at h1 h2
  exact ⟨h1, h2⟩
theorem isVector_b (a : Option Addr) (n cap : Nat) (l : List Int) (w : World) (b : Bool) (hb : M.isVec l = b) (h : Ints .i64 w a n l) :
    Calls Try.prog 89 #[.slice a n cap] w fun e w' => e = .returned (.bool b) ∧ w = w' := by
  subst hb
  exact isVector _ _ _ _ _ h
theorem checkedVector_t (a : Option Addr) (n cap : Nat) (l : List Int) (w : World) (hb : M.isVec l = true) (h : Ints .i64 w a n l) :
    Calls Try.prog 93 #[.slice a n cap] w fun e w' => e = .returned (.tuple #[.slice a n cap, .int .i64 0]) ∧ w = w' := by
  have HA := Lib.hid h
  have HB := Lib.hid hb
  clear h hb
  go_enter Try.func93, Try.ntmps93
  go_wp2_with (go_at_call 89; refine (isVector_b _ _ _ l _ true HB.out HA.out).mono ?_; rintro e w' ⟨rfl, rfl⟩)
  go_ret2
  exact ⟨rfl, rfl⟩
theorem checkedVector_f (a : Option Addr) (n cap : Nat) (l : List Int) (w : World) (hb : M.isVec l = false) (h : Ints .i64 w a n l) :
    Calls Try.prog 93 #[.slice a n cap] w fun e w' => e = .returned (.tuple #[.slice none 0 0, .int .i64 3]) ∧ w = w' := by
  have HA := Lib.hid h
  have HB := Lib.hid hb
  clear h hb
  go_enter Try.func93, Try.ntmps93
  go_wp2_with (go_at_call 89; refine (isVector_b _ _ _ l _ false HB.out HA.out).mono ?_; rintro e w' ⟨rfl, rfl⟩)
  go_ret2
  exact ⟨rfl, rfl⟩

theorem sVector_b (a : Option Addr) (n cap : Nat) (l : List Int) (w : World) (b : Bool) (hb : M.isVec l = b) (h : Ints .i64 w a n l) :
    Calls Try.prog 91 #[.slice a n cap] w fun e w' => e = .returned (.bool b) ∧ w = w' := by
  subst hb
  exact sVector _ _ _ _ _ h

/-- A matrix of one row that is not its own. -/
theorem mat_one (w : World) (a : Option Addr) (n cap : Nat) (l : List Int) (h : Ints .i64 w a n l) : Mat (w.alloc (.cells #[.slice a n cap] 28)) (some ⟨w.heap.size, 0, none⟩) 1 [l] := by
  refine ⟨rfl, by decide, .inr ⟨_, _, rfl, by simp, fun i hi => ?_⟩⟩
  obtain rfl : i = 0 := by omega
  have hc := cell_one_new w (.slice a n cap) 28 0 _ rfl
  refine ⟨a, cap, ?_, ?_⟩
  · show _ = some (Value.slice a l.length cap)
    rw [h.1]; exact hc
  · show Ints _ _ _ l.length l
    rw [h.1]; exact h.below (b_alloc w _)

/-- The first row of an owned matrix. -/
theorem OwnM.row0 {w : World} {B n cap : Nat} {a : Option Addr} {R : List (List Int)} (h : OwnM w B (.slice a n cap) R) (hn : 0 < n) :
    ∃ g ra rc, a = some ⟨g, 0, none⟩ ∧ w.cell? ⟨g, 0, none⟩ = some (.slice ra (R.getD 0 []).length rc) ∧ Own w B (.slice ra (R.getD 0 []).length rc) (R.getD 0 []) := by
  have hl := h.len
  obtain ⟨V, h1, h2, h3, h4, h5⟩ := h
  obtain ⟨a', c', hv, hc, hm, hg⟩ := own_form h2
  injection hv with e1 e2 e3
  subst e1 e2 e3
  obtain ⟨g, rfl, hB, hlt⟩ := hg (by omega)
  have hr := h3 0 (by omega)
  obtain ⟨ra, rc, hrv, _⟩ := own_form hr
  rw [hrv] at hr
  refine ⟨g, ra, rc, rfl, ?_, hr⟩
  rw [World.ownsRow.cellAt h2 0 (by omega), ← hrv]
  simp [show 0 < V.length by omega]

/-- The column of a vector. -/
def M.colM (l : List Int) (n : Nat) : List (List Int) := M.mk n 1 (fun i _ => l.getD i 0)
theorem M.colM_ok {l : List Int} {n : Nat} (hv : M.isVec l = true) (hl : l.length = n) : M.isMat (M.colM l n) = true := by
  obtain ⟨h1, h2, h3⟩ := M.isVec_t hv
  exact M.isMat_mk (by omega) (by omega) (Nat.le_refl _) (by omega) (fun i hi _ _ => h3 i (by omega))
theorem M.dot_col {R : List (List Int)} {l : List Int} {n i k : Nat} (hk : k ≤ n) : M.dot R (M.colM l n) i 0 k = M.dotV R l i k := by
  unfold M.dot M.dotV
  refine M.sumN_congr fun t ht => ?_
  rw [M.colM, M.ent_mk _ _ _ _ _ (by omega) (by omega)]

set_option maxRecDepth 100000 in
set_option maxHeartbeats 4000000 in
theorem timesColumn (a : Option Addr) (n cap : Nat) (R : List (List Int)) (a' : Option Addr) (N cap' : Nat) (l : List Int) (w : World) (h : Mat w a n R) (h' : Ints .i64 w a' N l) (hr : Rect R n N) (hR : ∀ i k, i < n → k < N → M.Big (M.ent R i k)) (hl : ∀ k, k < N → M.Big (l.getD k 0)) (m1 : 1 ≤ n) (m2 : n ≤ 10) (c1 : 1 ≤ N) (c2 : N ≤ 10) :
    Calls Try.prog 94 #[.slice a n cap, .slice a' N cap'] w fun e w' => ∃ b c, e = .returned (.slice b n c) ∧ Own w' w.heap.size (.slice b n c) (M.applyM R l) ∧ Below w.heap.size w w' := by
  have HA := Lib.hid h
  have HI := Lib.hid h'
  have HR := Lib.hid hR
  have HT := Lib.hid hr
  have HC : Hid (∀ i k, i < N → k < 1 → M.Big (M.ent (M.colM l N) i k)) := fun i k hi hk => by
    unfold M.colM
    rw [M.ent_mk _ _ _ _ _ hi hk]; exact hl i hi
  have HCT : Hid (Rect (M.colM l N) N 1) := rect_mk _ _ _
  have H1T : Hid (Rect [l] 1 N) := ⟨rfl, fun i hi => by obtain rfl : i = 0 := by omega
                                                        exact h'.1⟩
  have HE1 : Hid (M.mk N 1 (fun i j => M.ent [l] j i) = M.colM l N) := by
    show _ = _
    unfold M.colM
    exact M.mk_congr fun i _ j hj => by obtain rfl : j = 0 := by omega
                                        rfl
  have HE2 : Hid ((M.mk 1 n (fun i j => M.ent (M.mk n 1 (fun i j => M.dot R (M.colM l N) i j N)) j i)).getD 0 [] = M.applyM R l) := by
    show _ = _
    rw [M.mk_row _ _ _ _ (by omega)]
    unfold M.applyM
    rw [h.1]
    refine List.map_congr_left fun j hj => ?_
    rw [M.ent_mk _ _ _ _ _ (List.mem_range.1 hj) (by omega), M.dot_col (Nat.le_refl _), h'.1]
  have HAL : Hid ((M.applyM R l).length = n) := by show _ = _; unfold M.applyM; simp [h.1]
  clear h h' hR hl hr
  go_enter Try.func94, Try.ntmps94
  go_wp2_with fail
  refine (transposed _ _ _ N [l] _ (mat_one w _ _ _ l HI.out) H1T.out (by omega) (by omega) c1 c2).mono ?_
  rintro e w1 ⟨a1, cap1, rfl, ho1, hb1⟩
  rw [HE1.out] at ho1
  have HB1 := Lib.hid (bel1 hb1)
  have HO1 := Lib.hid ho1
  clear ho1 hb1
  go_wp2_with fail
  refine (maxPlus _).mono ?_
  rintro e w2 ⟨rfl, hb2⟩
  have HB2 := Lib.hid (bnext HB1.out hb2)
  have HO2 := Lib.hid (HO1.out.below hb2)
  clear hb2
  go_wp2_with fail
  refine (multipliedB _ _ _ N R _ _ 1 (M.colM l N) _ (HA.out.below HB2.out) HO2.out.mat HT.out HCT.out HR.out HC.out m1 m2 c1 c2 (by omega) (by omega)).mono ?_
  rintro e w3 ⟨a3, cap3, rfl, ho3, hb3⟩
  have HB3 := Lib.hid (bnext HB2.out hb3)
  have HO3 := Lib.hid ho3
  clear ho3 hb3
  go_wp2_with fail
  refine (transposed _ _ _ 1 _ _ HO3.out.mat (rect_mk _ _ _) m1 m2 (by omega) (by omega)).mono ?_
  rintro e w4 ⟨a4, cap4, rfl, ho4, hb4⟩
  have HB4 := Lib.hid (bnext HB3.out hb4)
  obtain ⟨g, rr, rrc, rfl, hcr, hor⟩ := ho4.row0 (by omega)
  rw [HE2.out, HAL.out] at hcr hor
  have HOR := Lib.hid (hor.mono (show w.heap.size ≤ w3.heap.size from HB3.out.size))
  clear ho4 hb4 hor
  go_wp2
  go_ret
  exact ⟨_, _, rfl, HOR.out, HB4.out⟩

set_option maxRecDepth 100000 in
set_option maxHeartbeats 4000000 in
theorem timesVector_ok (a : Option Addr) (n cap : Nat) (R : List (List Int)) (a' : Option Addr) (N cap' : Nat) (l : List Int) (w : World) (h : Mat w a n R) (h' : Ints .i64 w a' N l) (hR : M.isMat R = true) (hl : M.isVec l = true) (hw : M.wid R = N) :
    Calls Try.prog 43 #[.slice a n cap, .slice a' N cap'] w (VRes (M.vecRes R l) w) := by
  have HA := Lib.hid h
  have HI := Lib.hid h'
  have HR := Lib.hid hR
  have HV := Lib.hid hl
  have HW := Lib.hid hw
  obtain ⟨m1, m2, c1, c2, -, -⟩ := M.isMat_t hR
  rw [h.1] at m1 m2
  rw [hw] at c1 c2
  have HT : Hid (Rect R n N) := by
    have := rect_mat hR
    rw [h.1, hw] at this
    exact this
  have HRB : Hid (∀ i k, i < n → k < N → M.Big (M.ent R i k)) := fun i k hi hk => M.big_val (tm_val hR HT.out (by omega) hi hk)
  have HLB : Hid (∀ k, k < N → M.Big (l.getD k 0)) := fun k hk => M.big_val ((M.isVec_t hl).2.2 k (by rw [h'.1]; exact hk))
  have HLl := Lib.hid h'.1
  obtain ⟨b, off, ra, rc, rfl, -, hc⟩ := h.rect_first HT.out (by omega)
  clear h h' hR hl hw
  by_cases hM : M.isVec (M.applyM R l) = true
  · have HM := Lib.hid hM
    have HE : Hid (M.vecRes R l = (M.applyM R l, 0)) := by
      show _ = _; unfold M.vecRes; rw [HR.out, HV.out, if_pos (by rfl), if_pos (by rw [HW.out, HLl.out]), if_pos HM.out]
    clear hM
    go_enter Try.func43, Try.ntmps43
    go_wp2_with fail
    refine (isMatrix_b _ _ _ R _ true HR.out HA.out).mono ?_
    rintro e w' ⟨rfl, rfl⟩
    go_wp2_with fail
    refine (isVector_b _ _ _ l _ true HV.out HI.out).mono ?_
    rintro e w' ⟨rfl, rfl⟩
    go_wp2_with fail
    refine (timesColumn _ _ _ R _ _ _ l _ HA.out HI.out HT.out HRB.out HLB.out m1 m2 c1 c2).mono ?_
    rintro e w4 ⟨rr, rrc, rfl, ho, hb4⟩
    have HOR := Lib.hid ho
    have HB4 := Lib.hid hb4
    clear ho hb4
    go_wp2_with fail
    refine (checkedVector_t _ _ _ (M.applyM R l) _ HM.out HOR.out.ints').mono ?_
    rintro e w' ⟨rfl, rfl⟩
    go_wp2
    go_ret2
    rw [HE.out]
    exact ⟨_, _, _, rfl, HOR.out, HB4.out⟩
  · simp only [Bool.not_eq_true] at hM
    have HM := Lib.hid hM
    have HE : Hid (M.vecRes R l = ([], 3)) := by
      show _ = _; unfold M.vecRes; rw [HR.out, HV.out, if_pos (by rfl), if_pos (by rw [HW.out, HLl.out]), HM.out, if_neg (by simp)]
    clear hM
    go_enter Try.func43, Try.ntmps43
    go_wp2_with fail
    refine (isMatrix_b _ _ _ R _ true HR.out HA.out).mono ?_
    rintro e w' ⟨rfl, rfl⟩
    go_wp2_with fail
    refine (isVector_b _ _ _ l _ true HV.out HI.out).mono ?_
    rintro e w' ⟨rfl, rfl⟩
    go_wp2_with fail
    refine (timesColumn _ _ _ R _ _ _ l _ HA.out HI.out HT.out HRB.out HLB.out m1 m2 c1 c2).mono ?_
    rintro e w4 ⟨rr, rrc, rfl, ho, hb4⟩
    have HOR := Lib.hid ho
    have HB4 := Lib.hid hb4
    clear ho hb4
    go_wp2_with fail
    refine (checkedVector_f _ _ _ (M.applyM R l) _ HM.out HOR.out.ints').mono ?_
    rintro e w' ⟨rfl, rfl⟩
    go_wp2
    go_ret2
    exact VRes.nil HE.out HB4.out

set_option maxRecDepth 100000 in
set_option maxHeartbeats 1000000 in
theorem timesVector (a : Option Addr) (n cap : Nat) (R : List (List Int)) (a' : Option Addr) (N cap' : Nat) (l : List Int) (w : World) (h : Mat w a n R) (h' : Ints .i64 w a' N l) :
    Calls Try.prog 43 #[.slice a n cap, .slice a' N cap'] w (VRes (M.vecRes R l) w) := by
  by_cases hR : M.isMat R = true
  · by_cases hl : M.isVec l = true
    · by_cases hw : M.wid R = N
      · exact timesVector_ok _ _ _ _ _ _ _ _ _ h h' hR hl hw
      · have HE : Hid (M.vecRes R l = ([], 5)) := by
          show _ = _; unfold M.vecRes; rw [hR, hl, if_pos (by rfl), if_neg (by rw [h'.1]; exact hw)]
        have HA := Lib.hid h
        have HI := Lib.hid h'
        have HR := Lib.hid hR
        have HV := Lib.hid hl
        obtain ⟨m1, m2, c1, c2, -, -⟩ := M.isMat_t hR
        rw [h.1] at m1 m2
        obtain ⟨b, off, ra, L, rc, rfl, hL, hc⟩ := h.first (by omega)
        rw [← hL] at hw
        have hne : (L == N) = false := by simp; omega
        have hne2 : (L != N) = true := by simp; omega
        have hne3 : ((L : Int) != (N : Int)) = true := by simp; omega
        clear h h' hR hl hL
        go_enter Try.func43, Try.ntmps43
        go_wp2_with fail
        refine (isMatrix_b _ _ _ R _ true HR.out HA.out).mono ?_
        rintro e w' ⟨rfl, rfl⟩
        go_wp2_with fail
        refine (isVector_b _ _ _ l _ true HV.out HI.out).mono ?_
        rintro e w' ⟨rfl, rfl⟩
        go_wp2
        go_ret2
        exact VRes.nil HE.out (Below.refl _ _)
    · simp only [Bool.not_eq_true] at hl
      have HE : Hid (M.vecRes R l = ([], 1)) := by
        show _ = _; unfold M.vecRes; rw [hR, hl, if_neg (by simp)]
      · have HA := Lib.hid h
        have HI := Lib.hid h'
        have HR := Lib.hid hR
        have HV := Lib.hid hl
        clear h h' hR hl
        go_enter Try.func43, Try.ntmps43
        go_wp2_with fail
        refine (isMatrix_b _ _ _ R _ true HR.out HA.out).mono ?_
        rintro e w' ⟨rfl, rfl⟩
        go_wp2_with fail
        refine (isVector_b _ _ _ l _ false HV.out HI.out).mono ?_
        rintro e w' ⟨rfl, rfl⟩
        go_wp2
        go_ret2
        exact VRes.nil HE.out (Below.refl _ _)
  · simp only [Bool.not_eq_true] at hR
    have HE : Hid (M.vecRes R l = ([], 1)) := by
      show _ = _; unfold M.vecRes; rw [hR, if_neg (by simp)]
    · have HA := Lib.hid h
      · have HR := Lib.hid hR
        clear h h' hR
        go_enter Try.func43, Try.ntmps43
        go_wp2_with fail
        refine (isMatrix_b _ _ _ R _ false HR.out HA.out).mono ?_
        rintro e w' ⟨rfl, rfl⟩
        go_wp2
        go_ret2
        exact VRes.nil HE.out (Below.refl _ _)

set_option maxRecDepth 100000 in
set_option maxHeartbeats 4000000 in
theorem sApplyB (a : Option Addr) (n cap : Nat) (R : List (List Int)) (a' : Option Addr) (N cap' : Nat) (l : List Int) (w : World) (h : Mat w a n R) (h' : Ints .i64 w a' N l) (hr : Rect R n N) (hR : ∀ i k, i < n → k < N → M.Big (M.ent R i k)) (hl : ∀ k, k < N → M.Big (l.getD k 0)) (n2 : n ≤ 10) (N1 : 1 ≤ N) (N2 : N ≤ 10) :
    Calls Try.prog 92 #[.slice a n cap, .slice a' N cap'] w fun e w' => ∃ b c, e = .returned (.slice b n c) ∧ Own w' w.heap.size (.slice b n c) (M.applyM R l) ∧ Below w.heap.size w w' := by
  have HA := Lib.hid h
  have HI := Lib.hid h'
  have HT := Lib.hid hr
  have HL := Lib.hid h.1
  have HV := Lib.hid hR
  have HV' := Lib.hid hl
  have HF : Hid (M.applyM R l = (List.range n).map fun i => M.dotV R l i N) := by show _ = _; unfold M.applyM; rw [h.1, h'.1]
  have hO0 : Hid (Own (w.alloc (.cells #[] 2)) w.heap.size (.slice (some ⟨w.heap.size, 0, none⟩) 0 0) []) := own_lit0 w _ (Nat.le_refl _)
  obtain ⟨rb, ro, x0, rfl, -, -, -⟩ := h'.at 0 (by omega)
  clear h h' hr hR hl
  go_enter Try.func92, Try.ntmps92
  go_wp2
  go_loopw [5, 6] (fun out i wr => ∃ (k : Nat) (b : Option Addr) (c : Nat), k ≤ n ∧ i = .int .i64 k ∧ out = .slice b k c ∧ Own wr w.heap.size (.slice b k c) ((List.range k).map fun i => M.dotV R l i N) ∧ Below w.heap.size w wr) (fun _ i _ => n - (intOf i).toNat)
  case atStart => exact ⟨0, _, _, Nat.zero_le _, rfl, rfl, hO0.out, b_alloc _ _⟩
  case round =>
    obtain ⟨k, b, c, hk, rfl, rfl, hO, hb⟩ := hrel
    obtain ⟨wo, rfl⟩ : ∃ x, x = wr := ⟨_, rfl⟩
    have HO := Lib.hid hO
    have HB := Lib.hid hb
    clear hO hb hO0
    by_cases hlt : k < n
    · have hki : (k : Int) < (n : Int) := by omega
      have HS0 : Hid ((-1000000000000000 : Int) = M.dotV R l k 0) := rfl
      go_wp2
      go_loopw [7, 8] (fun sm j wr => ∃ (u : Nat) (y : Int), u ≤ N ∧ j = .int .i64 u ∧ sm = .int .i64 y ∧ Hid (y = M.dotV R l k u) ∧ ∃ q, wr = wo.drewN q) (fun _ j _ => N - (intOf j).toNat)
      case atStart => exact ⟨0, _, Nat.zero_le _, rfl, rfl, HS0, 0, rfl⟩
      case round =>
        obtain ⟨u, y, hu, rfl, rfl, HY, q2, rfl⟩ := hrel
        by_cases hul : u < N
        · have hui : (u : Int) < (N : Int) := by omega
          obtain ⟨d, od, rd, rdo, c4, x1, rfl, hx1, c41, c42⟩ := (HA.out.below HB.out).rect_ent HT.out k u hlt hul
          obtain ⟨rx, rxo, x2, hrr, -, hx2, hcx2⟩ := (HI.out.below HB.out).at u hul
          injection hrr with hrr
          injection hrr with e1 e2
          subst e1 e2
          have HV1 : Hid (M.Big x1) := by show M.Big _; rw [hx1]; exact HV.out k u hlt hul
          have HV2 : Hid (M.Big x2) := by show M.Big _; rw [hx2]; exact HV'.out u hul
          obtain ⟨z, hz⟩ : ∃ z, z = M.times x1 x2 := ⟨_, rfl⟩
          have HY2 : Hid ((if y < z then z else y) = M.dotV R l k (u + 1)) := by show _ = _; rw [← M.ifmax, hz, HY.out, hx1, hx2]; rfl
          have HC1 : ∀ w : World, Calls Try.prog 76 #[.int .i64 x1, .int .i64 x2] w fun e w' => e = .returned (.int .i64 z) ∧ w = w' := by
            intro w
            rw [hz]
            exact sTimesB _ _ _ HV1.out HV2.out
          clear hx1 hx2 hz
          go_wp2
          go_quiet ((go_at_call 76; exact q_more_s (HC1 _)))
          go_wp2
          go_roundw
          case rel => exact ⟨u + 1, _, by omega, by go_num, rfl, HY2, _, rfl⟩
          case measure => simp [intOf]; omega
        · obtain rfl : u = N := by omega
          have HOq : Hid (Own (wo.drewN q2) w.heap.size (.slice b k c) ((List.range k).map fun i => M.dotV R l i u)) := HO.out
          have HBq : Hid (Below w.heap.size w (wo.drewN q2)) := below_drewN HB.out _
          have hsz : w.heap.size ≤ (wo.drewN q2).heap.size := HBq.out.size
          have hlen := HO.out.len
          have HLn := Lib.hid hlen
          clear hlen
          generalize wo.drewN q2 = wq at HOq HBq hsz
          go_wp2_with (at_builtin; refine append1 _ rfl (.tmp 36) (.tmp 38) rfl w.heap.size _ _ _ k HOq.out.len.symm rfl HOq.out rfl (by rw [← HLn.out]; omega) hsz ?_)
          intro b2 c2 w2 hO2 hb2 _
          have HO2 := Lib.hid hO2
          have HB2 := Lib.hid (HBq.out.trans hb2)
          clear hO2 hb2
          go_wp2
          go_roundw
          case rel => exact ⟨k + 1, _, _, by omega, by go_num, rfl, by rw [M.range_snoc, ← HY.out]; exact HO2.out, HB2.out⟩
          case measure => simp [intOf]; omega
    · obtain rfl : k = n := by omega
      go_wp2
      go_ret
      exact ⟨_, _, rfl, by rw [HF.out]; exact HO.out, HB.out⟩

theorem sApply (a : Option Addr) (n cap : Nat) (R : List (List Int)) (a' : Option Addr) (N cap' : Nat) (l : List Int) (w : World) (h : Mat w a n R) (h' : Ints .i64 w a' N l) (hr : Rect R n N) (hR : M.isMat R = true) (hl : M.isVec l = true) (n2 : n ≤ 10) (N1 : 1 ≤ N) (N2 : N ≤ 10) :
    Calls Try.prog 92 #[.slice a n cap, .slice a' N cap'] w fun e w' => ∃ b c, e = .returned (.slice b n c) ∧ Own w' w.heap.size (.slice b n c) (M.applyM R l) ∧ Below w.heap.size w w' :=
  if hn : 0 < n then sApplyB a n cap R a' N cap' l w h h' hr (fun i k hi hk => M.big_val (tm_val hR hr hn hi hk)) (fun k hk => M.big_val ((M.isVec_t hl).2.2 k (by rw [h'.1]; exact hk))) n2 N1 N2
  else sApplyB a n cap R a' N cap' l w h h' hr (fun i k hi hk => absurd (Nat.lt_of_le_of_lt (Nat.zero_le _) hi) hn) (fun k hk => M.big_val ((M.isVec_t hl).2.2 k (by rw [h'.1]; exact hk))) n2 N1 N2


end Go.Proofs.Ytkilnneepnbckaa.V

namespace Go.Proofs.Ytkilnneepnbckaa
namespace V
open Go.RowKit
theorem rlit (w : World) (B : Nat) (x : Int) (h : B ≤ w.heap.size) : Own (w.alloc (.cells #[.int .i64 x] 2)) B (.slice (some ⟨w.heap.size, 0, none⟩) 1 1) [x] := World.ownsRow_lit w #[.int .i64 x] 1 h (by decide) rfl
set_option maxRecDepth 100000 in
set_option maxHeartbeats 1000000 in
theorem sOver (a : Option Addr) (n cap : Nat) (R : List (List Int)) (over : Int) (w : World) (h : Sq w a n R) :
    Calls Try.prog 64 #[.slice a n cap, .int .i64 over] w fun e w' => ∃ b' n' c', e = .returned (.slice b' n' c') ∧ Own w' w.heap.size (.slice b' n' c') (M.overL (M.ent R) n over) ∧ Below w.heap.size w w' := by
  have HS := Lib.hid h
  have hn10 := h.2.2.2.2
  obtain ⟨g, hg⟩ : ∃ g : Nat → List Int, g = fun v : Nat => M.grow (M.ent R) n over n [(v : Int)] 0 := ⟨_, rfl⟩
  have HG : Hid (M.overL (M.ent R) n over = M.pick g n 0) := by show _ = _; rw [hg]; rfl
  have HGg : Hid (∀ v : Nat, g v = M.grow (M.ent R) n over n [(v : Int)] 0) := fun v => by rw [hg]
  clear h hg
  go_enter Try.func64, Try.ntmps64
  go_wp2
  go_loopw [5, 6] (fun v _ wr => ∃ k : Nat, k ≤ n ∧ v = .int .i64 k ∧ Hid (M.pick g n 0 = M.pick g (n - k) k) ∧ Below w.heap.size w wr) (fun v _ _ => n - (intOf v).toNat)
  case atStart => exact ⟨0, Nat.zero_le _, rfl, rfl, Below.refl _ _⟩
  case round =>
    obtain ⟨k, hk2, rfl, HK, hb⟩ := hrel
    have HB1 := Lib.hid hb
    have hz1 : w.heap.size ≤ wr.heap.size := hb.size
    clear hb
    by_cases hk : k < n
    · have hki : (k : Int) < (n : Int) := by omega
      obtain ⟨t, ht⟩ : ∃ t, t = M.grow (M.ent R) n over n [(k : Int)] 0 := ⟨_, rfl⟩
      have HTt := Lib.hid ht
      have HGk : Hid (g k = t) := (HGg.out k).trans ht.symm
      have HN2 : Hid (M.nodesB n [(k : Int)] = true) := by show _ = _; unfold M.nodesB; simp [M.inN]; omega
      have HD2 : Hid (M.diffB [(k : Int)] = true) := M.diffB_of (fun i hi => by
        simp at hi; subst hi; rfl)
      have HLit := Lib.hid (rlit wr w.heap.size (k : Int) hz1)
      have HSl := Lib.hid (HS.out.below (HB1.out.alloc hz1 (.cells #[.int .i64 (k : Int)] 2)))
      clear ht
      go_wp2_with fail
      refine (sGrow _ _ _ R over n _ 1 _ [(k : Int)] 0 w.heap.size _ HSl.out HLit.out HN2.out HD2.out (by omega) (by omega) (by omega) (by omega) (by simp; omega)).mono ?_
      rintro e w3 ⟨b3, n3, c3, rfl, ho, hb⟩
      rw [← HTt.out] at ho
      have hlt := ho.len
      have HO3 := Lib.hid ho
      have HBz := Lib.hid ((HB1.out.alloc hz1 (.cells #[.int .i64 (k : Int)] 2)).trans (hb.mono (by simp; omega)))
      clear ho hb
      by_cases hn3 : n3 = 0
      · subst hn3
        have HKn : Hid (M.pick g n 0 = M.pick g (n - (k + 1)) (k + 1)) := HK.out.trans (M.pick_no hk (by rw [HGk.out]; exact hlt.symm))
        clear hlt
        go_wp2
        go_roundw
        case rel => exact ⟨k + 1, by omega, by go_num, HKn, HBz.out⟩
        case measure => simp [intOf]; omega
      · have HE : Hid (M.overL (M.ent R) n over = t) := HG.out.trans (HK.out.trans ((M.pick_yes hk (by rw [HGk.out]; omega)).trans HGk.out))
        have hn3p : 0 < n3 := by omega
        clear hlt
        go_wp2
        go_ret
        exact ⟨_, _, _, rfl, by rw [HE.out]; exact HO3.out, HBz.out⟩
    · obtain rfl : k = n := by omega
      have HE : Hid (M.overL (M.ent R) k over = []) := HG.out.trans (HK.out.trans M.pick_end)
      go_wp2
      go_ret
      exact ⟨_, _, _, rfl, by rw [HE.out]; exact own_nil _ _, HB1.out⟩
set_option maxRecDepth 100000 in
set_option maxHeartbeats 1000000 in
theorem sPositiveCycle (a : Option Addr) (n cap : Nat) (R : List (List Int)) (w : World) (h : Mat w a n R) :
    Calls Try.prog 22 #[.slice a n cap] w (VRes (M.posRes R) w) := by
  have HA := Lib.hid h
  have HR := Lib.hid h.1
  by_cases hs : M.sqB R = true
  · have HS := Lib.hid hs
    have HQ := Lib.hid (sq_of h hs)
    obtain ⟨l, hl⟩ : ∃ l, l = M.overL (M.ent R) n 0 := ⟨_, rfl⟩
    have HL := Lib.hid hl
    have HE : Hid (M.posRes R = if l.length = 0 then ([], 4) else (l, 0)) := by
      show _ = _; unfold M.posRes; rw [hs, if_pos rfl, h.1, ← hl]
    clear h hs hl
    go_enter Try.func22, Try.ntmps22
    go_wp2_with (go_at_call 58; refine (sSquare_b _ _ _ R _ true HS.out HA.out).mono ?_; rintro e w' ⟨rfl, q, rfl⟩)
    refine (sOver _ _ _ R 0 _ (HQ.out.below (b_draws _ _))).mono ?_
    rintro e w3 ⟨b3, n3, c3, rfl, ho, hb⟩
    rw [← HL.out] at ho
    have hlt := ho.len
    have HO3 := Lib.hid ho
    have HB3 : Hid (Below w.heap.size w w3) := (b_draws w q).trans hb
    clear ho hb
    by_cases hn3 : n3 = 0
    · subst hn3
      have HEE : Hid (M.posRes R = ([], 4)) := HE.out.trans (if_pos hlt.symm)
      clear hlt
      go_wp2
      go_ret2
      exact VRes.nil HEE.out HB3.out
    · have HEE : Hid (M.posRes R = (l, 0)) := HE.out.trans (if_neg (by omega))
      have hn3f : ((n3 : Int) == 0) = false := by simp; omega
      have hn3g : (n3 == 0) = false := by simpa using hn3
      clear hlt
      go_wp2
      go_ret2
      rw [HEE.out]
      exact ⟨_, _, _, rfl, HO3.out, HB3.out⟩
  · simp only [Bool.not_eq_true] at hs
    have HS := Lib.hid hs
    have HE : Hid (M.posRes R = ([], 1)) := by show _ = _; unfold M.posRes; rw [hs]; rfl
    clear h hs
    go_enter Try.func22, Try.ntmps22
    go_wp2_with (go_at_call 58; refine (sSquare_b _ _ _ R _ false HS.out HA.out).mono ?_; rintro e w' ⟨rfl, q, rfl⟩)
    go_ret2
    exact VRes.nil HE.out (b_draws _ _)
end V
end Go.Proofs.Ytkilnneepnbckaa

namespace Go.Proofs.Ytkilnneepnbckaa.V
open Go Go.RowKit

section
variable {P : Program} {ops : Array Oper} {md : Region.Mode} {w : World}
theorem wpIn_of_still {n : Nat} {o : Oper} {a : Act} {K : Act → Prop} {K' : Act → World → Prop} {Q' : Exit → Act → World → Prop} (h : ∀ a, K a → K' a w) (hh : o.still P a w K) : o.wpIn Fence.wide n P a w K' Q' := by
  refine ⟨fun _ _ => trivial, ?_⟩
  show o.uponIn Fence.wide n P a K' Q' ((execOp a.eval o).run P w)
  unfold Oper.still at hh
  generalize (execOp a.eval o).run P w = r at *
  cases r with
  | ok m w' =>
    cases m <;> simp only [Oper.stillUpon] at hh <;> simp only [Oper.uponIn]
    case enter f args =>
      obtain ⟨rfl, v, hc, hn⟩ := hh
      exact ⟨fun h => by simp [Fence.wide] at h, callsIn_wide.2 (hc.mono fun e w'' ⟨he, hw⟩ => by subst he; subst hw; exact h _ hn)⟩
    all_goals (obtain ⟨rfl, h2⟩ := hh; exact h _ h2)
  | halt x w' => simp only [Oper.stillUpon] at hh
theorem wpOpIn_of_stOp {n i : Nat} {a : Act} {K : Act → Prop} {K' : Act → World → Prop} {Q' : Exit → Act → World → Prop} (h : ∀ a, K a → K' a w) (hh : stOp P ops w i K a) : wpOpIn Fence.wide n P ops Q' i K' a w := by
  unfold stOp at hh
  unfold wpOpIn
  split
  · rename_i ho; simp only [ho] at hh; exact h _ hh
  · rename_i o ho
    simp only [ho] at hh
    split
    · rename_i hw; simp only [hw, if_true] at hh; exact wpIn_of_still h hh
    · rename_i hw; simp only [hw] at hh; exact ⟨fun _ _ => trivial, h _ hh⟩
theorem wpAnyIn_of_head {m n g : Nat} {L : Array Bool → Act → Prop} {Q' : Exit → Act → World → Prop} (hL : ∀ listed a, L listed a → wpAnyIn Fence.wide m P md ops Q' g listed a w) :
    ∀ (f : Nat) (listed : Array Bool) (a : Act), wpAnyL P md ops w n L f listed a → wpAnyIn Fence.wide m P md ops Q' (f + g) listed a w
  | 0, listed, a, h => by rw [Nat.zero_add]; exact hL _ _ h
  | f + 1, listed, a, h => by
    rw [show f + 1 + g = (f + g) + 1 by omega]
    exact ⟨fun h0 => absurd h0 h.1, fun i hi => wpOpIn_of_stOp (fun a' h' => wpAnyIn_of_head hL f _ a' h') (h.2 i hi).2⟩
theorem wpAnyIn_of_seq {m : Nat} {Q' : Exit → Act → World → Prop} : ∀ (l : List Oper) (k : Nat) (listed : Array Bool) (a : Act) (w : World), (∀ j, l[j]? = ops[k + j]?) →
    Region.seqB md ops l.length k listed = true → wpListIn Fence.wide m P ops Q' l a w → wpAnyIn Fence.wide m P md ops Q' l.length listed a w
  | [], _, _, _, _, _, hB, h => ⟨by simpa [Region.seqB] using hB, h⟩
  | o :: l, k, listed, a, w, hl, hB, h => by
    have h0 : ops[k]? = some o := by simpa using (hl 0).symm
    simp only [List.length_cons, Region.seqB, Bool.and_eq_true, decide_eq_true_eq] at hB
    refine ⟨fun h1 => (by rw [hB.1] at h1; cases h1), fun i hi => ?_⟩
    rw [hB.1] at hi
    have hik : i = k := by simpa using hi
    subst hik
    have hw : wpOpIn Fence.wide m P ops Q' i (wpListIn Fence.wide m P ops Q' l) a w := by unfold wpOpIn; simp only [h0]; exact h
    exact wpOpIn_mono (fun a' w' h' => wpAnyIn_of_seq l (i + 1) _ a' w' (fun j => by have := hl (j + 1); simpa [Nat.add_assoc, Nat.add_comm 1 j] using this) hB.2 h') hw
theorem wpIn_region_still_tail {id m : Nat} {Q : Exit → Act → World → Prop} {a : Act} {w : World} {l : List Oper} (n : Nat) (hm : P.follows .mixedOrders = true) (hB : Region.lexTailB .any l.toArray n = true)
    (h : wpStill P l.toArray { w with drawn := w.drawn + 1 } (fun a' => wpListIn Fence.wide m P l.toArray Q (l.drop n) a' { w with drawn := w.drawn + 1 }) (l.take n) a) : (Code.region id l.toArray true).wpIn Fence.wide m P Q a w := by
  simp only [Region.lexTailB, Bool.and_eq_true, decide_eq_true_eq] at hB
  obtain ⟨⟨⟨⟨hsel, hn⟩, hs⟩, hc⟩, hlex⟩ := hB
  have hn' : n < l.length := by simpa using hn
  have htl : (l.take n).length = n := by simp; omega
  have hdl : (l.drop n).length = l.toArray.size - n := by simp
  have inv0 : HeadInv .any l.toArray n (Array.replicate l.toArray.size false) :=
    ⟨by simp, fun j oj _ hl => (by rw [getD_replicate_false] at hl; cases hl), fun t _ ht => getD_in (by simpa using ht) (getD_replicate_false _ _)⟩
  have H := wpAnyL_lex (md := .any) (g := l.toArray.size - n) hsel hs hc hn (l.take n) 0 _ a (fun j hj => by
    have hj' : j < n := by rw [htl] at hj; exact hj
    simp [hj']) (by simpa using htl) inv0 (by rw [htl]; exact hlex) h
  refine wpIn_region_any hm ?_
  have := wpAnyIn_of_head (m := m) (Q' := Q) (g := l.toArray.size - n) (fun listed a' hL => by
    have := wpAnyIn_of_seq (m := m) (md := .any) (Q' := Q) (l.drop n) n listed a' { w with drawn := w.drawn + 1 } (fun j => by simp [List.getElem?_drop]) (by rw [hdl]; exact hL.1) hL.2
    rwa [hdl] at this) _ _ _ H
  rw [htl, show n + (l.toArray.size - n) = l.toArray.size by omega] at this
  exact this
end
end Go.Proofs.Ytkilnneepnbckaa.V

namespace Go.Proofs.Ytkilnneepnbckaa.V
open Go Go.RowKit

/-- Of the blocks that were there, at most k₀ has changed. -/
def Chg1 (k₀ : Nat) (A B : World) : Prop := B.os = A.os ∧ B.tape = A.tape ∧ B.output = A.output ∧ A.heap.size ≤ B.heap.size ∧ ∀ k, k < A.heap.size → k ≠ k₀ → B.heap[k]? = A.heap[k]?
theorem Chg1.refl (k₀ : Nat) (A : World) : Chg1 k₀ A A := ⟨rfl, rfl, rfl, Nat.le_refl _, fun _ _ _ => rfl⟩
theorem Chg1.trans {k₀ : Nat} {A B C : World} (h : Chg1 k₀ A B) (g : Chg1 k₀ B C) : Chg1 k₀ A C :=
  ⟨g.1.trans h.1, g.2.1.trans h.2.1, g.2.2.1.trans h.2.2.1, Nat.le_trans h.2.2.2.1 g.2.2.2.1, fun k hk hne => (g.2.2.2.2 k (Nat.lt_of_lt_of_le hk h.2.2.2.1) hne).trans (h.2.2.2.2 k hk hne)⟩
theorem Chg1.drew (k₀ : Nat) {A B : World} (h : Chg1 k₀ A B) : Chg1 k₀ A B.drew := ⟨h.1, h.2.1, h.2.2.1, h.2.2.2.1, h.2.2.2.2⟩
theorem Chg1.setCell {A B : World} {p : Addr} (h : Chg1 p.block A B) (v : Value) : Chg1 p.block A (B.setCell p v) :=
  ⟨h.1, h.2.1, h.2.2.1, by have := h.2.2.2.1; simpa [World.setCell] using this, fun k hk hne => (Below.heap_setCell B p v k hne).trans (h.2.2.2.2 k hk hne)⟩
theorem Chg1.putObj (A : World) (l : Nat) (o : Obj) : Chg1 l A (A.putObj l o) := ⟨rfl, rfl, rfl, by simp, fun k _ hne => World.putObj_heap_other hne⟩

/-- How a round may end: all as it was, or a jump out of the loop. -/
def EndOf (D l : Nat) (Go : Array Value → Prop) (Stop : Nat → Array Value → World → World → Prop) (x : Array Value) (W Wb : World) : Exit → Act → World → Prop
  | .normal, _, W3 => Below W.heap.size Wb W3 ∧ Go x
  | .exit id, _, W3 => W3.heap[D]? = Wb.heap[D]? ∧ W3.heap[l]? = Wb.heap[l]? ∧ Wb.heap.size ≤ W3.heap.size ∧ (∀ k, D + 2 ≤ k → k < W.heap.size → W3.heap[k]? = Wb.heap[k]?) ∧ Stop id x W W3
  | _, _, _ => False

theorem rangeState {P : Program} {n : Nat} {g : Operand} {ps : Array Tmp} {assign body : Code} {Q : Exit → Act → World → Prop} {a : Act} {w : World}
    {gf : Nat} {lb : Array Value} (hg : a.eval g = .func (.func gf) #[] lb) (eg : ∀ args w, (callFunc gf args).run P w = .ok (.enter gf args) w)
    (Pre : Array Value → World → Prop) (hps : ∀ x W, Pre x W → x.size = ps.size) (Go : Array Value → Prop) (Stop : Nat → Array Value → World → World → Prop) (Fin : Prop)
    (hMove : ∀ id x W A B k₀, Stop id x W A → Chg1 k₀ A B → (k₀ = w.heap.size + 1 ∨ (w.heap.size + 2 ≤ k₀ ∧ k₀ < W.heap.size)) → Stop id x W B)
    (hiter : ∀ (T : Array Value → World → World → Prop) (W1 : World), Below w.heap.size w W1 → W1.heap.size = w.heap.size + 2 →
      (∀ x W m, Pre x W → Below (w.heap.size + 2) W1 W → YieldAt Fence.wide m P (w.heap.size + 1) x W fun e W' => (e = .returned (.bool true) ∧ Below W.heap.size W W' ∧ Go x) ∨ (e = .returned (.bool false) ∧ T x W W' ∧ W.heap.size ≤ W'.heap.size ∧ ∀ k, w.heap.size + 2 ≤ k → k < W.heap.size → W'.heap[k]? = W.heap[k]?)) →
      CallsIn Fence.wide (n - 1) P gf (#[.func (.yield (w.heap.size + 1)) #[] #[]] ++ lb) W1 fun e W' => (∃ v, e = .returned v) ∧
        ((Fin ∧ Below (w.heap.size + 2) W1 W') ∨ ∃ x W2 W3 S, Pre x W2 ∧ Below (w.heap.size + 2) W1 W2 ∧ T x W2 W3 ∧ w.heap.size + 2 ≤ S ∧ S < W2.heap.size ∧ W2.heap.size ≤ W3.heap.size ∧ Chg1 S W3 W'))
    (a₁ : Array Value → Act)
    (hassign : ∀ l x W m (K : Act → World → Prop), Pre x W → K (a₁ x) W → assign.wpIn (Fence.wide.inRound l) m P (Exit.then K (fun _ _ _ => False)) { tmps := (ps.zip x).foldl (fun t (p, v) => t.setIfInBounds p v) a.tmps, defers := [] } W)
    (hbody : ∀ x W o m, Pre x W → Below w.heap.size w W → w.heap.size + 2 ≤ W.heap.size → body.wpIn (Fence.wide.inRound (w.heap.size + 1)) m P (EndOf w.heap.size (w.heap.size + 1) Go Stop x W (W.putObj (w.heap.size + 1) o)) (a₁ x) (W.putObj (w.heap.size + 1) o))
    (hdone : ∀ W, Fin → Below w.heap.size w W → w.heap.size + 2 ≤ W.heap.size → W.heap[w.heap.size]? = some (.deferred (some [])) → Q .normal { a with defers := { target := .collected w.heap.size, args := #[] } :: a.defers } W)
    (hstop : ∀ id x W2 W, Pre x W2 → Below w.heap.size w W2 → Stop id x W2 W → W.heap[w.heap.size]? = some (.deferred (some [])) → (Code.exit id).wpIn Fence.wide n P Q { a with defers := { target := .collected w.heap.size, args := #[] } :: a.defers } W) :
    (Code.rangeFunc g ps assign body).wpIn Fence.wide n P Q a w := by
  refine wpIn_rangeFunc ?_
  intro fn hfn
  obtain ⟨rec, hrec⟩ : ∃ rec : LoopState → Option Code → Loop, rec = fun st pe => { state := st, pending := pe, fn, tmps := a.tmps, params := ps, assign, body, defers := w.heap.size } := ⟨_, rfl⟩
  obtain ⟨W1, hW1⟩ : ∃ W1, (w.alloc (.deferred (some []))).alloc (.loop (rec .ready none)) = W1 := ⟨_, rfl⟩
  have hL1 : W1.heap[w.heap.size + 1]? = some (.loop (rec .ready none)) := by
    rw [← hW1]; have := World.alloc_heap_new (w.alloc (.deferred (some []))) (.loop (rec .ready none)); rwa [World.size_alloc] at this
  have hK1 : W1.heap[w.heap.size]? = some (.deferred (some [])) := by
    rw [← hW1]; exact (Below.heap_alloc _ _ _ (by simp)).trans (World.alloc_heap_new w _)
  have hb1 : Below w.heap.size w W1 := by
    rw [← hW1]; exact ((Below.refl _ w).alloc (Nat.le_refl _) _).alloc (by simp) _
  have hs1 : W1.heap.size = w.heap.size + 2 := by rw [← hW1]; simp
  refine ⟨w.heap.size + 1, [{ target := .collected w.heap.size, args := #[] }], W1, { target := .fn (.func gf) lb, args := #[.func (.yield (w.heap.size + 1)) #[] #[]] }, W1, gf,
    #[.func (.yield (w.heap.size + 1)) #[] #[]] ++ lb, W1, ?_, ?_, fun _ _ => trivial, ?_, fun h => by simp [Fence.wide] at h, ?_⟩
  · rw [← hW1, hrec]; exact run_enterLoop_outer _ _ _ _ _
  · simp only [resolve, hg]
    simp [go_sem]
  · simp [invoke, go_sem, eg]
  · refine (hiter (fun x W W' => ∃ id, Stop id x W W' ∧ W'.heap[w.heap.size + 1]? = some (.loop (rec .done (some (.exit id)))) ∧ W'.heap[w.heap.size]? = some (.deferred (some []))) W1 hb1 hs1 ?_).mono ?_
    · intro x W m hp hbW
      have hsz : w.heap.size + 2 ≤ W.heap.size := by have := hbW.size; omega
      have hl : W.heap[w.heap.size + 1]? = some (.loop (rec .ready none)) := (hbW.block _ (by omega)).trans hL1
      have hk : W.heap[w.heap.size]? = some (.deferred (some [])) := (hbW.block _ (by omega)).trans hK1
      have hy := run_yield (P := P) (args := x) hl (by rw [hrec]; exact hps x W hp)
      rw [hrec] at hy
      refine ⟨fn, _, assign, body, hy, roundIn_of_wpIn trivial (hassign _ x W _ _ hp ⟨_, run_beginRound hl (by rw [hrec]), ?_⟩)⟩
      have hl2 : (W.putObj (w.heap.size + 1) (.loop { rec .ready none with state := .busy })).heap[w.heap.size + 1]? = some (.loop { rec .ready none with state := .busy }) := World.putObj_heap_same (by omega)
      have hk2 : (W.putObj (w.heap.size + 1) (.loop { rec .ready none with state := .busy })).heap[w.heap.size]? = some (.deferred (some [])) := (World.putObj_heap_other (by omega)).trans hk
      refine wpIn_mono (hbody x W _ _ hp (hb1.trans (hbW.mono (by omega))) hsz) ?_
      rintro e a3 W3 hq
      cases e with
      | normal =>
        obtain ⟨hq, hgo⟩ := hq
        have hl3 := (hq.block _ (by omega)).trans hl2
        have hr := run_endRound (P := P) none hl3
        refine ⟨_, _, hr, .inl ⟨rfl, ⟨hq.os, hq.tape, hq.output, ?_, ?_⟩, hgo⟩⟩
        · have := hq.size; simpa using this
        · intro k hk'
          by_cases e : k = w.heap.size + 1
          · subst e
            rw [World.putObj_heap_same (by have := hq.size; simp at this; omega), hl, hrec]; rfl
          · rw [World.putObj_heap_other e, hq.block k hk', World.putObj_heap_other e]
      | exit id =>
        obtain ⟨h1, h2, h4, h5, h3⟩ := hq
        have hl3 := h2.trans hl2
        have hr := run_endRound (P := P) (some (.exit id)) hl3
        refine ⟨_, _, hr, .inr ⟨rfl, ⟨id, hMove _ _ _ _ _ _ h3 (Chg1.putObj _ _ _) (.inl rfl), ?_, (World.putObj_heap_other (by omega)).trans (h1.trans hk2)⟩, by simpa using h4, fun k hk3 hk4 => (World.putObj_heap_other (by omega)).trans ((h5 k hk3 hk4).trans (World.putObj_heap_other (by omega)))⟩⟩
        rw [World.putObj_heap_same (Array.getElem?_eq_some_iff.1 hl3).1, hrec]; rfl
      | ret => exact hq.elim
      | goto t => exact hq.elim
      | panic ch => exact hq.elim
      | outgrown => exact hq.elim
    · rintro e W2 ⟨⟨v, rfl⟩, (⟨hF, hb⟩ | ⟨x, A, B, S, hp, hbA, ⟨id, hS, hl, hk⟩, hS1, hS2, hAB, hc⟩)⟩
      · have hl : W2.heap[w.heap.size + 1]? = some (.loop (rec .ready none)) := (hb.block _ (by omega)).trans hL1
        have hk : W2.heap[w.heap.size]? = some (.deferred (some [])) := (hb.block _ (by omega)).trans hK1
        have hsz : w.heap.size + 2 ≤ W2.heap.size := by have := hb.size; omega
        refine ⟨none, _, by have := run_endLoop (P := P) hl (by rw [hrec]; simp); rw [hrec] at this; exact this, hdone _ hF ?_ (by simpa using hsz) ((World.putObj_heap_other (by omega)).trans hk)⟩
        have := hb1.trans (hb.mono (by omega : w.heap.size ≤ w.heap.size + 2))
        exact ⟨this.os, this.tape, this.output, by have := this.size; simpa using this, fun k hk' => (World.putObj_heap_other (by omega)).trans (this.block k hk')⟩
      · have hBl := (Array.getElem?_eq_some_iff.1 hl).1
        have hl2 : W2.heap[w.heap.size + 1]? = some (.loop (rec .done (some (.exit id)))) := (hc.2.2.2.2 _ hBl (by omega)).trans hl
        have hk2 : W2.heap[w.heap.size]? = some (.deferred (some [])) := (hc.2.2.2.2 _ (by omega) (by omega)).trans hk
        refine ⟨some (.exit id), _, by have := run_endLoop (P := P) hl2 (by rw [hrec]; simp); rw [hrec] at this; exact this, hstop id x A _ hp (hb1.trans (hbA.mono (by omega))) ?_ ((World.putObj_heap_other (by omega)).trans hk2)⟩
        exact hMove _ _ _ _ _ _ (hMove _ _ _ _ _ _ hS hc (.inr ⟨hS1, hS2⟩)) (Chg1.putObj _ _ _) (.inl rfl)
end Go.Proofs.Ytkilnneepnbckaa.V
