/- Texts laid together: Apply, Pth1. -/
import Derived.Test.YtmcihaihbnnblabRows
import Derived.Test.YtmcihaihbnnblabQb1
import Derived.Test.YtmcihaihbnnblabQb2
import Derived.Test.YtmcihaihbnnblabQb3
import Derived.WalkKit
import Derived.ProofKit
import Derived.WalkSmall
import Derived.Deep.QuietTactic
import Derived.BigQuiet
import Derived.BigRegion
import Derived.Deep.Draws
import Derived.Lib.Hide
import Derived.OpenShut
import Derived.Deep.OwnRows
import Derived.Test.YtmcihaihbnnblabQb4
import Derived.StillTailTactics
import Derived.Test.YtmcihaihbnnblabQb5
set_option linter.unusedSimpArgs false
set_option linter.unusedVariables false
set_option linter.unusedSectionVars false
namespace Go.Proofs.Ytmcihaihbnnblab.V
open Go.RowKit

/-- A new vector and a code. -/
def VRes (r : List Int × Int) (w : World) (e : Ending) (w' : World) : Prop :=
  ∃ a n cap, e = .returned (.tuple #[.slice a n cap, .int .i64 r.2]) ∧ Own w' w.heap.size (.slice a n cap) r.1 ∧ Below w.heap.size w w'
theorem VRes.nil {r : List Int × Int} {c : Int} {w w' : World} (hr : r = ([], c)) (hb : Below w.heap.size w w') : VRes r w (.returned (.tuple #[.slice none 0 0, .int .i64 c])) w' := by
  subst hr
  exact ⟨none, 0, 0, rfl, own_nil _ _, hb⟩

theorem ints_vec {w : World} {a : Option Addr} {n : Nat} {l : List Int} (h : Ints .i64 w a n l) (hv : M.isVec l = true) : 1 ≤ n ∧ n ≤ 10 := by
  obtain ⟨h1, h2, -⟩ := M.isVec_t hv
  rw [h.1] at h1 h2
  exact ⟨h1, h2⟩
theorem isVector_b (a : Option Addr) (n cap : Nat) (l : List Int) (w : World) (b : Bool) (hb : M.isVec l = b) (h : Ints .i64 w a n l) :
    Calls Try.prog 70 #[.slice a n cap] w fun e w' => e = .returned (.bool b) ∧ w = w' := by
  subst hb
  exact isVector _ _ _ _ _ h
theorem sVector_b (a : Option Addr) (n cap : Nat) (l : List Int) (w : World) (b : Bool) (hb : M.isVec l = b) (h : Ints .i64 w a n l) :
    Calls Try.prog 69 #[.slice a n cap] w fun e w' => e = .returned (.bool b) ∧ w = w' := by
  subst hb
  exact sVector _ _ _ _ _ h

/-- A matrix of one row that is not its own. -/
theorem mat_one (w : World) (a : Option Addr) (n cap : Nat) (l : List Int) (h : Ints .i64 w a n l) : Mat (w.alloc (.cells #[.slice a n cap] 29)) (some ⟨w.heap.size, 0, none⟩) 1 [l] := by
  refine ⟨rfl, by decide, .inr ⟨_, _, rfl, by simp, fun i hi => ?_⟩⟩
  obtain rfl : i = 0 := by omega
  have hc := cell_one_new w (.slice a n cap) 29 0 _ rfl
  refine ⟨a, cap, ?_, ?_⟩
  · show _ = some (Value.slice a l.length cap)
    rw [h.1]; exact hc
  · show Ints _ _ _ l.length l
    rw [h.1]; exact h.below (b_alloc w _)

/-- The first row of an owned matrix. -/
theorem OwnM.row0 {w : World} {B n cap : Nat} {a : Option Addr} {R : List (List Int)} (h : OwnM w B (.slice a n cap) R) (hn : 0 < n) :
    ∃ g ra rc, a = some ⟨g, 0, none⟩ ∧ w.cell? ⟨g, 0, none⟩ = some (.slice ra (R.getD 0 []).length rc) ∧ Own w B (.slice ra (R.getD 0 []).length rc) (R.getD 0 []) := by
  have hl := h.len
  obtain ⟨V, h1, h2, h3, h4, h5⟩ := h
  obtain ⟨a', c', hv, hc, hm, hg⟩ := own_form h2
  injection hv with e1 e2 e3
  subst e1 e2 e3
  obtain ⟨g, rfl, hB, hlt⟩ := hg (by omega)
  have hr := h3 0 (by omega)
  obtain ⟨ra, rc, hrv, _⟩ := own_form hr
  rw [hrv] at hr
  refine ⟨g, ra, rc, rfl, ?_, hr⟩
  rw [World.ownsRow.cellAt h2 0 (by omega), ← hrv]
  simp [show 0 < V.length by omega]

/-- The column of a vector. -/
def M.colM (l : List Int) (n : Nat) : List (List Int) := M.mk n 1 (fun i _ => l.getD i 0)
theorem M.colM_ok {l : List Int} {n : Nat} (hv : M.isVec l = true) (hl : l.length = n) : M.isMat (M.colM l n) = true := by
  obtain ⟨h1, h2, h3⟩ := M.isVec_t hv
  exact M.isMat_mk (by omega) (by omega) (Nat.le_refl _) (by omega) (fun i hi _ _ => h3 i (by omega))
theorem M.dot_col {R : List (List Int)} {l : List Int} {n i k : Nat} (hk : k ≤ n) : M.dot R (M.colM l n) i 0 k = M.dotV R l i k := by
  unfold M.dot M.dotV
  refine M.sumN_congr fun t ht => ?_
  rw [M.colM, M.ent_mk _ _ _ _ _ (by omega) (by omega)]

set_option maxRecDepth 100000 in
set_option maxHeartbeats 4000000 in
theorem timesColumn (a : Option Addr) (n cap : Nat) (R : List (List Int)) (a' : Option Addr) (N cap' : Nat) (l : List Int) (w : World) (h : Mat w a n R) (h' : Ints .i64 w a' N l) (hr : Rect R n N) (hR : ∀ i k, i < n → k < N → M.Big (M.ent R i k)) (hl : ∀ k, k < N → M.Big (l.getD k 0)) (m1 : 1 ≤ n) (m2 : n ≤ 10) (c1 : 1 ≤ N) (c2 : N ≤ 10) :
    Calls Try.prog 75 #[.slice a n cap, .slice a' N cap'] w fun e w' => ∃ b c, e = .returned (.slice b n c) ∧ Own w' w.heap.size (.slice b n c) (M.applyM R l) ∧ Below w.heap.size w w' := by
  have HA := Lib.hid h
  have HI := Lib.hid h'
  have HR := Lib.hid hR
  have HT := Lib.hid hr
  have HC : Hid (∀ i k, i < N → k < 1 → M.Big (M.ent (M.colM l N) i k)) := fun i k hi hk => by
    unfold M.colM
    rw [M.ent_mk _ _ _ _ _ hi hk]; exact hl i hi
  have HCT : Hid (Rect (M.colM l N) N 1) := rect_mk _ _ _
  have H1T : Hid (Rect [l] 1 N) := ⟨rfl, fun i hi => by obtain rfl : i = 0 := by omega
                                                        exact h'.1⟩
  have HE1 : Hid (M.mk N 1 (fun i j => M.ent [l] j i) = M.colM l N) := by
    show _ = _
    unfold M.colM
    exact M.mk_congr fun i _ j hj => by obtain rfl : j = 0 := by omega
                                        rfl
  have HE2 : Hid ((M.mk 1 n (fun i j => M.ent (M.mk n 1 (fun i j => M.dot R (M.colM l N) i j N)) j i)).getD 0 [] = M.applyM R l) := by
    show _ = _
    rw [M.mk_row _ _ _ _ (by omega)]
    unfold M.applyM
    rw [h.1]
    refine List.map_congr_left fun j hj => ?_
    rw [M.ent_mk _ _ _ _ _ (List.mem_range.1 hj) (by omega), M.dot_col (Nat.le_refl _), h'.1]
  have HAL : Hid ((M.applyM R l).length = n) := by show _ = _; unfold M.applyM; simp [h.1]
  clear h h' hR hl hr
  go_enter Try.func75, Try.ntmps75
  go_wp2_with fail
  refine (transposed _ _ _ N [l] _ (mat_one w _ _ _ l HI.out) H1T.out (by omega) (by omega) c1 c2).mono ?_
  rintro e w1 ⟨a1, cap1, rfl, ho1, hb1⟩
  rw [HE1.out] at ho1
  have HB1 := Lib.hid (bel1 hb1)
  have HO1 := Lib.hid ho1
  clear ho1 hb1
  go_wp2_with fail
  refine (maxPlus _).mono ?_
  rintro e w2 ⟨rfl, hb2⟩
  have HB2 := Lib.hid (bnext HB1.out hb2)
  have HO2 := Lib.hid (HO1.out.below hb2)
  clear hb2
  go_wp2_with fail
  refine (multipliedB _ _ _ N R _ _ 1 (M.colM l N) _ (HA.out.below HB2.out) HO2.out.mat HT.out HCT.out HR.out HC.out m1 m2 c1 c2 (by omega) (by omega)).mono ?_
  rintro e w3 ⟨a3, cap3, rfl, ho3, hb3⟩
  have HB3 := Lib.hid (bnext HB2.out hb3)
  have HO3 := Lib.hid ho3
  clear ho3 hb3
  go_wp2_with fail
  refine (transposed _ _ _ 1 _ _ HO3.out.mat (rect_mk _ _ _) m1 m2 (by omega) (by omega)).mono ?_
  rintro e w4 ⟨a4, cap4, rfl, ho4, hb4⟩
  have HB4 := Lib.hid (bnext HB3.out hb4)
  obtain ⟨g, rr, rrc, rfl, hcr, hor⟩ := ho4.row0 (by omega)
  rw [HE2.out, HAL.out] at hcr hor
  have HOR := Lib.hid (hor.mono (show w.heap.size ≤ w3.heap.size from HB3.out.size))
  clear ho4 hb4 hor
  go_wp2
  go_ret
  exact ⟨_, _, rfl, HOR.out, HB4.out⟩






end Go.Proofs.Ytmcihaihbnnblab.V

namespace Go.Proofs.Ytmcihaihbnnblab.V
open Go.RowKit

set_option maxRecDepth 100000 in
set_option maxHeartbeats 400000 in
theorem isSquare (a : Option Addr) (n cap : Nat) (R : List (List Int)) (w : World) (h : Mat w a n R) :
    Calls Try.prog 44 #[.slice a n cap] w fun e w' => e = .returned (.bool (M.sqB R)) ∧ w = w' := by
  have HA := Lib.hid h
  have HL := Lib.hid h.1
  by_cases hR : M.isMat R = true
  · have HR := Lib.hid hR
    obtain ⟨m1, m2, c1, c2, -, -⟩ := M.isMat_t hR
    rw [h.1] at m1 m2
    obtain ⟨b, off, ra, L, rc, rfl, hL, hc⟩ := h.first (by omega)
    have HW := Lib.hid hL
    clear h hR hL c1 c2
    go_enter Try.func44, Try.ntmps44
    go_wp2_with fail
    refine (isMatrix_b _ _ _ R _ true HR.out HA.out).mono ?_
    rintro e w' ⟨rfl, rfl⟩
    go_wp2
    go_ret
    exact ⟨retB (by unfold M.sqB; rw [HR.out, HL.out, ← HW.out, Bool.true_and, Bool.eq_iff_iff]; simp; omega), rfl⟩
  · simp only [Bool.not_eq_true] at hR
    have HR := Lib.hid hR
    clear h hR
    go_enter Try.func44, Try.ntmps44
    go_wp2_with fail
    refine (isMatrix_b _ _ _ R _ false HR.out HA.out).mono ?_
    rintro e w' ⟨rfl, rfl⟩
    go_wp2
    go_ret
    exact ⟨retB (by unfold M.sqB; rw [HR.out, Bool.false_and]), rfl⟩
theorem isSquare_b (a : Option Addr) (n cap : Nat) (R : List (List Int)) (w : World) (b : Bool) (hb : M.sqB R = b) (h : Mat w a n R) :
    Calls Try.prog 44 #[.slice a n cap] w fun e w' => e = .returned (.bool b) ∧ w = w' := by
  subst hb; exact isSquare a n cap R w h

set_option maxRecDepth 100000 in
set_option maxHeartbeats 400000 in
theorem sSquare (a : Option Addr) (n cap : Nat) (R : List (List Int)) (w : World) (h : Mat w a n R) :
    Calls Try.prog 40 #[.slice a n cap] w fun e w' => e = .returned (.bool (M.sqB R)) ∧ ∃ q, w' = w.drewN q := by
  have HA := Lib.hid h
  have HL := Lib.hid h.1
  by_cases hR : M.isMat R = true
  · have HR := Lib.hid hR
    obtain ⟨m1, m2, c1, c2, -, -⟩ := M.isMat_t hR
    rw [h.1] at m1 m2
    obtain ⟨b, off, ra, L, rc, rfl, hL, hc⟩ := h.first (by omega)
    have HW := Lib.hid hL
    clear h hR hL c1 c2
    go_enter Try.func40, Try.ntmps40
    go_wp2_with fail
    refine (sIsMatrix_b _ _ _ R _ true HR.out HA.out).mono ?_
    rintro e w' ⟨rfl, q, rfl⟩
    go_wp2
    go_ret
    exact ⟨retB (by unfold M.sqB; rw [HR.out, HL.out, ← HW.out, Bool.true_and, Bool.eq_iff_iff]; simp; omega), q, rfl⟩
  · simp only [Bool.not_eq_true] at hR
    have HR := Lib.hid hR
    clear h hR
    go_enter Try.func40, Try.ntmps40
    go_wp2_with fail
    refine (sIsMatrix_b _ _ _ R _ false HR.out HA.out).mono ?_
    rintro e w' ⟨rfl, q, rfl⟩
    go_wp2
    go_ret
    exact ⟨retB (by unfold M.sqB; rw [HR.out, Bool.false_and]), q, rfl⟩
theorem sSquare_b (a : Option Addr) (n cap : Nat) (R : List (List Int)) (w : World) (b : Bool) (hb : M.sqB R = b) (h : Mat w a n R) :
    Calls Try.prog 40 #[.slice a n cap] w fun e w' => e = .returned (.bool b) ∧ ∃ q, w' = w.drewN q := by
  subst hb; exact sSquare a n cap R w h

set_option maxRecDepth 100000 in
set_option maxHeartbeats 400000 in
theorem areNodes (a : Option Addr) (n cap : Nat) (a' : Option Addr) (N cap' : Nat) (l : List Int) (w : World) (hn : n ≤ 1000) (h : Ints .i64 w a' N l) :
    Calls Try.prog 65 #[.slice a n cap, .slice a' N cap'] w fun e w' => e = .returned (.bool (M.nodesB n l)) ∧ w = w' := by
  obtain ⟨hl, hm, hr⟩ := h
  unfold maxLen at hm
  have HL := Lib.hid hl
  clear hl
  go_enter Try.func65, Try.ntmps65
  go_wp2
  go_loop [6, 9] (fun _ i => ∃ k : Nat, k ≤ N ∧ i = .int .i64 k ∧ Hid ((l.take k).all (M.inN n) = true)) (fun _ i => N - (intOf i).toNat)
  case atStart => exact ⟨0, Nat.zero_le _, rfl, rfl⟩
  case round =>
    obtain ⟨k, hk, rfl, HA⟩ := hrel
    by_cases hlt : k < N
    · rcases hr with h0 | ⟨b, off, rfl, hbl, hc⟩
      · omega
      · have hck := hc k hlt
        have hsn := M.take_snoc l k (by have := HL.out; omega)
        obtain ⟨x, hx⟩ : ∃ x, x = l.getD k 0 := ⟨_, rfl⟩
        rw [← hx] at hck hsn
        have HX := Lib.hid hx
        have HS := Lib.hid hsn
        clear hc hx hsn
        by_cases hv : M.inN n x = true
        · have HA2 : Hid ((l.take (k + 1)).all (M.inN n) = true) := by show _ = _; rw [HS.out, M.all_snoc, HA.out, hv]; rfl
          obtain ⟨v1, v2⟩ := M.inN_t hv
          clear hv
          go_wp2
          go_round
          case rel => exact ⟨k + 1, by omega, by go_num, HA2⟩
          case measure => simp [intOf]; omega
        · simp only [Bool.not_eq_true] at hv
          have HF : Hid (l.all (M.inN n) = false) := M.all_false _ l k (by have := HL.out; omega) (by rw [← HX.out]; exact hv)
          have hv := M.inN_f hv
          by_cases h0 : x < 0
          · go_wp2
            go_ret
            exact ⟨retB HF.out.symm, rfl⟩
          · have h1 : (n : Int) ≤ x := by omega
            have h2 : 0 ≤ x := by omega
            go_wp2
            go_ret
            exact ⟨retB HF.out.symm, rfl⟩
    · have hkn : k = N := by omega
      subst hkn
      have HT : Hid (l.take k = l) := M.take_all l k (by have := HL.out; omega)
      clear hr
      go_wp2
      go_ret
      exact ⟨retB (by have h2 := HA.out; rw [HT.out] at h2; exact h2.symm), rfl⟩
theorem areNodes_b (a : Option Addr) (n cap : Nat) (a' : Option Addr) (N cap' : Nat) (l : List Int) (w : World) (b : Bool) (hb : M.nodesB n l = b) (hn : n ≤ 1000) (h : Ints .i64 w a' N l) :
    Calls Try.prog 65 #[.slice a n cap, .slice a' N cap'] w fun e w' => e = .returned (.bool b) ∧ w = w' := by
  subst hb; exact areNodes a n cap a' N cap' l w hn h

end Go.Proofs.Ytmcihaihbnnblab.V
