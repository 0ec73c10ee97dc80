/- Texts laid together: IsMat, IAdd, IAdd2, SAdd. -/
import Derived.Test.YtkilnneepnbckaaRows
import Derived.Test.YtkilnneepnbckaaQd1
import Derived.Test.YtkilnneepnbckaaQd2
import Derived.WalkKit
import Derived.ProofKit
import Derived.WalkSmall
import Derived.Deep.QuietTactic
import Derived.BigQuiet
import Derived.BigRegion
import Derived.Deep.Draws
import Derived.Lib.Hide
import Derived.OpenShut
import Derived.Deep.OwnRows
import Derived.Test.YtkilnneepnbckaaQd3
import Derived.StillTailTactics
set_option linter.unusedSimpArgs false
set_option linter.unusedVariables false
set_option linter.unusedSectionVars false
namespace Go.Proofs.Ytkilnneepnbckaa.V
open Go.RowKit

set_option maxRecDepth 100000 in
set_option maxHeartbeats 400000 in
theorem isMatrix (a : Option Addr) (n cap : Nat) (R : List (List Int)) (w : World) (h : Mat w a n R) :
    Calls Try.prog 67 #[.slice a n cap] w fun e w' => e = .returned (.bool (M.isMat R)) ∧ w = w' := by
  have HM := Lib.hid h
  have HL := Lib.hid h.1
  have hm := h.2.1
  unfold maxLen at hm
  clear h
  by_cases hz : 1 ≤ n ∧ n ≤ 10
  · have hd : (decide ((1 : Int) ≤ n) && decide ((n : Int) ≤ 10)) = true := by simp; omega
    obtain ⟨hz1, hz2⟩ := hz
    obtain ⟨b, off, ra0, rc0, L0, l0, rfl, hbl, hll0, hc0, hI0⟩ := HM.out.at 0 (by omega)
    have HW : Hid (L0 = M.wid R) := by show _ = _; rw [← hI0.1, hll0]; rfl
    rw [Nat.add_zero] at hc0
    clear hll0 hI0
    go_enter Try.func67, Try.ntmps67
    go_wp2_with (first | (go_at_call 65; refine (isSize _ _).mono ?_; rintro e w' ⟨rfl, rfl⟩))
    go_loop [4, 11] (fun _ i => ∃ k : Nat, k ≤ n ∧ i = .int .i64 k ∧ Hid (∀ i, i < k → M.okR R (R.getD i []) = true)) (fun _ i => n - (intOf i).toNat)
    case atStart => exact ⟨0, Nat.zero_le _, rfl, (fun i hi => absurd hi (Nat.not_lt_zero i))⟩
    case round =>
      obtain ⟨k, hk, rfl, HA⟩ := hrel
      by_cases hlt : k < n
      · obtain ⟨b', off', ra, rc, L, l, hbb, -, hll, hc, hI⟩ := HM.out.at k hlt
        injection hbb with hbb
        injection hbb with e1 e2
        subst e1 e2
        have hlen : l.length = L := hI.1
        have HI := Lib.hid hI
        have HLL := Lib.hid hll
        have HN := Lib.hid hlen
        clear hI hll hlen
        by_cases hLL : L = L0
        · subst hLL
          by_cases hv : M.isVec l = true
          · have HV := Lib.hid hv
            go_wp2_with (first | (go_at_call 89; refine (isVector _ _ _ l _ HI.out).mono ?_; rintro e w' ⟨rfl, rfl⟩))
            go_round
            case rel =>
              refine ⟨k + 1, by omega, by go_num, fun i hi => ?_⟩
              by_cases e : i = k
              · subst e; rw [← HLL.out]; exact M.okR_y HV.out (by rw [HN.out, HW.out])
              · exact HA.out i (by omega)
            case measure => simp [intOf]; omega
          · simp only [Bool.not_eq_true] at hv
            have HV := Lib.hid hv
            go_wp2_with (first | (go_at_call 89; refine (isVector _ _ _ l _ HI.out).mono ?_; rintro e w' ⟨rfl, rfl⟩))
            go_ret
            exact ⟨retB (M.isMat_bad k (by have := HL.out; omega) (by rw [← HLL.out]; exact M.okR_v HV.out)).symm, rfl⟩
        · have HLL0 := Lib.hid hLL
          go_wp2
          go_ret
          exact ⟨retB (M.isMat_bad k (by have := HL.out; omega) (by rw [← HLL.out]; exact M.okR_n (by rw [HN.out, ← HW.out]; exact HLL0.out))).symm, rfl⟩
      · have hkn : k = n := by omega
        subst hkn
        go_wp2
        go_ret
        exact ⟨retB (M.isMat_good (by have := HL.out; omega) (by have := HL.out; omega) (by have := HL.out; rw [this]; exact HA.out)).symm, rfl⟩
  · have hd : (decide ((1 : Int) ≤ n) && decide ((n : Int) ≤ 10)) = false := by rw [Bool.and_eq_false_iff]; simp; omega
    go_enter Try.func67, Try.ntmps67
    go_wp2_with (first | (go_at_call 65; refine (isSize _ _).mono ?_; rintro e w' ⟨rfl, rfl⟩))
    go_ret
    exact ⟨retB (M.isMat_no (by have := HL.out; omega)).symm, rfl⟩

set_option maxRecDepth 100000 in
set_option maxHeartbeats 400000 in
theorem sIsMatrix (a : Option Addr) (n cap : Nat) (R : List (List Int)) (w : World) (h : Mat w a n R) :
    Calls Try.prog 99 #[.slice a n cap] w fun e w' => e = .returned (.bool (M.isMat R)) ∧ ∃ q, w' = w.drewN q := by
  have HM := Lib.hid h
  have HL := Lib.hid h.1
  have hm := h.2.1
  unfold maxLen at hm
  clear h
  by_cases hz : 1 ≤ n ∧ n ≤ 10
  · obtain ⟨hz1, hz2⟩ := hz
    obtain ⟨b, off, ra0, rc0, L0, l0, rfl, hbl, hll0, hc0, hI0⟩ := HM.out.at 0 (by omega)
    have HW : Hid (L0 = M.wid R) := by show _ = _; rw [← hI0.1, hll0]; rfl
    rw [Nat.add_zero] at hc0
    clear hll0 hI0
    go_enter Try.func99, Try.ntmps99
    go_wp2
    go_loopw [3] (fun i wr => ∃ k : Nat, k ≤ n ∧ i = .int .i64 k ∧ Hid (∀ i, i < k → M.okR R (R.getD i []) = true) ∧ ∃ q, wr = w.drewN q) (fun i _ => n - (intOf i).toNat)
    case atStart => exact ⟨0, Nat.zero_le _, rfl, (fun i hi => absurd hi (Nat.not_lt_zero i)), 0, rfl⟩
    case round =>
      obtain ⟨k, hk, rfl, HA, q, rfl⟩ := hrel
      by_cases hlt : k < n
      · obtain ⟨b', off', ra, rc, L, l, hbb, -, hll, hc, hI⟩ := HM.out.at k hlt
        injection hbb with hbb
        injection hbb with e1 e2
        subst e1 e2
        have hlen : l.length = L := hI.1
        have HI := Lib.hid hI
        have HLL := Lib.hid hll
        have HN := Lib.hid hlen
        have hki : (k : Int) < (n : Int) := by omega
        clear hI hll hlen
        by_cases hv : M.isVec l = true
        · have HV := Lib.hid hv
          have HC : ∀ w : World, Ints .i64 w ra L l → Calls Try.prog 91 #[.slice ra L rc] w fun e w' => e = .returned (.bool true) ∧ w = w' := by
            intro w hI
            refine (sVector _ _ _ l _ hI).mono ?_
            rintro e w' ⟨rfl, rfl⟩
            exact ⟨by rw [HV.out], rfl⟩
          clear hv
          by_cases hLL : L = L0
          · subst hLL
            go_wp2
            go_quiet ((go_at_call 91; exact q_more_s (HC _ HI.out)))
            go_wp2
            go_roundw
            case rel =>
              refine ⟨k + 1, by omega, by go_num, fun i hi => ?_, _, rfl⟩
              by_cases e : i = k
              · subst e; rw [← HLL.out]; exact M.okR_y HV.out (by rw [HN.out, HW.out])
              · exact HA.out i (by omega)
            case measure => simp [intOf]; omega
          · have HLL0 := Lib.hid hLL
            have hne : (L == L0) = false := by simpa using hLL
            have hne2 : (L != L0) = true := by simpa using hLL
            go_wp2
            go_quiet ((go_at_call 91; exact q_more_s (HC _ HI.out)))
            go_wp2
            go_ret
            exact ⟨retB (M.isMat_bad k (by have := HL.out; omega) (by rw [← HLL.out]; exact M.okR_n (by rw [HN.out, ← HW.out]; exact HLL0.out))).symm, _, World.drewN_drewN _ _ _⟩
        · simp only [Bool.not_eq_true] at hv
          have HV := Lib.hid hv
          have HC : ∀ w : World, Ints .i64 w ra L l → Calls Try.prog 91 #[.slice ra L rc] w fun e w' => e = .returned (.bool false) ∧ w = w' := by
            intro w hI
            refine (sVector _ _ _ l _ hI).mono ?_
            rintro e w' ⟨rfl, rfl⟩
            exact ⟨by rw [HV.out], rfl⟩
          clear hv
          go_wp2
          go_quiet ((go_at_call 91; exact q_more_s (HC _ HI.out)))
          go_wp2
          go_ret
          exact ⟨retB (M.isMat_bad k (by have := HL.out; omega) (by rw [← HLL.out]; exact M.okR_v HV.out)).symm, _, World.drewN_drewN _ _ _⟩
      · have hkn : k = n := by omega
        subst hkn
        go_wp2
        go_ret
        exact ⟨retB (M.isMat_good (by have := HL.out; omega) (by have := HL.out; omega) (by have := HL.out; rw [this]; exact HA.out)).symm, _, rfl⟩
  · by_cases h0 : n = 0
    · subst h0
      go_enter Try.func99, Try.ntmps99
      go_wp2
      go_ret
      exact ⟨retB (M.isMat_no (by have := HL.out; omega)).symm, 0, rfl⟩
    · have h1 : 10 < n := by omega
      go_enter Try.func99, Try.ntmps99
      go_wp2
      go_ret
      exact ⟨retB (M.isMat_no (by have := HL.out; omega)).symm, 0, rfl⟩

theorem isMatrix_b (a : Option Addr) (n cap : Nat) (R : List (List Int)) (w : World) (b : Bool) (hb : M.isMat R = b) (h : Mat w a n R) :
    Calls Try.prog 67 #[.slice a n cap] w fun e w' => e = .returned (.bool b) ∧ w = w' := by
  subst hb
  exact isMatrix _ _ _ _ _ h
theorem checkedMatrix_t (a : Option Addr) (n cap : Nat) (R : List (List Int)) (w : World) (hb : M.isMat R = true) (h : Mat w a n R) :
    Calls Try.prog 98 #[.slice a n cap] w fun e w' => e = .returned (.tuple #[.slice a n cap, .int .i64 0]) ∧ w = w' := by
  have HA := Lib.hid h
  have HB := Lib.hid hb
  clear h hb
  go_enter Try.func98, Try.ntmps98
  go_wp2_with (go_at_call 67; refine (isMatrix_b _ _ _ R _ true HB.out HA.out).mono ?_; rintro e w' ⟨rfl, rfl⟩)
  go_ret2
  exact ⟨rfl, rfl⟩
theorem checkedMatrix_f (a : Option Addr) (n cap : Nat) (R : List (List Int)) (w : World) (hb : M.isMat R = false) (h : Mat w a n R) :
    Calls Try.prog 98 #[.slice a n cap] w fun e w' => e = .returned (.tuple #[.slice none 0 0, .int .i64 3]) ∧ w = w' := by
  have HA := Lib.hid h
  have HB := Lib.hid hb
  clear h hb
  go_enter Try.func98, Try.ntmps98
  go_wp2_with (go_at_call 67; refine (isMatrix_b _ _ _ R _ false HB.out HA.out).mono ?_; rintro e w' ⟨rfl, rfl⟩)
  go_ret2
  exact ⟨rfl, rfl⟩

theorem sIsMatrix_b (a : Option Addr) (n cap : Nat) (R : List (List Int)) (w : World) (b : Bool) (hb : M.isMat R = b) (h : Mat w a n R) :
    Calls Try.prog 99 #[.slice a n cap] w fun e w' => e = .returned (.bool b) ∧ ∃ q, w' = w.drewN q := by
  subst hb
  exact sIsMatrix _ _ _ _ _ h
theorem sIsMatrixB (a : Option Addr) (n cap : Nat) (R : List (List Int)) (w : World) (h : Mat w a n R) :
    Calls Try.prog 99 #[.slice a n cap] w fun e w' => e = .returned (.bool (M.isMat R)) ∧ Below w.heap.size w w' := by
  refine (sIsMatrix _ _ _ _ _ h).mono ?_
  rintro e w' ⟨rfl, q, rfl⟩
  exact ⟨rfl, b_draws _ _⟩
theorem sIsMatrixB_b (a : Option Addr) (n cap : Nat) (R : List (List Int)) (w : World) (b : Bool) (hb : M.isMat R = b) (h : Mat w a n R) :
    Calls Try.prog 99 #[.slice a n cap] w fun e w' => e = .returned (.bool b) ∧ Below w.heap.size w w' := by
  subst hb
  exact sIsMatrixB _ _ _ _ _ h
end Go.Proofs.Ytkilnneepnbckaa.V

namespace Go.Proofs.Ytkilnneepnbckaa.V
open Go.RowKit

set_option maxRecDepth 100000 in
set_option maxHeartbeats 400000 in
theorem clPlus (a b : Int) (w : World) : Calls Try.prog 108 #[.int .i64 a, .int .i64 b] w fun e w' => e = .returned (.int .i64 (max a b)) ∧ w = w' := by
  go_enter Try.func108, Try.ntmps108
  go_wp2_with (first | (go_at_call 109; refine (plus _ _ _).mono ?_; rintro e w' ⟨rfl, rfl⟩))
  go_ret
  exact ⟨rfl, rfl⟩

/-- The pair of operations. -/
theorem maxPlus (w : World) : Calls Try.prog 68 #[] w fun e w' => e = .returned (.agg #[.func (.func 108) #[] #[], .func (.func 110) #[] #[]]) ∧ Below w.heap.size w w' := by
  have hst : ∀ (w : World) (a : Addr) (f : Fn), (store a (.func f #[] #[])).run Try.prog w = stored Try.prog w a (.func f #[] #[]) .plain := fun w a f => run_store _ w a _ _ rfl
  go_enter Try.func68, Try.ntmps68
  go_wp2
  exact bodyPost_ret (v := .agg #[.func (.func 108) #[] #[], .func (.func 110) #[] #[]]) (by simp [results, Try.results68, go_sem]) rfl ⟨rfl, b_alloc _ _⟩

theorem fld0 (w : World) (f g : Fn) : (Instr.field 62 (.agg #[.func f #[] #[], .func g #[] #[]]) 0).run Try.prog w = .ok (.func f #[] #[]) w := by
  simp [Instr.field, part, asAgg, go_sem]
set_option maxRecDepth 100000 in
set_option maxHeartbeats 400000 in
theorem addMatrices_ok (a : Option Addr) (n cap : Nat) (R : List (List Int)) (a' : Option Addr) (n' cap' : Nat) (R' : List (List Int)) (w : World) (h : Mat w a n R) (h' : Mat w a' n' R') (hR : M.isMat R = true) (hR' : M.isMat R' = true) (hl : n = n') (hw : M.wid R = M.wid R') :
    Calls Try.prog 26 #[.slice a n cap, .slice a' n' cap'] w (MRes (M.addM R R', 0) w) := by
  subst hl
  have HA := Lib.hid h
  have HA' := Lib.hid h'
  have HL := Lib.hid h.1
  have HL' := Lib.hid h'.1
  have HR := Lib.hid hR
  have HR' := Lib.hid hR'
  obtain ⟨m1, m2, c1, c2, -, -⟩ := M.isMat_t hR
  rw [h.1] at m1 m2
  obtain ⟨b, off, ra, L, rc, rfl, hL, hc⟩ := h.first (by omega)
  obtain ⟨b', off', ra', L', rc', rfl, hL', hc'⟩ := h'.first (by omega)
  rw [← hw] at hL'
  obtain rfl : L = L' := hL.trans hL'.symm
  rw [← hL] at c1 c2
  have HW := Lib.hid hL
  have HW' := Lib.hid (hL.trans hw)
  have hmk := run_make_row' (P := Try.prog) 24 28 (.slice none 0 0) 24 Try.underlying24 infoS64 rfl .i64 .i64 n (by omega) (by omega)
  have hmk2 := run_make_row' (P := Try.prog) 28 2 (.int .i64 0) 8 Try.underlying28 info64 rfl .i64 .i64 L (by omega) (by omega)
  have hfld := fld0
  have HF : Hid (M.mk n L (fun i j => max (M.ent R i j) (M.ent R' i j)) = M.addM R R') := by show _ = _; unfold M.addM; rw [h.1, ← hL]
  clear h h' hR hR' hw hL hL'
  go_enter Try.func26, Try.ntmps26
  go_wp2_with fail
  refine (isMatrix_b _ _ _ R _ true HR.out HA.out).mono ?_
  rintro e w' ⟨rfl, rfl⟩
  go_wp2_with fail
  refine (isMatrix_b _ _ _ R' _ true HR'.out HA'.out).mono ?_
  rintro e w' ⟨rfl, rfl⟩
  go_wp2_with fail
  go_quiet (fail)
  go_wp2_with fail
  refine (maxPlus _).mono ?_
  rintro e w1 ⟨rfl, hb1⟩
  have HB1 : Hid (Below w.heap.size w w1) := (b_draws w _).trans hb1
  clear hb1 hc hc'
  have hO0 : Hid (OwnM (w1.alloc (.cells (madeCells #[.slice none 0 0] n) 28)) w1.heap.size (.slice (some ⟨w1.heap.size, 0, none⟩) n n) (M.part n L (fun i j => max (M.ent R i j) (M.ent R' i j)) 0)) := by
    rw [M.part_zero]; exact ownM_made w1 _ n (Nat.le_refl _) (by unfold maxLen; omega)
  have HB0 := Lib.hid (HB1.out.alloc HB1.out.size (.cells (madeCells #[.slice none 0 0] n) 28))
  go_wp2
  go_loopw [41] (fun i wr => ∃ k : Nat, k ≤ n ∧ i = .int .i64 k ∧ OwnM wr w1.heap.size (.slice (some ⟨w1.heap.size, 0, none⟩) n n) (M.part n L (fun i j => max (M.ent R i j) (M.ent R' i j)) k) ∧ Below w.heap.size w wr) (fun i _ => n - (intOf i).toNat)
  case atStart => exact ⟨0, Nat.zero_le _, rfl, hO0.out, HB0.out⟩
  case round =>
    obtain ⟨k, hk, rfl, hO, hb⟩ := hrel
    obtain ⟨wo, rfl⟩ : ∃ x, x = wr := ⟨_, rfl⟩
    have HO := Lib.hid hO
    have HB := Lib.hid hb
    clear hO hb hO0 HB0
    by_cases hlt : k < n
    · have hki : (k : Int) < (n : Int) := by omega
      obtain ⟨b2, off2, ra2, rc2, L2, l2, hbb, -, hl2, hc2, hI2⟩ := (HA.out.below HB.out).at k hlt
      injection hbb with hbb
      injection hbb with e1 e2
      subst e1 e2
      have e3 : L2 = L := by rw [← hI2.1, hl2, HW.out]; exact M.isMat_len HR.out (by have := HL.out; omega)
      subst e3
      clear hl2 hI2
      have hg := HO.out.lt rfl
      have hsz := HB.out.size
      obtain ⟨v0, hv0⟩ := HO.out.outer k hlt
      have hfz0 := HO.out.outerFz k
      have hO2 := HO.out.setRow (b_alloc wo (.cells (madeCells #[.int .i64 0] L2) 2)) (by have := HB1.out.size; omega) (own_made wo wo.heap.size L2 (Nat.le_refl _) (by unfold maxLen; omega)) k hlt
      rw [M.part_set] at hO2
      rw [World.setCell_alloc_past _ _ _ _ hg] at hO2
      have HO2 := Lib.hid hO2
      have hB2 := (((HB.out.alloc hsz (.cells (madeCells #[.int .i64 0] L2) 2))).setCell (p := ⟨w1.heap.size, k, none⟩) HB1.out.size (.slice (some ⟨wo.heap.size, 0, none⟩) L2 L2))
      rw [World.setCell_alloc_past _ _ _ _ hg] at hB2
      have HB2 := Lib.hid hB2
      clear hO2 hB2
      go_wp2
      clear hv0 hfz0 hc2 hg
      go_loopw [58] (fun j wr => ∃ t : Nat, t ≤ L2 ∧ j = .int .i64 t ∧ OwnM wr w1.heap.size (.slice (some ⟨w1.heap.size, 0, none⟩) n n) (M.part2 n L2 (fun i j => max (M.ent R i j) (M.ent R' i j)) k t) ∧ Below w.heap.size w wr) (fun j _ => L2 - (intOf j).toNat)
      case atStart => exact ⟨0, Nat.zero_le _, rfl, HO2.out, HB2.out⟩
      case round =>
        obtain ⟨t, ht, rfl, hO, hb⟩ := hrel
        have HOi := Lib.hid hO
        have HBi := Lib.hid hb
        clear hO hb HO2 HB2
        by_cases htl : t < L2
        · have hti : (t : Int) < (L2 : Int) := by omega
          have hkR : k < R.length := by have := HL.out; omega
          have hkR' : k < R'.length := by have := HL'.out; omega
          obtain ⟨g, q, L3, c3, x3, hgg, hg3, hq3, hL3, hx3, c31, c32, f31, ho3⟩ := HOi.out.at k t hlt (by rw [M.part2_rowlen _ _ _ _ _ hlt]; exact htl)
          injection hgg with hgg
          injection hgg with hgg
          subst hgg
          rw [M.part2_rowlen _ _ _ _ _ hlt] at hL3
          subst hL3
          obtain ⟨d, od, rd, ro, L4, c4, x4, hdd, hL4, hx4, c41, c42⟩ := (HA.out.below HBi.out).ent k t hlt (by rw [M.isMat_len HR.out hkR, ← HW.out]; exact htl)
          injection hdd with hdd
          injection hdd with e1 e2
          subst e1 e2
          rw [M.isMat_len HR.out hkR, ← HW.out] at hL4
          subst hL4
          obtain ⟨d, od, rd', ro', L5, c5, x5, hdd, hL5, hx5, c51, c52⟩ := (HA'.out.below HBi.out).ent k t hlt (by rw [M.isMat_len HR'.out hkR', ← HW'.out]; exact htl)
          injection hdd with hdd
          injection hdd with e1 e2
          subst e1 e2
          rw [M.isMat_len HR'.out hkR', ← HW'.out] at hL5
          subst hL5
          have HN : Hid (OwnM (wr.setCell ⟨q, t, none⟩ (.int .i64 (max x4 x5))) w1.heap.size (.slice (some ⟨w1.heap.size, 0, none⟩) n n) (M.part2 n L5 (fun i j => max (M.ent R i j) (M.ent R' i j)) k (t + 1))) :=
            (congrArg (OwnM _ _ _) (by rw [hx4, hx5]; exact M.part2_set _ _ (fun i j => max (M.ent R i j) (M.ent R' i j)) _ _ hlt)).mp (ho3 (max x4 x5))
          clear ho3 hx3 hx4 hx5 hkR hkR'
          go_wp2
          go_still_tail 22, (by kernel_rfl)
          still_call (st_of (clPlus _ _ _))
          repeat still_step
          refine wpStill_nil ?_
          change wpList _ _ _ _ _ wr.drew
          go_wp2
          go_roundw
          case rel => exact ⟨t + 1, by omega, by go_num, HN.out.keep (fun _ _ _ => rfl), HBi.out.drew.setCell (Nat.le_trans HB1.out.size hq3) _⟩
          case measure => simp [intOf]; omega
        · obtain rfl : t = L2 := by omega
          have hO2 := HOi.out
          rw [M.part2_end] at hO2
          have HO2 := Lib.hid hO2
          clear hO2
          go_wp2
          go_roundw
          case rel => exact ⟨k + 1, by omega, by go_num, HO2.out, HBi.out⟩
          case measure => simp [intOf]; omega
    · obtain rfl : k = n := by omega
      go_wp2
      go_ret2
      exact ⟨_, _, _, rfl, by rw [← HF.out, ← M.part_end]; exact HO.out.mono HB1.out.size, HB.out⟩
end Go.Proofs.Ytkilnneepnbckaa.V

namespace Go.Proofs.Ytkilnneepnbckaa.V
open Go.RowKit

set_option maxRecDepth 100000 in
set_option maxHeartbeats 1000000 in
theorem addMatrices (a : Option Addr) (n cap : Nat) (R : List (List Int)) (a' : Option Addr) (n' cap' : Nat) (R' : List (List Int)) (w : World) (h : Mat w a n R) (h' : Mat w a' n' R') :
    Calls Try.prog 26 #[.slice a n cap, .slice a' n' cap'] w (MRes (M.addRes R R') w) := by
  by_cases hR : M.isMat R = true
  · by_cases hR' : M.isMat R' = true
    · by_cases hl : n = n'
      · by_cases hw : M.wid R = M.wid R'
        · have e : M.addRes R R' = (M.addM R R', 0) := by
            unfold M.addRes; rw [hR, hR', if_pos (by rfl), if_pos ⟨by rw [h.1, h'.1, hl], hw⟩]
          rw [e]
          exact addMatrices_ok _ _ _ _ _ _ _ _ _ h h' hR hR' hl hw
        · have HE : Hid (M.addRes R R' = ([], 5)) := by
            show _ = _; unfold M.addRes; rw [hR, hR', if_pos (by rfl), if_neg (fun hh => hw hh.2)]
          subst hl
          have HA := Lib.hid h
          have HA' := Lib.hid h'
          have m1 := (M.isMat_t hR).1
          rw [h.1] at m1
          obtain ⟨b, off, ra, L, rc, rfl, hL, hc⟩ := h.first (by omega)
          obtain ⟨b', off', ra', L', rc', rfl, hL', hc'⟩ := h'.first (by omega)
          have hne : (L == L') = false := by rw [hL, hL']; simpa using hw
          have hne2 : (L != L') = true := by rw [hL, hL']; simpa using hw
          have HR := Lib.hid hR
          have HR' := Lib.hid hR'
          clear h h' hR hR' hw hL hL'
          go_enter Try.func26, Try.ntmps26
          go_wp2_with fail
          refine (isMatrix_b _ _ _ R _ true HR.out HA.out).mono ?_
          rintro e w' ⟨rfl, rfl⟩
          go_wp2_with fail
          refine (isMatrix_b _ _ _ R' _ true HR'.out HA'.out).mono ?_
          rintro e w' ⟨rfl, rfl⟩
          go_wp2_with fail
          go_quiet (fail)
          go_wp2
          go_ret2
          exact MRes.nil HE.out (b_draws _ _)
      · have HE : Hid (M.addRes R R' = ([], 5)) := by
          show _ = _; unfold M.addRes; rw [hR, hR', if_pos (by rfl), if_neg (fun hh => hl (by rw [← h.1, ← h'.1, hh.1]))]
        have HA := Lib.hid h
        have HA' := Lib.hid h'
        have HR := Lib.hid hR
        have HR' := Lib.hid hR'
        have hne : (n == n') = false := by simpa using hl
        have hne2 : (n != n') = true := by simpa using hl
        have hne3 : ((n : Int) != (n' : Int)) = true := by simp; omega
        clear h h' hR hR'
        go_enter Try.func26, Try.ntmps26
        go_wp2_with fail
        refine (isMatrix_b _ _ _ R _ true HR.out HA.out).mono ?_
        rintro e w' ⟨rfl, rfl⟩
        go_wp2_with fail
        refine (isMatrix_b _ _ _ R' _ true HR'.out HA'.out).mono ?_
        rintro e w' ⟨rfl, rfl⟩
        go_wp2_with fail
        go_quiet (fail)
        go_wp2
        go_ret2
        exact MRes.nil HE.out (b_draws _ _)
    · simp only [Bool.not_eq_true] at hR'
      have HE : Hid (M.addRes R R' = ([], 1)) := by
        show _ = _; unfold M.addRes; rw [hR, hR', if_neg (by simp)]
      have HA := Lib.hid h
      have HA' := Lib.hid h'
      have HR := Lib.hid hR
      have HR' := Lib.hid hR'
      clear h h' hR hR'
      go_enter Try.func26, Try.ntmps26
      go_wp2_with fail
      refine (isMatrix_b _ _ _ R _ true HR.out HA.out).mono ?_
      rintro e w' ⟨rfl, rfl⟩
      go_wp2_with fail
      refine (isMatrix_b _ _ _ R' _ false HR'.out HA'.out).mono ?_
      rintro e w' ⟨rfl, rfl⟩
      go_wp2
      go_ret2
      exact MRes.nil HE.out (Below.refl _ _)
  · simp only [Bool.not_eq_true] at hR
    have HE : Hid (M.addRes R R' = ([], 1)) := by
      show _ = _; unfold M.addRes; rw [hR, if_neg (by simp)]
    have HA := Lib.hid h
    have HR := Lib.hid hR
    clear h h' hR
    go_enter Try.func26, Try.ntmps26
    go_wp2_with fail
    refine (isMatrix_b _ _ _ R _ false HR.out HA.out).mono ?_
    rintro e w' ⟨rfl, rfl⟩
    go_wp2
    go_ret2
    exact MRes.nil HE.out (Below.refl _ _)
end Go.Proofs.Ytkilnneepnbckaa.V

namespace Go.Proofs.Ytkilnneepnbckaa.V
open Go.RowKit

theorem ints_cells {w : World} {b off n : Nat} {l : List Int} (hc : ∀ i, i < n → w.cell? ⟨b, off + i, none⟩ = some (.int .i64 (l.getD i 0))) (hl : l.length = n) : ∀ j u, (l.map (Value.int .i64))[j]? = some u → w.cell? ((⟨b, off, none⟩ : Addr).add j) = some u := by
  intro j u hj
  have hjn : j < n := by
    by_cases e : j < n
    · exact e
    · rw [List.getElem?_eq_none (by simp; omega)] at hj; cases hj
  rw [Go.WideShapes.add_plain, hc j hjn]
  rw [← hj]
  simp [show j < l.length by omega]

set_option maxRecDepth 100000 in
set_option maxHeartbeats 1000000 in
theorem sOwn (a : Option Addr) (n cap : Nat) (l : List Int) (w : World) (h : Ints .i64 w a n l) (h0 : 0 < n) (hn : n ≤ 1000) :
    Calls Try.prog 118 #[.slice a n cap] w fun e w' => ∃ b c, e = .returned (.slice b n c) ∧ Own w' w.heap.size (.slice b n c) l ∧ Below w.heap.size w w' := by
  obtain ⟨hl, hm, hr⟩ := h
  rcases hr with hr | ⟨b, off, rfl, hb, hc⟩
  · omega
  have HL := Lib.hid hl
  have HC := Lib.hid hc
  have HO : Hid (Own (w.alloc (.cells #[] 2)) w.heap.size (.slice (some ⟨w.heap.size, 0, none⟩) 0 0) []) := own_lit0 w _ (Nat.le_refl _)
  obtain ⟨i0, hi, hz0, hz1, hz2⟩ := info_parts info64
  clear hl hc hm
  have HI := Lib.hid hi
  clear hi
  go_enter Try.func118, Try.ntmps118
  go_wp2_with (at_builtin; refine wpList_append_own_at (w := w.alloc (.cells #[] 2)) rfl (.tmp 3) (.tmp 4) 28 rfl w.heap.size 2 i0 (.int .i64 0) 1 8 Try.underlying28 HI.out hz0 hz1 hz2 rfl (by decide) (.slice (some ⟨w.heap.size, 0, none⟩) 0 0) 0 [] rfl HO.out ⟨b, off, none⟩ n cap (l.map (Value.int .i64)) rfl ?c0 ?c1 ?c2 ?c3 ?c4 ?c5 ?_)
  case c0 => have := HL.out; simp [this]
  case c1 =>
    refine ints_cells (fun i hi' => ?_) HL.out
    rw [(b_alloc w _).cell (p := ⟨b, off + i, none⟩) hb]; exact HC.out i hi'
  case c2 => intro u hu; obtain ⟨x, _, rfl⟩ := List.mem_map.1 hu; rfl
  case c3 => unfold maxLen; omega
  case c4 => omega
  case c5 => simp
  intro v' w' ho hg hz hv
  have ho' : Own w' w.heap.size v' l := by
    show w'.ownsRow w.heap.size _ 1 v' l.length (l.map (Value.int .i64))
    rw [HL.out]
    simpa using ho
  obtain ⟨b', c', rfl, _⟩ := own_form ho'
  rw [HL.out] at ho' ⊢
  have HB : Hid (Below w.heap.size w w') := (b_alloc w _).grown hg (by simp) (fun k hk => by simp [Value.ownBlock] at hk; omega)
  have HO' := Lib.hid ho'
  clear ho ho' hg hz hv
  go_wp2
  go_ret
  exact ⟨_, _, rfl, HO'.out, HB.out⟩

set_option maxRecDepth 100000 in
set_option maxHeartbeats 1000000 in
theorem sOwnM (a : Option Addr) (n cap : Nat) (R : List (List Int)) (w : World) (h : Mat w a n R) (hn : n ≤ 1000) (h0 : ∀ i, i < n → 0 < (R.getD i []).length ∧ (R.getD i []).length ≤ 1000) :
    Calls Try.prog 123 #[.slice a n cap] w (MPost n R w) := by
  have HA := Lib.hid h
  have HL := Lib.hid h.1
  have H0 := Lib.hid h0
  have hO0 : Hid (OwnM (w.alloc (.cells #[] 28)) w.heap.size (.slice (some ⟨w.heap.size, 0, none⟩) 0 0) []) := ownM_lit0 w _ (Nat.le_refl _)
  clear h h0
  go_enter Try.func123, Try.ntmps123
  go_wp2
  go_loopw [3, 4] (fun out i wr => ∃ k : Nat, k ≤ n ∧ i = .int .i64 k ∧ ∃ b c, out = .slice b k c ∧ OwnM wr w.heap.size (.slice b k c) (R.take k) ∧ Below w.heap.size w wr) (fun _ i _ => n - (intOf i).toNat)
  case atStart => exact ⟨0, Nat.zero_le _, rfl, _, _, rfl, hO0.out, b_alloc _ _⟩
  case round =>
    obtain ⟨k, hk, rfl, b, c, rfl, hO, hb⟩ := hrel
    have HO := Lib.hid hO
    have HB := Lib.hid hb
    clear hO hb hO0
    by_cases hlt : k < n
    · have hki : (k : Int) < (n : Int) := by omega
      obtain ⟨d, od, ra, rc, L, l, rfl, -, hl, hc, hI⟩ := (HA.out.below HB.out).at k hlt
      have hz := H0.out k hlt
      rw [← hl, hI.1] at hz
      obtain ⟨z1, z2⟩ := hz
      have HI := Lib.hid hI
      have HLl := Lib.hid hl
      clear hI hl
      go_wp2_with fail
      refine (sOwn _ _ _ l _ HI.out z1 z2).mono ?_
      rintro e w1 ⟨b1, c1, rfl, ho1, hb1⟩
      have HO1 := Lib.hid ho1
      have HB1 := Lib.hid hb1
      clear ho1 hb1
      have hs1 := HB.out.size
      have hlen := HO.out.len
      have HLn := Lib.hid hlen
      clear hlen
      go_wp2_with (at_builtin; refine appendRow wr _ rfl (.tmp 12) (.tmp 18) rfl w.heap.size _ _ _ _ k HO.out.len.symm rfl HO.out HB1.out HO1.out rfl (by rw [← HLn.out]; omega) hs1 ?_)
      intro b2 c2 w2 hO2 hb2 _
      have HO2 : Hid (OwnM w2 w.heap.size (.slice b2 (k + 1) c2) (R.take (k + 1))) := by
        show OwnM _ _ _ _
        rw [List.take_succ_eq_append_getElem (by have := HL.out; omega)]
        rw [HLl.out] at hO2
        simpa [show k < R.length by have := HL.out; omega] using hO2
      have HB2 := Lib.hid (HB.out.trans ((HB1.out.mono hs1).trans hb2))
      clear hO2 hb2
      go_wp2
      go_roundw
      case rel => exact ⟨k + 1, by omega, by go_num, _, _, rfl, HO2.out, HB2.out⟩
      case measure => simp [intOf]; omega
    · obtain rfl : k = n := by omega
      have hO2 := HO.out
      rw [List.take_of_length_le (by have := HL.out; omega)] at hO2
      have HO2 := Lib.hid hO2
      clear hO2
      go_wp2
      go_ret
      exact ⟨_, _, rfl, HO2.out, HB.out⟩

set_option maxRecDepth 100000 in
set_option maxHeartbeats 4000000 in
theorem sAddB (a : Option Addr) (n cap : Nat) (R : List (List Int)) (a' : Option Addr) (cap' : Nat) (R' : List (List Int)) (L : Nat) (w : World) (h : Mat w a n R) (h' : Mat w a' n R') (hr : Rect R n L) (hr' : Rect R' n L) (m1 : 1 ≤ n) (m2 : n ≤ 10) (c1 : 1 ≤ L) (c2 : L ≤ 10) :
    Calls Try.prog 100 #[.slice a n cap, .slice a' n cap'] w (MPost n (M.mk n L (fun i j => max (M.ent R i j) (M.ent R' i j))) w) := by
  have HA := Lib.hid h
  have HA' := Lib.hid h'
  have HL := Lib.hid h.1
  have HL' := Lib.hid h'.1
  have HR := Lib.hid hr
  have HR' := Lib.hid hr'
  have HE : Hid (R = M.mk n L (M.ent R)) := by
    show _ = _
    rw [← hr.1]
    exact (M.mk_self R L (fun i hi => hr.2 i (by rw [← hr.1]; exact hi))).symm
  have H0 : Hid (∀ i, i < n → 0 < (R.getD i []).length ∧ (R.getD i []).length ≤ 1000) := fun i hi => by
    rw [hr.2 i hi]; omega
  clear h h' hr hr'
  go_enter Try.func100, Try.ntmps100
  go_wp2_with fail
  refine (sOwnM _ _ _ R _ HA.out (by omega) H0.out).mono ?_
  rintro e w1 ⟨a2, cap2, rfl, ho, hb⟩
  have hO0 : OwnM w1 w.heap.size (.slice a2 n cap2) (M.mk n L (fun i j => if i < 0 then max (M.ent R i j) (M.ent R' i j) else M.ent R i j)) := by
    rw [HE.out] at ho
    exact (congrArg (OwnM _ _ _) (M.mk_congr fun i _ j _ => by rw [if_neg (Nat.not_lt_zero i)])).mp ho
  have HO0 := Lib.hid hO0
  have HB0 := Lib.hid hb
  clear ho hb hO0
  go_wp2
  go_loopw [6] (fun i wr => ∃ k : Nat, k ≤ n ∧ i = .int .i64 k ∧ OwnM wr w.heap.size (.slice a2 n cap2) (M.mk n L (fun i j => if i < k then max (M.ent R i j) (M.ent R' i j) else M.ent R i j)) ∧ Below w.heap.size w wr) (fun i _ => n - (intOf i).toNat)
  case atStart => exact ⟨0, Nat.zero_le _, rfl, HO0.out, HB0.out⟩
  case round =>
    obtain ⟨k, hk, rfl, hO, hb⟩ := hrel
    obtain ⟨wo, rfl⟩ : ∃ x, x = wr := ⟨_, rfl⟩
    have HO := Lib.hid hO
    have HB := Lib.hid hb
    clear hO hb HO0 HB0
    by_cases hlt : k < n
    · have hki : (k : Int) < (n : Int) := by omega
      have HO2 : Hid (OwnM wo w.heap.size (.slice a2 n cap2) (M.mk n L (fun i j => if i < k ∨ (i = k ∧ j < 0) then max (M.ent R i j) (M.ent R' i j) else M.ent R i j))) :=
        (congrArg (OwnM _ _ _) (M.mk_congr fun i _ j _ => by
          by_cases e : i < k
          · rw [if_pos e, if_pos (.inl e)]
          · rw [if_neg e, if_neg (by omega)])).mp HO.out
      go_wp2
      go_loopw [7] (fun j wr => ∃ t : Nat, t ≤ L ∧ j = .int .i64 t ∧ OwnM wr w.heap.size (.slice a2 n cap2) (M.mk n L (fun i j => if i < k ∨ (i = k ∧ j < t) then max (M.ent R i j) (M.ent R' i j) else M.ent R i j)) ∧ Below w.heap.size w wr) (fun j _ => L - (intOf j).toNat)
      case atStart => exact ⟨0, Nat.zero_le _, rfl, HO2.out, HB.out⟩
      case round =>
        obtain ⟨t, ht, rfl, hO, hb⟩ := hrel
        have HOi := Lib.hid hO
        have HBi := Lib.hid hb
        clear hO hb HO2 HB HO
        by_cases htl : t < L
        · have hti : (t : Int) < (L : Int) := by omega
          have hkR' : k < R'.length := by have := HL'.out; omega
          obtain ⟨g, q, L3, c3, x3, rfl, hg3, hq3, hL3, hx3, c31, c32, f31, ho3⟩ := HOi.out.at k t hlt (by rw [M.mk_rowlen _ _ _ _ hlt]; exact htl)
          rw [M.mk_rowlen _ _ _ _ hlt] at hL3
          subst hL3
          obtain ⟨d, od, rd', ro', L5, c5, x5, rfl, hL5, hx5, c51, c52⟩ := (HA'.out.below HBi.out).ent k t hlt (by rw [HR'.out.2 k hlt]; exact htl)
          rw [HR'.out.2 k hlt] at hL5
          subst hL5
          rw [M.mk_ent _ _ _ _ _ hlt htl, if_neg (by omega)] at hx3
          have HN : Hid (OwnM (wr.setCell ⟨q, t, none⟩ (.int .i64 (if x3 < x5 then x5 else x3))) w.heap.size (.slice (some ⟨g, 0, none⟩) n cap2) (M.mk n L5 (fun i j => if i < k ∨ (i = k ∧ j < t + 1) then max (M.ent R i j) (M.ent R' i j) else M.ent R i j))) := by
            refine (congrArg (OwnM _ _ _) ?_).mp (ho3 (if x3 < x5 then x5 else x3))
            rw [M.mk_set _ _ _ _ _ _ hlt]
            refine M.mk_congr fun i _ j _ => ?_
            by_cases e : i = k
            · subst e
              rw [if_pos rfl]
              by_cases e2 : j = t
              · subst e2; rw [if_pos rfl, ← M.ifmax, if_pos (.inr ⟨rfl, by omega⟩), hx3, hx5]; rfl
              · rw [if_neg e2]
                by_cases e3 : j < t
                · rw [if_pos (.inr ⟨rfl, e3⟩), if_pos (.inr ⟨rfl, by omega⟩)]
                · rw [if_neg (by omega), if_neg (by omega)]
            · rw [if_neg e]
              by_cases e3 : i < k
              · rw [if_pos (.inl e3), if_pos (.inl e3)]
              · rw [if_neg (by omega), if_neg (by omega)]
          clear ho3 hx3 hx5 hkR'
          go_wp2
          go_still_tail 21, (by kernel_rfl)
          change wpList _ _ _ _ _ wr.drew
          go_wp2
          first
            | exact ⟨⟨t + 1, by omega, by go_num, HN.out.keep (fun _ _ _ => rfl), HBi.out.drew.setCell hq3 _⟩, by simp [intOf]; omega⟩
            | (have HN2 := HN.out
               rw [← M.ifmax] at HN2
               exact ⟨⟨t + 1, by omega, by go_num, HN2.keep (fun _ _ _ => rfl), HBi.out.drew.setCell hq3 _⟩, by simp [intOf]; omega⟩)
        · obtain rfl : t = L := by omega
          have HO2 : Hid (OwnM wr w.heap.size (.slice a2 n cap2) (M.mk n t (fun i j => if i < k + 1 then max (M.ent R i j) (M.ent R' i j) else M.ent R i j))) :=
            (congrArg (OwnM _ _ _) (M.mk_congr fun i _ j hj => by
              by_cases e : i < k + 1
              · rw [if_pos e, if_pos (by omega)]
              · rw [if_neg e, if_neg (by omega)])).mp HOi.out
          obtain ⟨g, o, ra, rc, L3, l3, rfl, -, hl3, hc3, hI3⟩ := HOi.out.mat.at k hlt
          have e3 : L3 = t := by rw [← hI3.1, hl3, M.mk_rowlen _ _ _ _ hlt]
          subst e3
          clear hl3 hI3
          go_wp2
          go_roundw
          case rel => exact ⟨k + 1, by omega, by go_num, HO2.out, HBi.out⟩
          case measure => simp [intOf]; omega
    · obtain rfl : k = n := by omega
      go_wp2
      go_ret
      refine ⟨_, _, rfl, ?_, HB.out⟩
      exact (congrArg (OwnM _ _ _) (M.mk_congr fun i hi j _ => by rw [if_pos hi])).mp HO.out
theorem sAddM (a : Option Addr) (n cap : Nat) (R : List (List Int)) (a' : Option Addr) (n' cap' : Nat) (R' : List (List Int)) (w : World) (h : Mat w a n R) (h' : Mat w a' n' R') (hR : M.isMat R = true) (hR' : M.isMat R' = true) (hl : n = n') (hw : M.wid R = M.wid R') :
    Calls Try.prog 100 #[.slice a n cap, .slice a' n' cap'] w (MPost n (M.addM R R') w) := by
  subst hl
  obtain ⟨m1, m2, c1, c2, -, -⟩ := M.isMat_t hR
  have e1 := h.1
  have e2 := h'.1
  have t1 := rect_mat hR
  have t2 := rect_mat hR'
  rw [e1] at t1 m1 m2
  rw [e2, ← hw] at t2
  have := sAddB a n cap R a' cap' R' _ w h h' t1 t2 m1 m2 c1 c2
  unfold M.addM
  rw [e1]
  exact this

end Go.Proofs.Ytkilnneepnbckaa.V
