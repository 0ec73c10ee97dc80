/- The sum of two matrices, in the program. -/
import Derived.Test.YtfdckijililomaaRows
import Derived.Test.YtfdckijililomaaMath1
import Derived.Test.YtfdckijililomaaList
import Derived.Test.YtfdckijililomaaMatM
import Derived.Test.YtfdckijililomaaHelp
import Derived.Test.YtfdckijililomaaRows0
import Derived.Test.YtfdckijililomaaOwn
import Derived.Test.YtfdckijililomaaMat0
import Derived.WalkKit
import Derived.ProofKit
import Derived.WalkSmall
import Derived.Deep.QuietTactic
import Derived.BigQuiet
import Derived.BigRegion
import Derived.Deep.Draws
import Derived.Lib.Hide
import Derived.OpenShut
import Derived.Deep.OwnRows
import Derived.Test.YtfdckijililomaaVals0
import Derived.Test.YtfdckijililomaaApp
import Derived.Test.YtfdckijililomaaSBot
import Derived.Test.YtfdckijililomaaVec
import Derived.Test.YtfdckijililomaaIsMat
import Derived.StillTailTactics
namespace Go.Proofs.Ytfdckijililomaa.V
open Go.RowKit

set_option maxRecDepth 100000 in
set_option maxHeartbeats 400000 in
theorem clPlus (a b : Int) (w : World) : Calls Try.prog 174 #[.int .i64 a, .int .i64 b] w fun e w' => e = .returned (.int .i64 (max a b)) ∧ w = w' := by
  go_enter Try.func174, Try.ntmps174
  go_wp2_with (first | (go_at_call 175; refine (plus _ _ _).mono ?_; rintro e w' ⟨rfl, rfl⟩))
  go_ret
  exact ⟨rfl, rfl⟩

/-- The pair of operations. -/
theorem maxPlus (w : World) : Calls Try.prog 139 #[] w fun e w' => e = .returned (.agg #[.func (.func 174) #[] #[], .func (.func 176) #[] #[]]) ∧ Below w.heap.size w w' := by
  have hst : ∀ (w : World) (a : Addr) (f : Fn), (store a (.func f #[] #[])).run Try.prog w = stored Try.prog w a (.func f #[] #[]) .plain := fun w a f => run_store _ w a _ _ rfl
  go_enter Try.func139, Try.ntmps139
  go_wp2
  exact bodyPost_ret (v := .agg #[.func (.func 174) #[] #[], .func (.func 176) #[] #[]]) (by simp [results, Try.results139, go_sem]) rfl ⟨rfl, b_alloc _ _⟩

theorem fld0 (w : World) (f g : Fn) : (Instr.field 115 (.agg #[.func f #[] #[], .func g #[] #[]]) 0).run Try.prog w = .ok (.func f #[] #[]) w := by
  simp [Instr.field, part, asAgg, go_sem]
set_option maxRecDepth 100000 in
set_option maxHeartbeats 400000 in
theorem addMatrices_ok (a : Option Addr) (n cap : Nat) (R : List (List Int)) (a' : Option Addr) (n' cap' : Nat) (R' : List (List Int)) (w : World) (h : Mat w a n R) (h' : Mat w a' n' R') (hR : M.isMat R = true) (hR' : M.isMat R' = true) (hl : n = n') (hw : M.wid R = M.wid R') :
    Calls Try.prog 78 #[.slice a n cap, .slice a' n' cap'] w (MRes (M.addM R R', 0) w) := by
  subst hl
  have HA := Lib.hid h
  have HA' := Lib.hid h'
  have HL := Lib.hid h.1
  have HL' := Lib.hid h'.1
  have HR := Lib.hid hR
  have HR' := Lib.hid hR'
  obtain ⟨m1, m2, c1, c2, -, -⟩ := M.isMat_t hR
  rw [h.1] at m1 m2
  obtain ⟨b, off, ra, L, rc, rfl, hL, hc⟩ := h.first (by omega)
  obtain ⟨b', off', ra', L', rc', rfl, hL', hc'⟩ := h'.first (by omega)
  rw [← hw] at hL'
  obtain rfl : L = L' := hL.trans hL'.symm
  rw [← hL] at c1 c2
  have HW := Lib.hid hL
  have HW' := Lib.hid (hL.trans hw)
  have hmk := run_make_row' (P := Try.prog) 24 30 (.slice none 0 0) 24 Try.underlying24 infoS64 rfl .i64 .i64 n (by omega) (by omega)
  have hmk2 := run_make_row' (P := Try.prog) 30 2 (.int .i64 0) 8 Try.underlying30 info64 rfl .i64 .i64 L (by omega) (by omega)
  have hfld := fld0
  have HF : Hid (M.mk n L (fun i j => max (M.ent R i j) (M.ent R' i j)) = M.addM R R') := by show _ = _; unfold M.addM; rw [h.1, ← hL]
  clear h h' hR hR' hw hL hL'
  go_enter Try.func78, Try.ntmps78
  go_wp2_with fail
  refine (isMatrix_b _ _ _ R _ true HR.out HA.out).mono ?_
  rintro e w' ⟨rfl, rfl⟩
  go_wp2_with fail
  refine (isMatrix_b _ _ _ R' _ true HR'.out HA'.out).mono ?_
  rintro e w' ⟨rfl, rfl⟩
  go_wp2_with fail
  go_quiet (fail)
  go_wp2_with fail
  refine (maxPlus _).mono ?_
  rintro e w1 ⟨rfl, hb1⟩
  have HB1 : Hid (Below w.heap.size w w1) := (b_draws w _).trans hb1
  clear hb1 hc hc'
  have hO0 : Hid (OwnM (w1.alloc (.cells (madeCells #[.slice none 0 0] n) 30)) w1.heap.size (.slice (some ⟨w1.heap.size, 0, none⟩) n n) (M.part n L (fun i j => max (M.ent R i j) (M.ent R' i j)) 0)) := by
    rw [M.part_zero]; exact ownM_made w1 _ n (Nat.le_refl _) (by unfold maxLen; omega)
  have HB0 := Lib.hid (HB1.out.alloc HB1.out.size (.cells (madeCells #[.slice none 0 0] n) 30))
  go_wp2
  go_loopw [41] (fun i wr => ∃ k : Nat, k ≤ n ∧ i = .int .i64 k ∧ OwnM wr w1.heap.size (.slice (some ⟨w1.heap.size, 0, none⟩) n n) (M.part n L (fun i j => max (M.ent R i j) (M.ent R' i j)) k) ∧ Below w.heap.size w wr) (fun i _ => n - (intOf i).toNat)
  case atStart => exact ⟨0, Nat.zero_le _, rfl, hO0.out, HB0.out⟩
  case round =>
    obtain ⟨k, hk, rfl, hO, hb⟩ := hrel
    obtain ⟨wo, rfl⟩ : ∃ x, x = wr := ⟨_, rfl⟩
    have HO := Lib.hid hO
    have HB := Lib.hid hb
    clear hO hb hO0 HB0
    by_cases hlt : k < n
    · have hki : (k : Int) < (n : Int) := by omega
      obtain ⟨b2, off2, ra2, rc2, L2, l2, hbb, -, hl2, hc2, hI2⟩ := (HA.out.below HB.out).at k hlt
      injection hbb with hbb
      injection hbb with e1 e2
      subst e1 e2
      have e3 : L2 = L := by rw [← hI2.1, hl2, HW.out]; exact M.isMat_len HR.out (by have := HL.out; omega)
      subst e3
      clear hl2 hI2
      have hg := HO.out.lt rfl
      have hsz := HB.out.size
      obtain ⟨v0, hv0⟩ := HO.out.outer k hlt
      have hfz0 := HO.out.outerFz k
      have hO2 := HO.out.setRow (b_alloc wo (.cells (madeCells #[.int .i64 0] L2) 2)) (by have := HB1.out.size; omega) (own_made wo wo.heap.size L2 (Nat.le_refl _) (by unfold maxLen; omega)) k hlt
      rw [M.part_set] at hO2
      rw [World.setCell_alloc_past _ _ _ _ hg] at hO2
      have HO2 := Lib.hid hO2
      have hB2 := (((HB.out.alloc hsz (.cells (madeCells #[.int .i64 0] L2) 2))).setCell (p := ⟨w1.heap.size, k, none⟩) HB1.out.size (.slice (some ⟨wo.heap.size, 0, none⟩) L2 L2))
      rw [World.setCell_alloc_past _ _ _ _ hg] at hB2
      have HB2 := Lib.hid hB2
      clear hO2 hB2
      go_wp2
      clear hv0 hfz0 hc2 hg
      go_loopw [58] (fun j wr => ∃ t : Nat, t ≤ L2 ∧ j = .int .i64 t ∧ OwnM wr w1.heap.size (.slice (some ⟨w1.heap.size, 0, none⟩) n n) (M.part2 n L2 (fun i j => max (M.ent R i j) (M.ent R' i j)) k t) ∧ Below w.heap.size w wr) (fun j _ => L2 - (intOf j).toNat)
      case atStart => exact ⟨0, Nat.zero_le _, rfl, HO2.out, HB2.out⟩
      case round =>
        obtain ⟨t, ht, rfl, hO, hb⟩ := hrel
        have HOi := Lib.hid hO
        have HBi := Lib.hid hb
        clear hO hb HO2 HB2
        by_cases htl : t < L2
        · have hti : (t : Int) < (L2 : Int) := by omega
          have hkR : k < R.length := by have := HL.out; omega
          have hkR' : k < R'.length := by have := HL'.out; omega
          obtain ⟨g, q, L3, c3, x3, hgg, hg3, hq3, hL3, hx3, c31, c32, f31, ho3⟩ := HOi.out.at k t hlt (by rw [M.part2_rowlen _ _ _ _ _ hlt]; exact htl)
          injection hgg with hgg
          injection hgg with hgg
          subst hgg
          rw [M.part2_rowlen _ _ _ _ _ hlt] at hL3
          subst hL3
          obtain ⟨d, od, rd, ro, L4, c4, x4, hdd, hL4, hx4, c41, c42⟩ := (HA.out.below HBi.out).ent k t hlt (by rw [M.isMat_len HR.out hkR, ← HW.out]; exact htl)
          injection hdd with hdd
          injection hdd with e1 e2
          subst e1 e2
          rw [M.isMat_len HR.out hkR, ← HW.out] at hL4
          subst hL4
          obtain ⟨d, od, rd', ro', L5, c5, x5, hdd, hL5, hx5, c51, c52⟩ := (HA'.out.below HBi.out).ent k t hlt (by rw [M.isMat_len HR'.out hkR', ← HW'.out]; exact htl)
          injection hdd with hdd
          injection hdd with e1 e2
          subst e1 e2
          rw [M.isMat_len HR'.out hkR', ← HW'.out] at hL5
          subst hL5
          have HN : Hid (OwnM (wr.setCell ⟨q, t, none⟩ (.int .i64 (max x4 x5))) w1.heap.size (.slice (some ⟨w1.heap.size, 0, none⟩) n n) (M.part2 n L5 (fun i j => max (M.ent R i j) (M.ent R' i j)) k (t + 1))) :=
            (congrArg (OwnM _ _ _) (by rw [hx4, hx5]; exact M.part2_set _ _ (fun i j => max (M.ent R i j) (M.ent R' i j)) _ _ hlt)).mp (ho3 (max x4 x5))
          clear ho3 hx3 hx4 hx5 hkR hkR'
          go_wp2
          go_still_tail 22, (by kernel_rfl)
          still_call (st_of (clPlus _ _ _))
          repeat still_step
          refine wpStill_nil ?_
          change wpList _ _ _ _ _ wr.drew
          go_wp2
          go_roundw
          case rel => exact ⟨t + 1, by omega, by go_num, HN.out.keep (fun _ _ _ => rfl), HBi.out.drew.setCell (Nat.le_trans HB1.out.size hq3) _⟩
          case measure => simp [intOf]; omega
        · obtain rfl : t = L2 := by omega
          have hO2 := HOi.out
          rw [M.part2_end] at hO2
          have HO2 := Lib.hid hO2
          clear hO2
          go_wp2
          go_roundw
          case rel => exact ⟨k + 1, by omega, by go_num, HO2.out, HBi.out⟩
          case measure => simp [intOf]; omega
    · obtain rfl : k = n := by omega
      go_wp2
      go_ret2
      exact ⟨_, _, _, rfl, by rw [← HF.out, ← M.part_end]; exact HO.out.mono HB1.out.size, HB.out⟩
end Go.Proofs.Ytfdckijililomaa.V
