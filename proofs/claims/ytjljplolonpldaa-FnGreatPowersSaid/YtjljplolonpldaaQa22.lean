/- Texts laid together: Ipe, OpenM. -/
import Derived.Test.YtjljplolonpldaaQa15
import Derived.StillTailTactics
import Derived.Test.YtjljplolonpldaaRows
import Derived.Test.YtjljplolonpldaaQa1
import Derived.Test.YtjljplolonpldaaQa2
import Derived.WalkKit
import Derived.ProofKit
import Derived.WalkSmall
import Derived.Deep.QuietTactic
import Derived.BigQuiet
import Derived.BigRegion
import Derived.Deep.Draws
import Derived.Deep.OwnRows
import Derived.Maps.AppendAt
import Derived.Deep.Onto
import Derived.Lib.Hide
import Derived.Test.YtjljplolonpldaaQa3
import Derived.Deep.Matrix
set_option linter.unusedSimpArgs false
set_option linter.unusedVariables false
set_option linter.unusedSectionVars false
namespace Go.Proofs.Ytjljplolonpldaa.V
set_option maxRecDepth 100000
open Go.RowKit
theorem wpStill_want {P : Program} {ops : Array Oper} {w : World} {Q : Act → Prop} {a : Act} {o : Oper} {rest : List Oper} (hg : o.guard = none) (h : ∀ K : Act → Prop, (∀ a, wpStill P ops w Q rest a → K a) → o.still P a w K) : wpStill P ops w Q (o :: rest) a :=
  wpStill_step fun K hK => by
    rw [if_pos (by simp [Region.wanted, hg])]
    exact h K hK
theorem still_loadV {P : Program} {K : Act → Prop} {o : Oper} {a : Act} {w : World} (ty : TypeId) (x : Operand) (b off : Nat) (v : Value) (ho : o.op = .load ty x) (hx : a.eval x = .pointer (some ⟨b, off, none⟩))
    (hr : (loadVar ty ⟨b, off, none⟩).run P w = .ok v w) (hk : K (a.put o.dst v)) : o.still P a w K := by
  unfold Oper.still execOp
  simp only [ho, hx, Instr.loadAt, Instr.sureAddr, Sem.run_bind, Sem.run_pure, Result.andThen_ok, hr]
  exact ⟨rfl, hk⟩
theorem agg_el (w : World) : (isAgg 93).run Try.prog w = .ok true w := by
  unfold isAgg
  rw [Sem.run_bind, run_underlying Try.underlying93 w]
  rfl
theorem size_el (w : World) : (sizeOf 93).run Try.prog w = .ok 101 w := by
  have : (Try.prog.info? 93).map (·.size) = some 101 := by kernel_rfl
  cases hq : Try.prog.info? 93 with
  | none => rw [hq] at this; cases this
  | some i => rw [hq] at this; simp at this; simp [sizeOf, typeInfo, hq, this]
theorem els_loadE {w : World} {B k i g c : Nat} {R F : List (List Int)} (h : w.ownsRow B 93 101 (.slice (some ⟨g, 0, none⟩) k c) k (elvs R F k)) (hi : i < k) :
    (loadVar 93 ⟨g, i * 101, none⟩).run Try.prog w = .ok (.agg (elV (M.sq7 R F i)).toArray) w := by
  have hl := elV_len (M.sq7 R F i)
  have h1 : (loadCellsFrom ⟨g, i * 101, none⟩ 0 101 #[]).run Try.prog w = .ok (elV (M.sq7 R F i)).toArray w := by
    have := run_loadCells_list (P := Try.prog) (w := w) ⟨g, i * 101, none⟩ (elV (M.sq7 R F i)) (fun t v hv => by
      have hadd : (⟨g, i * 101, none⟩ : Addr).add t = ⟨g, i * 101 + t, none⟩ := by unfold Addr.add; split <;> simp_all
      have ht : t < 101 := by
        have := (List.getElem?_eq_some_iff.1 hv).1
        omega
      rw [hadd, World.ownsRow.cellAt h _ (by omega), elvs_at R F i t (by omega) k hi]
      exact hv)
    rw [hl] at this
    simpa [loadCells] using this
  simp [loadVar, agg_el, size_el, loadCells, h1, Sem.run_bind, Result.andThen]
theorem ints_pair (w : World) (x y : Int) : Ints .i64 (w.alloc (.cells #[.int .i64 x, .int .i64 y] 2)) (some ⟨w.heap.size, 0, none⟩) 2 [x, y] := by
  refine ⟨rfl, by decide, .inr ⟨_, _, rfl, by simp, fun i hi => ?_⟩⟩
  rcases (show i = 0 ∨ i = 1 by omega) with rfl | rfl <;> simp
set_option maxRecDepth 100000 in
set_option maxHeartbeats 4000000 in
theorem powerEntry (a : Option Addr) (n cap : Nat) (R : List (List Int)) (N i j : Int) (w : World) (h : Mat w a n R) : Calls Try.prog 18 #[.slice a n cap, .int .i64 N, .int .i64 i, .int .i64 j] w (NPost (M.peRes R N i j) w) := by
  have HA := Lib.hid h
  by_cases hs : M.sqB R = true
  · have HS := Lib.hid hs
    have hRn : R.length = n := h.1
    obtain ⟨-, n1, n2, -⟩ := sq_parts7 h hs
    by_cases hN : 0 ≤ N ∧ N ≤ 100000
    · obtain ⟨N1, N2⟩ := hN
      obtain ⟨b2, hb2⟩ : ∃ b, b = M.nodesB n [i, j] := ⟨_, rfl⟩
      have HN := Lib.hid hb2.symm
      obtain ⟨Nn, rfl⟩ := Int.eq_ofNat_of_zero_le N1
      have k1 : ¬ ((Nn : Int) < 0) := by omega
      have k2 : ¬ (100000 < (Nn : Int)) := by omega
      cases b2 with
      | true =>
        have hno := hb2.symm
        simp only [M.nodesB, M.inN, List.all_cons, List.all_nil, Bool.and_true, Bool.and_eq_true, decide_eq_true_eq] at hno
        obtain ⟨⟨i1, i2⟩, j1, j2⟩ := hno
        obtain ⟨i, rfl⟩ := Int.eq_ofNat_of_zero_le i1
        obtain ⟨j, rfl⟩ := Int.eq_ofNat_of_zero_le j1
        have i2 : i < n := by omega
        have j2 : j < n := by omega
        have hNn : Nn ≤ 100000 := by omega
        have HE : Hid (M.peRes R Nn i j = if (M.fnd R (M.unitM n)).2.2.2 = 0 then M.chk (M.peVal R Nn i j (M.fnd R (M.unitM n)).1 (M.fnd R (M.unitM n)).2.1 (M.fnd R (M.unitM n)).2.2.1) else (0, (M.fnd R (M.unitM n)).2.2.2)) := by
          show _ = _
          unfold M.peRes
          rw [if_pos hs, if_pos ⟨N1, N2, by rw [hRn]; exact hb2.symm⟩, hRn]
        clear h hs hb2 i1 j1 N1 N2
        go_enter Try.func18, Try.ntmps18
        go_wp2_with (go_at_call 79; refine (isSquare_b _ _ _ R _ true HS.out HA.out).mono ?_; rintro e w' ⟨rfl, rfl⟩)
        go_wp2_with fail
        refine (areNodes_b _ n _ _ _ _ _ _ true HN.out (by omega) (ints_pair _ _ _)).mono ?_
        rintro e w' ⟨rfl, rfl⟩
        go_wp2_with fail
        refine (powersOf _ _ _ R _ (HA.out.below (b_alloc _ _)) n1 n2).mono ?_
        rintro e w2 ⟨p, rfl, hs⟩
        have HS3 := Lib.hid hs
        clear hs
        go_wp2_with fail
        refine (firstRepeat _ a n cap n R (M.unitM n) p _ (serB_unit (HA.out.below (b_alloc _ _)) HS.out) HS3.out (okTo_unit n1 n2)).mono ?_
        rintro e w4 ⟨s, c, g, d, hf, rfl, hb, hels⟩
        have HB4 := Lib.hid ((b_alloc w _).trans (hb.mono (b_alloc w _).size))
        have HE4 : Hid (M.peRes R Nn i j = if d = 0 then M.chk (M.peVal R Nn i j s c g) else (0, d)) := by
          show _ = _
          rw [HE.out, hf]
        by_cases hd : d = 0
        · subst hd
          obtain ⟨sn, cn, k, rfl, rfl, c1, hk, hk2, hok, hels2⟩ := hels rfl
          obtain ⟨g1, g2⟩ : -2000000 ≤ g ∧ g ≤ 2000000 := (M.fnd_bd (by omega) (by unfold M.unitM; simp; omega) (okTo_unit n1 n2 0 (Nat.le_refl _)) hf).2.2
          have hat := M.pe_bd (n := Nn) (s := sn) (c := cn) (k := k) c1 hk
          have hro := M.pe_ro (n := Nn) (s := sn) (c := cn) hNn
          have hmu := M.pe_mul hro.1 hro.2 g1 g2
          have hSB := serB_unit HA.out HS.out
          obtain ⟨q, hq⟩ : ∃ q, q = M.peAt Nn sn cn := ⟨_, rfl⟩
          obtain ⟨r, hr⟩ : ∃ r, r = M.peRo Nn sn cn := ⟨_, rfl⟩
          rw [← hq] at hat
          rw [← hr] at hro hmu
          obtain ⟨hrc, hvl⟩ := hSB.sq (hok q hat)
          obtain ⟨hb0, v0, v1, g3, c3, hrow, hown⟩ := hels2
          have hv := wid_val (hvl i j i2 j2)
          have hX : M.isMat (M.sq7 R (M.unitM n) q) = true := hok q hat
          have hil : i < (M.sq7 R (M.unitM n) q).length := by rw [hrc.1]; exact i2
          have hjw : j < M.wid (M.sq7 R (M.unitM n) q) := by rw [M.sq7_wid (by omega), M.wid_unit n1]; exact j2
          have hback := M.pat_back hX hil hjw
          have HEn := Lib.hid (fun w => elEntry (M.sq7 R (M.unitM n) q) i j w hX hil hjw)
          rw [hback] at HEn
          have HX : Hid (M.peRes R Nn i j = M.chk (M.times (M.ent (M.sq7 R (M.unitM n) q) i j) (r * g))) := by
            show _ = _
            rw [HE4.out, if_pos rfl]
            unfold M.peVal
            rw [HA.out.1, Int.toNat_natCast, Int.toNat_natCast, ← hq, ← hr]
          have HOw := Lib.hid hown
          have HRow := Lib.hid hrow
          have hqk : (q : Int) < (k : Int) + 1 := by omega
          have hcz : ¬ (cn : Int) = 0 := by omega
          have hsn : sn ≤ 100 := by omega
          have hcn : cn ≤ 100 := by omega
          have hwd : Wid (r * g) := wid_small hmu.1 hmu.2
          generalize M.ent (M.sq7 R (M.unitM n) q) i j = x at *
          clear hels hf hb hok hSB hrc hvl hb0 hrow hown hX hil hjw hback
          by_cases hlt : sn < Nn
          · obtain ⟨p1, p2⟩ := M.pe_great (c := cn) hlt
            rw [p1] at hr
            rw [p2] at hq
            obtain ⟨D, hD⟩ : ∃ D, D = Nn - sn := ⟨_, rfl⟩
            rw [← hD] at hr hq
            have hD1 : (Nn : Int) - (sn : Int) = (D : Int) := by omega
            have hD0 : (0 : Int) < (D : Int) := by omega
            have hDb : D ≤ 100000 := by omega
            have hD4 : Int.tdiv (D : Int) (cn : Int) = r := by rw [hr]; rfl
            obtain ⟨z, hz⟩ : ∃ z : Nat, z = D / cn * cn := ⟨_, rfl⟩
            have hzr : r * (cn : Int) = (z : Int) := by rw [hr, hz]; simp
            have hdm := Nat.div_add_mod D cn
            have hzq : (Nn : Int) - (z : Int) = (q : Int) := by
              have : cn * (D / cn) = D / cn * cn := Nat.mul_comm _ _
              omega
            have hzb : z ≤ 100000 := by omega
            have hw1 : IntKind.i64.wrap (z : Int) = (z : Int) := IntWalk.i64_in _ (by omega)
            have hwq : IntKind.i64.wrap (q : Int) = (q : Int) := IntWalk.i64_in _ (by omega)
            have hw2 : IntKind.i64.wrap ((Nn : Int) - (z : Int)) = (q : Int) := by rw [hzq]; exact IntWalk.i64_in _ (by omega)
            obtain ⟨y, hy⟩ : ∃ y, y = r * g := ⟨_, rfl⟩
            have hrg : r * g = y := hy.symm
            rw [← hy] at hwd hmu HX
            have hmu1 := hmu.1
            have hmu2 := hmu.2
            have hro1 := hro.1
            have hro2 := hro.2
            clear p1 p2 hlt hr hq hD hro hmu hz hdm hy
            go_wp2
            obtain ⟨w5, hw5⟩ : ∃ x, x = w4.alloc (.cells #[.int .i64 sn, .int .i64 cn, .int .i64 g] 85) := ⟨_, rfl⟩
            obtain ⟨qb, hqb⟩ : ∃ x, x = w4.heap.size := ⟨_, rfl⟩
            have hb5 : Below w4.heap.size w4 w5 := by rw [hw5]; exact b_alloc _ _
            have hg5 : w5.heap[qb]? = some (.cells #[.int .i64 sn, .int .i64 cn, .int .i64 g] 85 (0, 0)) := by rw [hw5, hqb]; exact heap_alloc_last _ _
            have l1 : w5.cell? ⟨qb, 1, none⟩ = some (.int .i64 cn) := by rw [cell_of_row _ _ _ _ _ _ hg5]; rfl
            have l2 : w5.cell? ⟨qb, 2, none⟩ = some (.int .i64 g) := by rw [cell_of_row _ _ _ _ _ _ hg5]; rfl
            have HOw5 := Lib.hid (ownE_keep (w' := w5) HOw.out fun j hj => hb5.block j (World.ownsRow.lt HOw.out j hj).2)
            have hr5 := World.rowIs.of_block (w' := w5) HRow.out (hb5.block p (World.rowIs.lt HRow.out))
            have s2 : w5.cell? ⟨p, 2, none⟩ = some (.slice (some ⟨g3, 0, none⟩) (k + 1) c3) := World.rowIs.cell hr5 (i := 2) (by omega)
            have HB5 := Lib.hid (HB4.out.trans (hb5.mono HB4.out.size))
            have HL5 : Hid (w5.cell? ⟨qb, 2, none⟩ = some (.int .i64 g) ∧ qb < w5.heap.size) := Lib.hid ⟨l2, by rw [hw5, hqb]; simp⟩
            have hL := els_loadE (w := w5) HOw5.out (show q < k + 1 by omega)
            have hLd := els_loadE (w := w5.drew) (ownE_keep HOw5.out fun _ _ => rfl) (show q < k + 1 by omega)
            rw [← hw5, ← hqb]
            clear hw5 hqb hb5 hg5 hr5
            refine wp_region_still_tail 14 (by kernel_rfl) (by kernel_rfl) ?_
            simp only [List.take_succ_cons, List.take_zero, List.drop_succ_cons, List.drop_zero]
            iterate 11 still_step
            refine wpStill_want rfl (fun K hK => still_loadV 93 (.tmp 60) g3 (q * 101) _ rfl (by go_simp) (by first | exact hL | exact hLd) (hK _ ?_))
            clear hK K
            simp only [Act.put, List.setIfInBounds_toArray, List.set_cons_succ, List.set_cons_zero]
            iterate 2 still_step
            refine wpStill_nil ?_
            change wpList _ _ _ _ _ w5.drew
            clear hL hLd
            go_wp2_with fail
            refine (HEn.out _).mono ?_
            rintro e w6 ⟨rfl, hb6⟩
            have HB6 := Lib.hid (HB5.out.drew.trans (hb6.mono HB5.out.size))
            have l2' : w6.cell? ⟨qb, 2, none⟩ = some (.int .i64 g) := (hb6.cell (p := ⟨qb, 2, none⟩) HL5.out.2).trans HL5.out.1
            clear hb6 l1 l2 s2
            go_wp2_with fail
            refine (timesW _ _ _ hv hwd).mono ?_
            rintro e w' ⟨rfl, rfl⟩
            go_wp2_with fail
            refine (checked _ _).mono ?_
            rintro e w' ⟨rfl, rfl⟩
            go_wp2
            go_ret2
            exact ⟨by rw [HX.out]; rfl, HB6.out⟩
          · obtain ⟨p1, p2⟩ := M.pe_small (c := cn) (show Nn ≤ sn by omega)
            rw [p1] at hr
            rw [p2] at hq
            subst hr
            subst hq
            rw [Int.zero_mul] at HX hwd
            have hw0 : IntKind.i64.wrap 0 = 0 := by kernel_rfl
            have hwq : IntKind.i64.wrap (q : Int) = (q : Int) := IntWalk.i64_in _ (by omega)
            clear p1 p2 hmu
            rcases Nat.lt_or_ge q sn with hl2 | hl2
            · have hD0 : (q : Int) - (sn : Int) < 0 := by omega
              clear hl2 hlt
              go_wp2
              obtain ⟨w5, hw5⟩ : ∃ x, x = w4.alloc (.cells #[.int .i64 sn, .int .i64 cn, .int .i64 g] 85) := ⟨_, rfl⟩
              obtain ⟨qb, hqb⟩ : ∃ x, x = w4.heap.size := ⟨_, rfl⟩
              have hb5 : Below w4.heap.size w4 w5 := by rw [hw5]; exact b_alloc _ _
              have hg5 : w5.heap[qb]? = some (.cells #[.int .i64 sn, .int .i64 cn, .int .i64 g] 85 (0, 0)) := by rw [hw5, hqb]; exact heap_alloc_last _ _
              have l1 : w5.cell? ⟨qb, 1, none⟩ = some (.int .i64 cn) := by rw [cell_of_row _ _ _ _ _ _ hg5]; rfl
              have l2 : w5.cell? ⟨qb, 2, none⟩ = some (.int .i64 g) := by rw [cell_of_row _ _ _ _ _ _ hg5]; rfl
              have HOw5 := Lib.hid (ownE_keep (w' := w5) HOw.out fun j hj => hb5.block j (World.ownsRow.lt HOw.out j hj).2)
              have hr5 := World.rowIs.of_block (w' := w5) HRow.out (hb5.block p (World.rowIs.lt HRow.out))
              have s2 : w5.cell? ⟨p, 2, none⟩ = some (.slice (some ⟨g3, 0, none⟩) (k + 1) c3) := World.rowIs.cell hr5 (i := 2) (by omega)
              have HB5 := Lib.hid (HB4.out.trans (hb5.mono HB4.out.size))
              have HL5 : Hid (w5.cell? ⟨qb, 2, none⟩ = some (.int .i64 g) ∧ qb < w5.heap.size) := Lib.hid ⟨l2, by rw [hw5, hqb]; simp⟩
              have hL := els_loadE (w := w5) HOw5.out (show q < k + 1 by omega)
              have hLd := els_loadE (w := w5.drew) (ownE_keep HOw5.out fun _ _ => rfl) (show q < k + 1 by omega)
              rw [← hw5, ← hqb]
              clear hw5 hqb hb5 hg5 hr5
              refine wp_region_still_tail 14 (by kernel_rfl) (by kernel_rfl) ?_
              simp only [List.take_succ_cons, List.take_zero, List.drop_succ_cons, List.drop_zero]
              iterate 11 still_step
              refine wpStill_want rfl (fun K hK => still_loadV 93 (.tmp 60) g3 (q * 101) _ rfl (by go_simp) (by first | exact hL | exact hLd) (hK _ ?_))
              clear hK K
              simp only [Act.put, List.setIfInBounds_toArray, List.set_cons_succ, List.set_cons_zero]
              iterate 2 still_step
              refine wpStill_nil ?_
              change wpList _ _ _ _ _ w5.drew
              clear hL hLd
              go_wp2_with fail
              refine (HEn.out _).mono ?_
              rintro e w6 ⟨rfl, hb6⟩
              have HB6 := Lib.hid (HB5.out.drew.trans (hb6.mono HB5.out.size))
              have l2' : w6.cell? ⟨qb, 2, none⟩ = some (.int .i64 g) := (hb6.cell (p := ⟨qb, 2, none⟩) HL5.out.2).trans HL5.out.1
              clear hb6 l1 l2 s2
              go_wp2_with fail
              refine (timesW _ _ _ hv hwd).mono ?_
              rintro e w' ⟨rfl, rfl⟩
              go_wp2_with fail
              refine (checked _ _).mono ?_
              rintro e w' ⟨rfl, rfl⟩
              go_wp2
              go_ret2
              exact ⟨by rw [HX.out]; rfl, HB6.out⟩
            · obtain rfl : sn = q := by omega
              clear hl2 hlt
              go_wp2
              obtain ⟨w5, hw5⟩ : ∃ x, x = w4.alloc (.cells #[.int .i64 sn, .int .i64 cn, .int .i64 g] 85) := ⟨_, rfl⟩
              obtain ⟨qb, hqb⟩ : ∃ x, x = w4.heap.size := ⟨_, rfl⟩
              have hb5 : Below w4.heap.size w4 w5 := by rw [hw5]; exact b_alloc _ _
              have hg5 : w5.heap[qb]? = some (.cells #[.int .i64 sn, .int .i64 cn, .int .i64 g] 85 (0, 0)) := by rw [hw5, hqb]; exact heap_alloc_last _ _
              have l1 : w5.cell? ⟨qb, 1, none⟩ = some (.int .i64 cn) := by rw [cell_of_row _ _ _ _ _ _ hg5]; rfl
              have l2 : w5.cell? ⟨qb, 2, none⟩ = some (.int .i64 g) := by rw [cell_of_row _ _ _ _ _ _ hg5]; rfl
              have HOw5 := Lib.hid (ownE_keep (w' := w5) HOw.out fun j hj => hb5.block j (World.ownsRow.lt HOw.out j hj).2)
              have hr5 := World.rowIs.of_block (w' := w5) HRow.out (hb5.block p (World.rowIs.lt HRow.out))
              have s2 : w5.cell? ⟨p, 2, none⟩ = some (.slice (some ⟨g3, 0, none⟩) (k + 1) c3) := World.rowIs.cell hr5 (i := 2) (by omega)
              have HB5 := Lib.hid (HB4.out.trans (hb5.mono HB4.out.size))
              have HL5 : Hid (w5.cell? ⟨qb, 2, none⟩ = some (.int .i64 g) ∧ qb < w5.heap.size) := Lib.hid ⟨l2, by rw [hw5, hqb]; simp⟩
              have hL := els_loadE (w := w5) HOw5.out (show sn < k + 1 by omega)
              have hLd := els_loadE (w := w5.drew) (ownE_keep HOw5.out fun _ _ => rfl) (show sn < k + 1 by omega)
              rw [← hw5, ← hqb]
              clear hw5 hqb hb5 hg5 hr5
              refine wp_region_still_tail 14 (by kernel_rfl) (by kernel_rfl) ?_
              simp only [List.take_succ_cons, List.take_zero, List.drop_succ_cons, List.drop_zero]
              iterate 11 still_step
              refine wpStill_want rfl (fun K hK => still_loadV 93 (.tmp 60) g3 (sn * 101) _ rfl (by go_simp) (by first | exact hL | exact hLd) (hK _ ?_))
              clear hK K
              simp only [Act.put, List.setIfInBounds_toArray, List.set_cons_succ, List.set_cons_zero]
              iterate 2 still_step
              refine wpStill_nil ?_
              change wpList _ _ _ _ _ w5.drew
              clear hL hLd
              go_wp2_with fail
              refine (HEn.out _).mono ?_
              rintro e w6 ⟨rfl, hb6⟩
              have HB6 := Lib.hid (HB5.out.drew.trans (hb6.mono HB5.out.size))
              have l2' : w6.cell? ⟨qb, 2, none⟩ = some (.int .i64 g) := (hb6.cell (p := ⟨qb, 2, none⟩) HL5.out.2).trans HL5.out.1
              clear hb6 l1 l2 s2
              go_wp2_with fail
              refine (timesW _ _ _ hv hwd).mono ?_
              rintro e w' ⟨rfl, rfl⟩
              go_wp2_with fail
              refine (checked _ _).mono ?_
              rintro e w' ⟨rfl, rfl⟩
              go_wp2
              go_ret2
              exact ⟨by rw [HX.out]; rfl, HB6.out⟩
        · have HE5 : Hid (M.peRes R Nn i j = (0, d)) := Lib.hid (HE4.out.trans (if_neg hd))
          clear hels hf hb
          go_wp2
          go_ret2
          exact ⟨by rw [HE5.out]; rfl, HB4.out.alloc HB4.out.size _⟩
      | false =>
        have HE : Hid (M.peRes R Nn i j = (0, 2)) := by
          show _ = _
          unfold M.peRes
          rw [if_pos hs, if_neg (by rw [hRn, ← hb2]; simp)]
        clear h hs hb2 N1 N2
        go_enter Try.func18, Try.ntmps18
        go_wp2_with (go_at_call 79; refine (isSquare_b _ _ _ R _ true HS.out HA.out).mono ?_; rintro e w' ⟨rfl, rfl⟩)
        go_wp2_with fail
        refine (areNodes_b _ n _ _ _ _ _ _ false HN.out (by omega) (ints_pair _ _ _)).mono ?_
        rintro e w' ⟨rfl, rfl⟩
        go_wp2
        go_ret2
        exact ⟨by rw [HE.out]; rfl, b_alloc _ _⟩
    · have HE : Hid (M.peRes R N i j = (0, 2)) := by
        show _ = _
        unfold M.peRes
        rw [if_pos hs, if_neg (by rintro ⟨z1, z2, -⟩; exact hN ⟨z1, z2⟩)]
      clear h hs
      by_cases q1 : N < 0
      · clear hN
        go_enter Try.func18, Try.ntmps18
        go_wp2_with (go_at_call 79; refine (isSquare_b _ _ _ R _ true HS.out HA.out).mono ?_; rintro e w' ⟨rfl, rfl⟩)
        go_ret2
        exact ⟨by rw [HE.out]; rfl, Below.refl _ _⟩
      · have q2 : 100000 < N := by omega
        clear hN
        go_enter Try.func18, Try.ntmps18
        go_wp2_with (go_at_call 79; refine (isSquare_b _ _ _ R _ true HS.out HA.out).mono ?_; rintro e w' ⟨rfl, rfl⟩)
        go_ret2
        exact ⟨by rw [HE.out]; rfl, Below.refl _ _⟩
  · have hs' : M.sqB R = false := by simpa using hs
    have HS := Lib.hid hs'
    have HE : Hid (M.peRes R N i j = (0, 1)) := by show _ = _; unfold M.peRes; rw [if_neg hs]
    clear h hs hs'
    go_enter Try.func18, Try.ntmps18
    go_wp2_with (go_at_call 79; refine (isSquare_b _ _ _ R _ false HS.out HA.out).mono ?_; rintro e w' ⟨rfl, rfl⟩)
    go_ret2
    exact ⟨by rw [HE.out]; rfl, Below.refl _ _⟩
end Go.Proofs.Ytjljplolonpldaa.V

namespace Go.Proofs.Ytjljplolonpldaa.V
open Go.RowKit Go.ChangeShapes Go.WideShapes Go.Deep

theorem mat_open {H : Type} {enc : TypeId × Value → H} {P : Program} {w : World} {base : Nat} {held : Bool} {t e q : TypeId} {fuel : Nat} {cs : List Value} {x : DataW H × List MemPlace} (ht : P.underlying t = some (.slice e)) (he : P.underlying e = some (.slice q)) (hq : P.underlying q = some (.int .i64))
    (ce : P.cellsOf e = 1) (cq : P.cellsOf q = 1) (h : DataW.trod enc P w base (fun _ => true) held fuel t cs = some x) :
    ∃ a len cap R, cs = [.slice a len cap] ∧ Mat w a len R := by
  rcases open_int_rows ht he hq ce cq h with ⟨rfl, -⟩ | ⟨a, len, cap, A, L, C, Z, rfl, hb, hl, hm, -, hr⟩
  · exact ⟨none, 0, 0, [], rfl, rfl, Nat.zero_le _, .inl rfl⟩
  · refine ⟨some a, len, cap, (List.range len).map fun r => (Z r).take (L r), rfl, by simp, by omega, ?_⟩
    by_cases h0 : len = 0
    · exact .inl h0
    · have hsp : a.spot = none := by
        have := (hr 0 (by omega)).1
        simpa [Addr.add] using World.cell?_spot this
      obtain ⟨b, off, spot⟩ := a
      simp only at hsp
      subst hsp
      refine .inr ⟨b, off, rfl, ?_, fun i hi => ?_⟩
      · have := cell_lt (hr 0 (by omega)).1
        simpa [Addr.add] using this
      · obtain ⟨h1, h2, h3, h4, h5, h6, h7⟩ := hr i (by omega)
        have eR : ((List.range len).map fun r => (Z r).take (L r)).getD i [] = (Z i).take (L i) := by simp [hi]
        rw [eR]
        have eL : ((Z i).take (L i)).length = L i := by rw [List.length_take]; omega
        rw [eL]
        refine ⟨A i, C i, by rw [← Go.WideShapes.add_plain]; exact h1, eL, by omega, ?_⟩
        by_cases hL : L i = 0
        · exact .inl hL
        · cases hA : A i with
          | none => have := h6 hA; omega
          | some a' =>
            obtain ⟨-, hc⟩ := h7 a' hA
            obtain ⟨b', off', rfl, hc'⟩ := ints_at (k := .i64) (zs := Z i) (fun j hj => hc j (by omega)) (by omega)
            refine .inr ⟨b', off', rfl, cell_lt (hc' 0 (by omega)), fun j hj => ?_⟩
            rw [hc' j (by omega)]
            simp [List.getD_eq_getElem?_getD, hj]
end Go.Proofs.Ytjljplolonpldaa.V
