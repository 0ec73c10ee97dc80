/- Texts laid together: Lvc. -/
import Derived.Test.YtlofnadpgnbmdaaGreatQa19
import Derived.Test.YtlofnadpgnbmdaaGreatQa4
import Derived.Test.YtlofnadpgnbmdaaGreatQa24
import Derived.Deep.RegionWith
import Derived.Deep.RegionHeld3
set_option linter.unusedSimpArgs false
set_option linter.unusedVariables false
set_option linter.unusedSectionVars false
namespace Go.Proofs.YtlofnadpgnbmdaaGreat.V
set_option maxRecDepth 100000
open Go.RowKit
theorem OwnM.rowNe {w : World} {B n cap g i q L c : Nat} {R : List (List Int)} (h : OwnM w B (.slice (some ⟨g, 0, none⟩) n cap) R) (hi : i < n) (hc : w.cell? ⟨g, i, none⟩ = some (.slice (some ⟨q, 0, none⟩) L c)) : g ≠ q := by
  have e := h.len
  subst e
  obtain ⟨V, h1, h2, h3, h4, h5⟩ := h
  have hV := World.ownsRow.cellAt h2 i (by omega)
  rw [hc] at hV
  have hq : (V.getD i (.slice none 0 0)).ownBlock = some q := by
    rw [List.getD_eq_getElem?_getD, ← hV]; rfl
  have := h4 i (by omega) q hq
  intro e
  exact this (by rw [e]; rfl)
/-- What a region keeps that fills an entry: the place's box, the matrix's row. -/
def WS (wB : World) (X o i q N c : Nat) (p0 p1 p2 p3 : Int) (w' : World) : Prop :=
  w'.cell? ⟨X, 0, none⟩ = some (.int .i64 p0) ∧ w'.cell? ⟨X, 1, none⟩ = some (.int .i64 p1) ∧ w'.cell? ⟨X, 2, none⟩ = some (.int .i64 p2) ∧ w'.cell? ⟨X, 3, none⟩ = some (.int .i64 p3) ∧ w'.cell? ⟨o, i, none⟩ = some (.slice (some ⟨q, 0, none⟩) N c) ∧ Below wB.heap.size wB w'
theorem WS.below {wB w1 w2 : World} {X o i q N c : Nat} {p0 p1 p2 p3 : Int} (h : WS wB X o i q N c p0 p1 p2 p3 w1) (hb : Below w1.heap.size w1 w2) : WS wB X o i q N c p0 p1 p2 p3 w2 := by
  obtain ⟨h0, h1, h2, h3, h4, h5⟩ := h
  exact ⟨(hb.cell (cell_lt h0)).trans h0, (hb.cell (cell_lt h1)).trans h1, (hb.cell (cell_lt h2)).trans h2, (hb.cell (cell_lt h3)).trans h3, (hb.cell (cell_lt h4)).trans h4, h5.trans (hb.mono h5.size)⟩
theorem WS.store {wB w1 : World} {X o i q N c j : Nat} {p0 p1 p2 p3 y : Int} (h : WS wB X o i q N c p0 p1 p2 p3 w1) (hX : X ≠ q) (ho : o ≠ q) (hB : wB.heap.size ≤ q) : WS wB X o i q N c p0 p1 p2 p3 (w1.setCell ⟨q, j, none⟩ (.int .i64 y)) := by
  obtain ⟨h0, h1, h2, h3, h4, h5⟩ := h
  have hk : ∀ k, k ≠ q → (w1.setCell ⟨q, j, none⟩ (.int .i64 y)).heap[k]? = w1.heap[k]? := fun k hk => Below.heap_setCell _ _ _ _ (by show k ≠ q; omega)
  refine ⟨(World.cell?_of_block (a := ⟨X, 0, none⟩) (hk X hX)).trans h0, (World.cell?_of_block (a := ⟨X, 1, none⟩) (hk X hX)).trans h1, (World.cell?_of_block (a := ⟨X, 2, none⟩) (hk X hX)).trans h2, (World.cell?_of_block (a := ⟨X, 3, none⟩) (hk X hX)).trans h3, (World.cell?_of_block (a := ⟨o, i, none⟩) (hk o ho)).trans h4, h5.setCell (p := ⟨q, j, none⟩) (by show wB.heap.size ≤ q; omega) _⟩
theorem WS.drew {wB w1 : World} {X o i q N c : Nat} {p0 p1 p2 p3 : Int} (h : WS wB X o i q N c p0 p1 p2 p3 w1) : WS wB X o i q N c p0 p1 p2 p3 w1.drew := by
  obtain ⟨h0, h1, h2, h3, h4, h5⟩ := h
  exact ⟨h0, h1, h2, h3, h4, h5.drew⟩
set_option maxRecDepth 100000 in
set_option maxHeartbeats 400000 in
theorem fOneC (p0 p1 p2 p3 : Int) (w : World) : Calls Tryz.prog 173 #[.agg #[.int .i64 p0, .int .i64 p1, .int .i64 p2, .int .i64 p3]] w fun e w' => e = .returned (.int .i64 (M.fOne (p0, p1, p2, p3))) ∧ Below w.heap.size w w' := by
  by_cases h : p3 > 0
  · have HE : Hid (M.fOne (p0, p1, p2, p3) = -1000000000000000) := if_pos h
    have h' : 0 < p3 := h
    go_enter Tryz.func173, Tryz.ntmps173
    go_wp2
    go_ret
    exact ⟨by rw [HE.out]; rfl, b_alloc _ _⟩
  · have HE : Hid (M.fOne (p0, p1, p2, p3) = 1) := if_neg h
    have h' : ¬ 0 < p3 := h
    go_enter Tryz.func173, Tryz.ntmps173
    go_wp2
    go_ret
    exact ⟨by rw [HE.out]; rfl, b_alloc _ _⟩
/-- A valid graph's places. -/
theorem gr_at {N : Nat} {l : List M.Pc} (hg : M.isGr (N : Int) l = true) {k : Nat} (hk : k < l.length) {p0 p1 p2 p3 : Int} (hp : l.getD k M.pz = (p0, p1, p2, p3)) : ∃ i j : Nat, i < N ∧ j < N ∧ p1 = (i : Int) ∧ p0 = (j : Int) ∧ 0 ≤ p2 ∧ p2 ≤ 1000 ∧ 0 ≤ p3 ∧ p3 ≤ 5 := by
  unfold M.isGr at hg
  simp only [Bool.and_eq_true, List.all_eq_true] at hg
  have hm : l.getD k M.pz ∈ l := by rw [List.getD_eq_getElem?_getD, List.getElem?_eq_getElem hk]; exact List.getElem_mem hk
  have := hg.2.2 _ hm
  rw [hp] at this
  unfold M.plW M.inB at this
  simp only [Bool.and_eq_true, decide_eq_true_eq] at this
  obtain ⟨⟨a1, a2⟩, ⟨b1, b2⟩, ⟨c1, c2⟩, d1, d2⟩ := this
  exact ⟨p1.toNat, p0.toNat, by omega, by omega, by omega, by omega, c1, c2, d1, d2⟩
theorem gr_N {N : Nat} {l : List M.Pc} (hg : M.isGr (N : Int) l = true) : 1 ≤ N ∧ N ≤ 10 ∧ l.length ≤ 30 := by
  unfold M.isGr M.inB at hg
  simp only [Bool.and_eq_true, decide_eq_true_eq] at hg
  obtain ⟨⟨h1, h2⟩, h3, -⟩ := hg
  exact ⟨by omega, by omega, h3⟩
set_option maxRecDepth 100000 in
set_option maxHeartbeats 4000000 in
theorem weightedOne (N : Nat) (a : Option Addr) (n cap : Nat) (l : List M.Pc) (w : World) (h : Pls w a n l) (hg : M.isGr (N : Int) l = true) :
    Calls Tryz.prog 69 #[.agg #[.int .i64 N, .slice a n cap], .func (.func 173) #[] #[]] w (MPost N (M.wtM M.fOne N l) w) := by
  have HI := Lib.hid h
  have HL : Hid (l.length = n) := h.1
  have HG := Lib.hid hg
  obtain ⟨n1, n2, hl30⟩ := gr_N hg
  have hn30 : n ≤ 30 := by rw [h.1] at hl30; exact hl30
  have hb0 := b_alloc w (.cells #[.int .i64 N, .slice a n cap] 26)
  have hGb := gBox_new w N a n cap 26
  obtain ⟨wb, hwb⟩ : ∃ z, z = w.alloc (.cells #[.int .i64 N, .slice a n cap] 26) := ⟨_, rfl⟩
  rw [← hwb] at hb0 hGb
  have HGb := Lib.hid hGb
  have HB0 := Lib.hid hb0
  obtain ⟨g0, g1⟩ := hGb
  have HFill : Hid (M.mk N N (fun _ _ => -1000000000000000) = M.wtM M.fOne N (l.take 0)) := by show _ = _; rfl
  clear h hg hl30 hb0
  go_enter Tryz.func69, Tryz.ntmps69
  go_wp2_with fail
  rw [← hwb]
  clear hwb
  refine (filled N N _ wb n1 n2 n1 n2).mono ?_
  rintro e w1 ⟨b, c, rfl, ho, hb⟩
  rw [HFill.out] at ho
  have HO1 := Lib.hid (ho.mono HB0.out.size)
  have HB1 := Lib.hid (HB0.out.trans (hb.mono HB0.out.size))
  clear g0 g1
  obtain ⟨g0, g1⟩ := HGb.out.below hb
  clear ho hb
  go_wp2
  clear g0 g1
  go_loopw [16] (fun kv wr => ∃ k : Nat, k ≤ n ∧ kv = .int .i64 k ∧ Hid (OwnM wr w.heap.size (.slice b N c) (M.wtM M.fOne N (l.take k))) ∧ Hid (Below w.heap.size w wr)) (fun kv _ => n - (intOf kv).toNat)
  case atStart => exact ⟨0, Nat.zero_le _, rfl, HO1, HB1⟩
  case round =>
    obtain ⟨k, hk, rfl, HO, HB⟩ := hrel
    obtain ⟨wo, rfl⟩ : ∃ x, x = wr := ⟨_, rfl⟩
    clear HO1 HB1
    by_cases hkl : k < n
    · have hki : (k : Int) < (n : Int) := by omega
      obtain ⟨pb, off, p0, p1, p2, p3, rfl, -, hp, c0, c1, c2, c3⟩ := (HI.out.below HB.out).at k hkl
      obtain ⟨i, j, hi, hj, rfl, rfl, t2, t2', t3, t3'⟩ := gr_at HG.out (by rw [HL.out]; exact hkl) hp
      have hij : (i : Int) < (N : Int) := by omega
      have hjj : (j : Int) < (N : Int) := by omega
      have hrow : ((M.wtM M.fOne N (l.take k)).getD i []).length = N := M.mk_rowlen _ _ _ _ hi
      obtain ⟨o, q, L, rc, y, rfl, ho1, hq1, hL, hy, m1, m2, m3, m4⟩ := HO.out.at i j hi (by rw [hrow]; exact hj)
      rw [hrow] at hL
      replace hL := hL.symm
      subst hL
      have hne := HO.out.rowNe hi m1
      have hyv : y = M.wtF M.fOne (l.take k) i j := by rw [hy]; exact M.ent_mk _ _ _ _ _ hi hj
      have hN := M.wtM_next M.fOne N l (k := k) (by rw [HL.out]; exact hkl) hp hi rfl rfl
      obtain ⟨v, hv⟩ : ∃ v, v = M.fOne ((j : Int), (i : Int), p2, p3) := ⟨_, rfl⟩
      rw [← hyv, ← hv] at hN
      have HNx := Lib.hid hN
      have HC : Hid (∀ w, Calls Tryz.prog 173 #[.agg #[.int .i64 j, .int .i64 i, .int .i64 p2, .int .i64 p3]] w fun e w' => e = .returned (.int .i64 v) ∧ Below w.heap.size w w') := fun w => by rw [hv]; exact fOneC _ _ _ _ w
      have hol := cell_lt m1
      have hql := cell_lt m2
      have HSz := Lib.hid HB.out.size
      obtain ⟨wp, hwp⟩ : ∃ z, z = wo.alloc (.cells #[.int .i64 j, .int .i64 i, .int .i64 p2, .int .i64 p3] 71) := ⟨_, rfl⟩
      have hbp : Below wo.heap.size wo wp := by rw [hwp]; exact b_alloc wo _
      have HWS : Hid (WS w wo.heap.size o i q N rc (j : Int) (i : Int) p2 p3 wp) := ⟨by rw [hwp]; simp [go_sem], by rw [hwp]; simp [go_sem], by rw [hwp]; simp [go_sem], by rw [hwp]; simp [go_sem], (hbp.cell hol).trans m1, HB.out.trans (hbp.mono HSz.out)⟩
      have HWp := Lib.hid hwp.symm
      have HBp := Lib.hid hbp
      have HM1 := Lib.hid m1
      have HRw := Lib.hid hrow
      have e1 : wp.cell? ⟨q, j, none⟩ = some (.int .i64 y) := (hbp.cell hql).trans m2
      have e2 : wp.frozen? ⟨q, j, none⟩ = false := (hbp.frozen hql).trans m3
      clear hp hv hN hy hyv hrow m4 hwp hbp
      have HFin : Hid (∀ wx, Below wp.heap.size wp wx → Hid (OwnM (wx.setCell ⟨q, j, none⟩ (.int .i64 (if y < v then v else y))) w.heap.size (.slice (some ⟨o, 0, none⟩) N c) (M.wtM M.fOne N (l.take (k + 1))))) := fun wx hbx => by
        show OwnM _ _ _ _
        have hbx' : Below wo.heap.size wo wx := HBp.out.trans (hbx.mono HBp.out.size)
        rw [← HNx.out, show max y v = if y < v then v else y from by split <;> omega]
        exact (HO.out.below hbx').put hi (by rw [HRw.out]; exact hj) ((hbx'.cell (cell_lt HM1.out)).trans HM1.out) _
      have HBt : Hid (∀ wx z, Below wp.heap.size wp wx → Hid (Below w.heap.size w (wx.setCell ⟨q, j, none⟩ (.int .i64 z)))) := fun wx z hbx => ((HB.out.trans (HBp.out.mono HSz.out)).trans (hbx.mono (Nat.le_trans HSz.out HBp.out.size))).setCell (p := ⟨q, j, none⟩) hq1 _
      go_wp2
      rw [HWp.out]
      refine wp_region_held_drew (S := fun w' => w'.cell? ⟨wo.heap.size, 0, none⟩ = some (.int .i64 j) ∧ w'.cell? ⟨wo.heap.size, 1, none⟩ = some (.int .i64 i) ∧ w'.cell? ⟨wo.heap.size, 2, none⟩ = some (.int .i64 p2) ∧ w'.cell? ⟨wo.heap.size, 3, none⟩ = some (.int .i64 p3) ∧ w'.cell? ⟨o, i, none⟩ = some (.slice (some ⟨q, 0, none⟩) N rc) ∧ Below w.heap.size w w') (by kernel_rfl) ?hS (fun hHeld => ?_)
      case hS => exact HWS.out.drew
      refine wpAnyH_take (i := 0) (v := ?v0) rfl (by kernel_rfl) (by kernel_rfl) (by kernel_rfl) (fun _ _ _ h => h) (Or.inl ⟨by rfl, ?hy0⟩) (by assumption) ?rest0
      case hy0 => (intro wy hSw; (try dsimp only at hSw); obtain ⟨s0, s1, s2, s3, s4, s5⟩ := hSw; go_simp; try with_reducible rfl)
      (try simp only [Act.put, List.setIfInBounds_toArray, List.set_cons_zero, List.set_cons_succ])
      refine wpAnyH_take (i := 1) (v := ?v1) rfl (by kernel_rfl) (by kernel_rfl) (by kernel_rfl) (fun _ _ _ h => h) (Or.inl ⟨by rfl, ?hy1⟩) (by assumption) ?rest1
      case hy1 => (intro wy hSw; (try dsimp only at hSw); obtain ⟨s0, s1, s2, s3, s4, s5⟩ := hSw; go_simp; try with_reducible rfl)
      (try simp only [Act.put, List.setIfInBounds_toArray, List.set_cons_zero, List.set_cons_succ])
      refine wpAnyH_take (i := 2) (v := ?v2) rfl (by kernel_rfl) (by kernel_rfl) (by kernel_rfl) (fun _ _ _ h => h) (Or.inl ⟨by rfl, ?hy2⟩) (by assumption) ?rest2
      case hy2 => (intro wy hSw; (try dsimp only at hSw); obtain ⟨s0, s1, s2, s3, s4, s5⟩ := hSw; go_simp; try with_reducible rfl)
      (try simp only [Act.put, List.setIfInBounds_toArray, List.set_cons_zero, List.set_cons_succ])
      refine wpAnyH_take (i := 3) (v := ?v3) rfl (by kernel_rfl) (by kernel_rfl) (by kernel_rfl) (fun _ _ _ h => h) (Or.inl ⟨by rfl, ?hy3⟩) (by assumption) ?rest3
      case hy3 => (intro wy hSw; (try dsimp only at hSw); obtain ⟨s0, s1, s2, s3, s4, s5⟩ := hSw; go_simp; try with_reducible rfl)
      (try simp only [Act.put, List.setIfInBounds_toArray, List.set_cons_zero, List.set_cons_succ])
      refine wpAnyH_take (i := 4) (v := ?v4) rfl (by kernel_rfl) (by kernel_rfl) (by kernel_rfl) (fun _ _ _ h => h) (Or.inl ⟨by rfl, ?hy4⟩) (by assumption) ?rest4
      case hy4 => (intro wy hSw; (try dsimp only at hSw); obtain ⟨s0, s1, s2, s3, s4, s5⟩ := hSw; go_simp; try with_reducible rfl)
      (try simp only [Act.put, List.setIfInBounds_toArray, List.set_cons_zero, List.set_cons_succ])
      refine wpAnyH_take (i := 5) (v := ?v5) rfl (by kernel_rfl) (by kernel_rfl) (by kernel_rfl) (fun _ _ _ h => h) (Or.inl ⟨by rfl, ?hy5⟩) (by assumption) ?rest5
      case hy5 => (intro wy hSw; (try dsimp only at hSw); obtain ⟨s0, s1, s2, s3, s4, s5⟩ := hSw; go_simp; try with_reducible rfl)
      (try simp only [Act.put, List.setIfInBounds_toArray, List.set_cons_zero, List.set_cons_succ])
      refine wpAnyH_take (i := 6) (v := ?v6) rfl (by kernel_rfl) (by kernel_rfl) (by kernel_rfl) (fun _ _ _ h => h) (Or.inl ⟨by rfl, ?hy6⟩) (by assumption) ?rest6
      case hy6 => (intro wy hSw; (try dsimp only at hSw); obtain ⟨s0, s1, s2, s3, s4, s5⟩ := hSw; go_simp; try with_reducible rfl)
      (try simp only [Act.put, List.setIfInBounds_toArray, List.set_cons_zero, List.set_cons_succ])
      refine wpAnyH_take (i := 7) (v := ?v7) rfl (by kernel_rfl) (by kernel_rfl) (by kernel_rfl) (fun _ _ _ h => h) (Or.inl ⟨by rfl, ?hy7⟩) (by assumption) ?rest7
      case hy7 => (intro wy hSw; (try dsimp only at hSw); obtain ⟨s0, s1, s2, s3, s4, s5⟩ := hSw; go_simp; try with_reducible rfl)
      (try simp only [Act.put, List.setIfInBounds_toArray, List.set_cons_zero, List.set_cons_succ])
      refine wpAnyH_take (i := 8) (v := ?v8) rfl (by kernel_rfl) (by kernel_rfl) (by kernel_rfl) (fun _ _ _ h => h) (Or.inl ⟨by rfl, ?hy8⟩) (by assumption) ?rest8
      case hy8 => (intro wy hSw; (try dsimp only at hSw); obtain ⟨s0, s1, s2, s3, s4, s5⟩ := hSw; go_simp; try with_reducible rfl)
      (try simp only [Act.put, List.setIfInBounds_toArray, List.set_cons_zero, List.set_cons_succ])
      refine wpAnyH_take (i := 9) (v := ?v9) rfl (by kernel_rfl) (by kernel_rfl) (by kernel_rfl) (fun _ _ _ h => h) (Or.inl ⟨by rfl, ?hy9⟩) (by assumption) ?rest9
      case hy9 => (intro wy hSw; (try dsimp only at hSw); obtain ⟨s0, s1, s2, s3, s4, s5⟩ := hSw; go_simp; try with_reducible rfl)
      (try simp only [Act.put, List.setIfInBounds_toArray, List.set_cons_zero, List.set_cons_succ])
      refine wpAnyH_take (i := 10) (v := ?v10) rfl (by kernel_rfl) (by kernel_rfl) (by kernel_rfl) (fun _ _ _ h => h) (Or.inl ⟨by rfl, ?hy10⟩) (by assumption) ?rest10
      case hy10 => (intro wy hSw; (try dsimp only at hSw); obtain ⟨s0, s1, s2, s3, s4, s5⟩ := hSw; go_simp; try with_reducible rfl)
      (try simp only [Act.put, List.setIfInBounds_toArray, List.set_cons_zero, List.set_cons_succ])
      refine wpAnyH_take (i := 11) (v := ?v11) rfl (by kernel_rfl) (by kernel_rfl) (by kernel_rfl) (fun _ _ _ h => h) (Or.inl ⟨by rfl, ?hy11⟩) (by assumption) ?rest11
      case hy11 => (intro wy hSw; (try dsimp only at hSw); obtain ⟨s0, s1, s2, s3, s4, s5⟩ := hSw; go_simp; try with_reducible rfl)
      (try simp only [Act.put, List.setIfInBounds_toArray, List.set_cons_zero, List.set_cons_succ])
      refine wpAnyH_take (i := 12) (v := ?v12) rfl (by kernel_rfl) (by kernel_rfl) (by kernel_rfl) (fun _ _ _ h => h) (Or.inl ⟨by rfl, ?hy12⟩) (by assumption) ?rest12
      case hy12 => (intro wy hSw; (try dsimp only at hSw); obtain ⟨s0, s1, s2, s3, s4, s5⟩ := hSw; go_simp; try with_reducible rfl)
      (try simp only [Act.put, List.setIfInBounds_toArray, List.set_cons_zero, List.set_cons_succ])
      refine wpAnyH_take (i := 13) (v := ?v13) rfl (by kernel_rfl) (by kernel_rfl) (by kernel_rfl) (fun _ _ _ h => h) (Or.inl ⟨by rfl, ?hy13⟩) (by assumption) ?rest13
      case hy13 => (intro wy hSw; (try dsimp only at hSw); obtain ⟨s0, s1, s2, s3, s4, s5⟩ := hSw; go_simp; try with_reducible rfl)
      (try simp only [Act.put, List.setIfInBounds_toArray, List.set_cons_zero, List.set_cons_succ])
      refine wpAnyH_take (i := 14) (v := ?v14) rfl (by kernel_rfl) (by kernel_rfl) (by kernel_rfl) (fun _ _ _ h => h) (Or.inl ⟨by rfl, ?hy14⟩) (by assumption) ?rest14
      case hy14 => (intro wy hSw; (try dsimp only at hSw); obtain ⟨s0, s1, s2, s3, s4, s5⟩ := hSw; go_simp; try with_reducible rfl)
      (try simp only [Act.put, List.setIfInBounds_toArray, List.set_cons_zero, List.set_cons_succ])
      refine wpAnyH_take (i := 16) (v := ?v16) rfl (by kernel_rfl) (by kernel_rfl) (by kernel_rfl) (fun _ _ _ h => h) (Or.inl ⟨by rfl, ?hy16⟩) (by assumption) ?rest16
      case hy16 => (intro wy hSw; (try dsimp only at hSw); obtain ⟨s0, s1, s2, s3, s4, s5⟩ := hSw; go_simp; try with_reducible rfl)
      (try simp only [Act.put, List.setIfInBounds_toArray, List.set_cons_zero, List.set_cons_succ])
      refine wpAnyH_take (i := 17) (v := ?v17) rfl (by kernel_rfl) (by kernel_rfl) (by kernel_rfl) (fun _ _ _ h => h) (Or.inl ⟨by rfl, ?hy17⟩) (by assumption) ?rest17
      case hy17 => (intro wy hSw; (try dsimp only at hSw); obtain ⟨s0, s1, s2, s3, s4, s5⟩ := hSw; go_simp; try with_reducible rfl)
      (try simp only [Act.put, List.setIfInBounds_toArray, List.set_cons_zero, List.set_cons_succ])
      refine wpAnyH_ready (rs := [15, 18]) (by kernel_rfl) (by simp) (AllReadyH.cons rfl (fun K hK => ?a15) (AllReadyH.cons rfl (fun K hK => ?a18) AllReadyH.nil))
      case a15 =>
        go_simp
        refine hK.out _ _ (by assumption) (fun hHeld => ?_)
        clear hK K
        (try simp only [Act.put, List.setIfInBounds_toArray, List.set_cons_zero, List.set_cons_succ])
        refine wpAnyH_ready (rs := [18]) (by kernel_rfl) (by simp) (AllReadyH.cons rfl (fun K hK => ?_) AllReadyH.nil)
        go_simp
        refine (HC.out _).mono ?_
        rintro e wx ⟨rfl, hb⟩
        have HBx := Lib.hid ((b_draws wp 1).trans hb)
        have yq : wx.cell? ⟨q, j, none⟩ = some (.int .i64 y) := (HBx.out.cell (Nat.lt_of_lt_of_le hql HBp.out.size)).trans e1
        have yf : wx.frozen? ⟨q, j, none⟩ = false := (HBx.out.frozen (Nat.lt_of_lt_of_le hql HBp.out.size)).trans e2
        clear hb
        refine hK.out _ _ (HWS.out.below HBx.out) (fun hHeld => ?_)
        clear hK K
        (try simp only [Act.put, List.setIfInBounds_toArray, List.set_cons_zero, List.set_cons_succ])
        refine wpAnyH_ready (rs := [19]) (by kernel_rfl) (by simp) (AllReadyH.cons rfl (fun K hK => ?_) AllReadyH.nil)
        go_simp
        refine hK.out _ _ (by assumption) (fun hHeld => ?_)
        clear hK K
        (try simp only [Act.put, List.setIfInBounds_toArray, List.set_cons_zero, List.set_cons_succ])
        refine wpAnyH_take (i := 20) (v := ?v20) rfl (by kernel_rfl) (by kernel_rfl) (by kernel_rfl) (fun _ _ _ h => h) (Or.inl ⟨by rfl, ?hy20⟩) (by assumption) ?rest20
        case hy20 => (intro wy hSw; (try dsimp only at hSw); obtain ⟨s0, s1, s2, s3, s4, s5⟩ := hSw; go_simp; try with_reducible rfl)
        (try simp only [Act.put, List.setIfInBounds_toArray, List.set_cons_zero, List.set_cons_succ])
        refine wpAnyH_ready (rs := [21]) (by kernel_rfl) (by simp) (AllReadyH.cons rfl (fun K hK => ?_) AllReadyH.nil)
        go_simp
        refine hK.out _ _ ((HWS.out.below HBx.out).store (by omega) hne hq1) (fun hHeld => ?_)
        clear hK K
        (try simp only [Act.put, List.setIfInBounds_toArray, List.set_cons_zero, List.set_cons_succ])
        refine wpAnyH_done (by kernel_rfl) ?_ _
        go_wp2
        go_roundw
        case rel => exact ⟨k + 1, by omega, by go_num, HFin.out _ HBx.out, HBt.out _ _ HBx.out⟩
        case measure => simp [intOf]; omega
      case a18 =>
        go_simp
        refine (HC.out _).mono ?_
        rintro e wx ⟨rfl, hb⟩
        have HBx := Lib.hid ((b_draws wp 1).trans hb)
        have yq : wx.cell? ⟨q, j, none⟩ = some (.int .i64 y) := (HBx.out.cell (Nat.lt_of_lt_of_le hql HBp.out.size)).trans e1
        have yf : wx.frozen? ⟨q, j, none⟩ = false := (HBx.out.frozen (Nat.lt_of_lt_of_le hql HBp.out.size)).trans e2
        clear hb
        refine hK.out _ _ (HWS.out.below HBx.out) (fun hHeld => ?_)
        clear hK K
        (try simp only [Act.put, List.setIfInBounds_toArray, List.set_cons_zero, List.set_cons_succ])
        refine wpAnyH_ready (rs := [15]) (by kernel_rfl) (by simp) (AllReadyH.cons rfl (fun K hK => ?_) AllReadyH.nil)
        go_simp
        refine hK.out _ _ (by assumption) (fun hHeld => ?_)
        clear hK K
        (try simp only [Act.put, List.setIfInBounds_toArray, List.set_cons_zero, List.set_cons_succ])
        refine wpAnyH_ready (rs := [19]) (by kernel_rfl) (by simp) (AllReadyH.cons rfl (fun K hK => ?_) AllReadyH.nil)
        go_simp
        refine hK.out _ _ (by assumption) (fun hHeld => ?_)
        clear hK K
        (try simp only [Act.put, List.setIfInBounds_toArray, List.set_cons_zero, List.set_cons_succ])
        refine wpAnyH_take (i := 20) (v := ?w20) rfl (by kernel_rfl) (by kernel_rfl) (by kernel_rfl) (fun _ _ _ h => h) (Or.inl ⟨by rfl, ?hz20⟩) (by assumption) ?west20
        case hz20 => (intro wy hSw; (try dsimp only at hSw); obtain ⟨s0, s1, s2, s3, s4, s5⟩ := hSw; go_simp; try with_reducible rfl)
        (try simp only [Act.put, List.setIfInBounds_toArray, List.set_cons_zero, List.set_cons_succ])
        refine wpAnyH_ready (rs := [21]) (by kernel_rfl) (by simp) (AllReadyH.cons rfl (fun K hK => ?_) AllReadyH.nil)
        go_simp
        refine hK.out _ _ ((HWS.out.below HBx.out).store (by omega) hne hq1) (fun hHeld => ?_)
        clear hK K
        (try simp only [Act.put, List.setIfInBounds_toArray, List.set_cons_zero, List.set_cons_succ])
        refine wpAnyH_done (by kernel_rfl) ?_ _
        go_wp2
        go_roundw
        case rel => exact ⟨k + 1, by omega, by go_num, HFin.out _ HBx.out, HBt.out _ _ HBx.out⟩
        case measure => simp [intOf]; omega
    · obtain rfl : k = n := by omega
      have HE : Hid (l.take k = l) := List.take_of_length_le (by rw [HL.out]; exact Nat.le_refl _)
      rw [HE.out] at HO
      go_wp2
      go_ret
      exact ⟨_, _, rfl, HO.out, HB.out⟩
end Go.Proofs.YtlofnadpgnbmdaaGreat.V
