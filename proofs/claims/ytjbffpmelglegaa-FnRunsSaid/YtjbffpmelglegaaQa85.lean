/- Texts laid together: Fle. -/
import Derived.Test.YtjbffpmelglegaaQa83
import Derived.Test.YtjbffpmelglegaaQa84
import Derived.StillTailTactics
import Derived.Deep.RegionHeld3
set_option linter.unusedSimpArgs false
set_option linter.unusedVariables false
set_option linter.unusedSectionVars false
namespace Go.Proofs.Ytjbffpmelglegaa
namespace M
def mstK (L : List Fr) : Nat → Int
  | 0 => 0
  | k + 1 => max (mstK L k) (L.getD k fz).2.1
theorem mstK_le {L : List Fr} {m : Nat} {B : Int} (hB : 0 ≤ B) : mstK L m ≤ B ↔ ∀ i, i < m → (L.getD i fz).2.1 ≤ B := by
  induction m with
  | zero => exact ⟨fun _ i hi => absurd hi (Nat.not_lt_zero i), fun _ => hB⟩
  | succ m ih =>
    unfold mstK
    constructor
    · intro h i hi
      by_cases e : i = m
      · rw [e]; omega
      · exact (ih.1 (by omega)) i (by omega)
    · intro h
      have h1 := ih.2 (fun i hi => h i (by omega))
      have h2 := h m (by omega)
      omega
theorem few_mst (L : List Fr) : fewB L = decide (mstK L L.length ≤ 50) := by
  cases h : fewB L with
  | true =>
    refine (decide_eq_true ((mstK_le (by decide)).2 fun i hi => ?_)).symm
    unfold fewB at h
    have := List.all_eq_true.1 h (L.getD i fz) (by rw [List.getD_eq_getElem?_getD, List.getElem?_eq_getElem hi]; exact List.getElem_mem _)
    simpa using this
  | false =>
    refine (decide_eq_false fun q => ?_).symm
    rw [few_yes ((mstK_le (by decide)).1 q)] at h
    cases h
end M
namespace V
set_option maxRecDepth 100000
open Go.RowKit
set_option maxRecDepth 100000 in
set_option maxHeartbeats 8000000 in
theorem sEarliest (N : Nat) (a : Option Addr) (n cap : Nat) (l : List M.Pc) (fa : Option Addr) (fn fc : Nat) (L : List M.Fr) (w : World) (h : Pls w a n l) (hg : M.isGr (N : Int) l = true) (hf : Frs w fa fn L) (hrun : M.runK N l L L.length = true) (hfn : fn ≤ 500) :
    Calls Try.prog 77 #[.agg #[.int .i64 N, .slice a n cap], .slice fa fn fc] w fun z w' => ∃ g c, z = .returned (.slice (some ⟨g, 0, none⟩) fn c) ∧ OwnFr w' w.heap.size (.slice (some ⟨g, 0, none⟩) fn c) (M.eaL l L fn) ∧ Below w.heap.size w w' := by
  have HI := Lib.hid h
  have HFr := Lib.hid hf
  have HLn : Hid (L.length = fn) := hf.1
  have HG := Lib.hid hg
  have HRun := Lib.hid hrun
  have HPt : Hid (∀ p ∈ l, 0 ≤ p.2.2.2) := fun p hp => (gr_allF hg p hp).2
  have hb0 := b_alloc w (.cells #[.int .i64 N, .slice a n cap] 41)
  have hGb := gBox_new w N a n cap 41
  obtain ⟨wb, hwb⟩ : ∃ z, z = w.alloc (.cells #[.int .i64 N, .slice a n cap] 41) := ⟨_, rfl⟩
  rw [← hwb] at hb0 hGb
  have hzb : w.heap.size + 1 ≤ wb.heap.size := cell_lt hGb.1
  have HB0 : Hid (Below w.heap.size w (wb.alloc (.cells #[] 77))) := hb0.alloc hb0.size _
  have HG0 : Hid (GBox (wb.alloc (.cells #[] 77)) w.heap.size N a n cap) := hGb.below (b_alloc wb _)
  have hzb' : wb.heap.size = w.heap.size + 1 := by rw [hwb]; simp
  have HO0 : Hid (OwnFr (wb.alloc (.cells #[] 77)) (w.heap.size + 1) (.slice (some ⟨w.heap.size + 1, 0, none⟩) 0 0) (M.eaL l L 0)) := by
    have := ownFr_lit0 wb _ hzb
    rw [hzb'] at this
    exact this
  clear hzb'
  have HWb := Lib.hid hwb.symm
  obtain ⟨g0, g1⟩ := hGb
  rw [hwb] at g0 g1
  clear h hf hg hrun hb0 hwb
  go_enter Try.func77, Try.ntmps77
  go_wp2
  rw [HWb.out]
  clear g0 g1
  go_loopw [5, 6] (fun lv kv wr => ∃ (k g c : Nat), k ≤ fn ∧ kv = .int .i64 k ∧ lv = .slice (some ⟨g, 0, none⟩) k c ∧ Hid (OwnFr wr (w.heap.size + 1) (.slice (some ⟨g, 0, none⟩) k c) (M.eaL l L k)) ∧ Hid (GBox wr w.heap.size N a n cap) ∧ Hid (Below w.heap.size w wr)) (fun _ kv _ => fn - (intOf kv).toNat)
  case atStart => exact ⟨0, _, _, Nat.zero_le _, rfl, rfl, HO0, HG0, HB0⟩
  case round =>
    obtain ⟨k, g, c, hk, rfl, rfl, HO, HGr, HB⟩ := hrel
    obtain ⟨wo, rfl⟩ : ∃ x, x = wr := ⟨_, rfl⟩
    clear HO0 HG0 HB0
    obtain ⟨g0, g1⟩ := HGr.out
    by_cases hkl : k < fn
    · have hki : (k : Int) < (fn : Int) := by omega
      have hsz1 : w.heap.size + 1 ≤ wo.heap.size := cell_lt g0
      have hkL : k < L.length := by rw [HLn.out]; exact hkl
      obtain ⟨pb, off, p0, p1, p2, rfl, hplt, hp, c0, c1, -⟩ := HFr.out.at k hkl
      have hcan := M.runK_can hkL HRun.out
      rw [hp] at hcan
      obtain ⟨d1, d2, d3, d4, d5⟩ := M.canB_iff.1 hcan
      simp only at d1 d2 d3 d5
      obtain ⟨e, rfl⟩ : ∃ e : Nat, p0 = (e : Int) := ⟨p0.toNat, by omega⟩
      have hv := M.ea_vld (by omega) (M.runK_down (m := k) (by omega) HRun.out) HPt.out
      have hen : M.enB l (M.eaL l L k) (e : Int) = true := by rw [M.enB_cnt (fun x => M.eaL_cnt l (l := L) (k := k) (by omega) x)]; exact d3
      obtain ⟨T, hT⟩ : ∃ T, T = M.eaT l (M.eaL l L k) ((e : Int), p1, p2) := ⟨_, rfl⟩
      have HEa : Hid (M.eaL l L (k + 1) = M.eaL l L k ++ [((e : Int), p1, T)]) := by show _ = _; rw [hT, ← hp]; show M.eaL l L k ++ _ = _; rw [hp]
      have HEl : Hid ((M.eaL l L k).length = k) := M.eaL_len _ _ _
      have HRd : Hid (Calls Try.prog 70 #[.agg #[.int .i64 N, .slice a n cap], .slice (some ⟨g, 0, none⟩) k c, .int .i64 e] wo.drew fun z w' => z = .returned (.tuple #[.int .i64 T, .bool true]) ∧ Below wo.drew.heap.size wo.drew w') := by
        have := sReady14 N a n cap l (some ⟨g, 0, none⟩) k c (M.eaL l L k) e wo.drew ((HI.out.below HB.out).below (b_draws wo 1)) HG.out ((HO.out.frs).below (b_draws wo 1)) (fun x t ht => hv.time x t ht) (by omega)
        rw [M.rdyM_eq hv (gr_allF HG.out) e, if_pos hen] at this
        have e1 : T = M.rd (M.hisF (M.eaL l L k)) (M.cntF (M.eaL l L k) (e : Int) + 1) e l 0 := by rw [hT]; rfl
        rw [← e1] at this
        exact this
      have f0 := (HB.out.cell (p := ⟨pb, off + k * 3, none⟩) hplt).trans c0
      clear hp hcan d1 d2 d3 d4 d5 hv hen hT
      have HS5 : Hid (∀ w', Below w.heap.size w w' → Below wo.heap.size wo w' → w'.cell? ⟨w.heap.size, 0, none⟩ = some (.int .i64 N) ∧ w'.cell? ⟨w.heap.size, 1, none⟩ = some (.slice a n cap) ∧ w'.cell? ⟨pb, off + k * 3, none⟩ = some (.int .i64 e)) := fun w' hb hb2 => ⟨(HGr.out.below hb2).1, (HGr.out.below hb2).2, (hb.cell (p := ⟨pb, off + k * 3, none⟩) hplt).trans c0⟩
      go_wp2
      refine wp_region_held_drew (S := fun w' => w'.cell? ⟨w.heap.size, 0, none⟩ = some (.int .i64 N) ∧ w'.cell? ⟨w.heap.size, 1, none⟩ = some (.slice a n cap) ∧ w'.cell? ⟨pb, off + k * 3, none⟩ = some (.int .i64 e)) (by kernel_rfl) ?_ (fun hHeld => ?_)
      · exact HS5.out _ (HB.out.trans ((b_draws wo 1).mono HB.out.size)) (b_draws wo 1)
      refine wpAnyH_take (i := 0) (v := ?vd0) rfl (by kernel_rfl) (by kernel_rfl) (by kernel_rfl) (fun _ _ _ h => h) (Or.inl ⟨by rfl, ?hyd0⟩) (by assumption) ?restd0
      case hyd0 => (intro wy hSw; (try dsimp only at hSw); obtain ⟨s0, s1, s2⟩ := hSw; go_simp; try with_reducible rfl)
      (try simp only [Act.put, List.getElem_toArray, List.getElem_cons_zero, List.getElem_cons_succ, List.setIfInBounds_toArray, List.set_cons_zero, List.set_cons_succ])
      refine wpAnyH_take (i := 1) (v := ?vd1) rfl (by kernel_rfl) (by kernel_rfl) (by kernel_rfl) (fun _ _ _ h => h) (Or.inl ⟨by rfl, ?hyd1⟩) (by assumption) ?restd1
      case hyd1 => (intro wy hSw; (try dsimp only at hSw); obtain ⟨s0, s1, s2⟩ := hSw; go_simp; try with_reducible rfl)
      (try simp only [Act.put, List.getElem_toArray, List.getElem_cons_zero, List.getElem_cons_succ, List.setIfInBounds_toArray, List.set_cons_zero, List.set_cons_succ])
      refine wpAnyH_take (i := 2) (v := ?vd2) rfl (by kernel_rfl) (by kernel_rfl) (by kernel_rfl) (fun _ _ _ h => h) (Or.inl ⟨by rfl, ?hyd2⟩) (by assumption) ?restd2
      case hyd2 => (intro wy hSw; (try dsimp only at hSw); obtain ⟨s0, s1, s2⟩ := hSw; go_simp; try with_reducible rfl)
      (try simp only [Act.put, List.getElem_toArray, List.getElem_cons_zero, List.getElem_cons_succ, List.setIfInBounds_toArray, List.set_cons_zero, List.set_cons_succ])
      refine wpAnyH_take (i := 3) (v := ?vd3) rfl (by kernel_rfl) (by kernel_rfl) (by kernel_rfl) (fun _ _ _ h => h) (Or.inl ⟨by rfl, ?hyd3⟩) (by assumption) ?restd3
      case hyd3 => (intro wy hSw; (try dsimp only at hSw); obtain ⟨s0, s1, s2⟩ := hSw; go_simp; try with_reducible rfl)
      (try simp only [Act.put, List.getElem_toArray, List.getElem_cons_zero, List.getElem_cons_succ, List.setIfInBounds_toArray, List.set_cons_zero, List.set_cons_succ])
      refine wpAnyH_take (i := 4) (v := ?vd4) rfl (by kernel_rfl) (by kernel_rfl) (by kernel_rfl) (fun _ _ _ h => h) (Or.inl ⟨by rfl, ?hyd4⟩) (by assumption) ?restd4
      case hyd4 => (intro wy hSw; (try dsimp only at hSw); obtain ⟨s0, s1, s2⟩ := hSw; go_simp; try with_reducible rfl)
      (try simp only [Act.put, List.getElem_toArray, List.getElem_cons_zero, List.getElem_cons_succ, List.setIfInBounds_toArray, List.set_cons_zero, List.set_cons_succ])
      refine wpAnyH_take (i := 5) (v := ?vd5) rfl (by kernel_rfl) (by kernel_rfl) (by kernel_rfl) (fun _ _ _ h => h) (Or.inl ⟨by rfl, ?hyd5⟩) (by assumption) ?restd5
      case hyd5 => (intro wy hSw; (try dsimp only at hSw); obtain ⟨s0, s1, s2⟩ := hSw; go_simp; try with_reducible rfl)
      (try simp only [Act.put, List.getElem_toArray, List.getElem_cons_zero, List.getElem_cons_succ, List.setIfInBounds_toArray, List.set_cons_zero, List.set_cons_succ])
      refine wpAnyH_take (i := 6) (v := ?vd6) rfl (by kernel_rfl) (by kernel_rfl) (by kernel_rfl) (fun _ _ _ h => h) (Or.inl ⟨by rfl, ?hyd6⟩) (by assumption) ?restd6
      case hyd6 => (intro wy hSw; (try dsimp only at hSw); obtain ⟨s0, s1, s2⟩ := hSw; go_simp; try with_reducible rfl)
      (try simp only [Act.put, List.getElem_toArray, List.getElem_cons_zero, List.getElem_cons_succ, List.setIfInBounds_toArray, List.set_cons_zero, List.set_cons_succ])
      refine wpAnyH_ready (rs := [7]) (by kernel_rfl) (by simp) (AllReadyH.cons rfl (fun K hK => ?_) AllReadyH.nil)
      go_simp
      refine (HRd.out).mono ?_
      rintro z w3 ⟨rfl, hb3⟩
      have HBx := Lib.hid ((b_draws wo 1).trans hb3)
      clear hb3
      refine hK.out _ _ (HS5.out _ (HB.out.trans (HBx.out.mono HB.out.size)) HBx.out) (fun hHeld => ?_)
      clear hK K
      (try simp only [Act.put, List.getElem_toArray, List.getElem_cons_zero, List.getElem_cons_succ, List.setIfInBounds_toArray, List.set_cons_zero, List.set_cons_succ])
      refine wpAnyH_take (i := 8) (v := ?vd8) rfl (by kernel_rfl) (by kernel_rfl) (by kernel_rfl) (fun _ _ _ h => h) (Or.inl ⟨by rfl, ?hyd8⟩) (by assumption) ?restd8
      case hyd8 => (intro wy hSw; (try dsimp only at hSw); obtain ⟨s0, s1, s2⟩ := hSw; go_simp; try with_reducible rfl)
      (try simp only [Act.put, List.getElem_toArray, List.getElem_cons_zero, List.getElem_cons_succ, List.setIfInBounds_toArray, List.set_cons_zero, List.set_cons_succ])
      refine wpAnyH_take (i := 9) (v := ?vd9) rfl (by kernel_rfl) (by kernel_rfl) (by kernel_rfl) (fun _ _ _ h => h) (Or.inl ⟨by rfl, ?hyd9⟩) (by assumption) ?restd9
      case hyd9 => (intro wy hSw; (try dsimp only at hSw); obtain ⟨s0, s1, s2⟩ := hSw; go_simp; try with_reducible rfl)
      (try simp only [Act.put, List.getElem_toArray, List.getElem_cons_zero, List.getElem_cons_succ, List.setIfInBounds_toArray, List.set_cons_zero, List.set_cons_succ])
      refine wpAnyH_take (i := 10) (v := ?vd10) rfl (by kernel_rfl) (by kernel_rfl) (by kernel_rfl) (fun _ _ _ h => h) (Or.inl ⟨by rfl, ?hyd10⟩) (by assumption) ?restd10
      case hyd10 => (intro wy hSw; (try dsimp only at hSw); obtain ⟨s0, s1, s2⟩ := hSw; go_simp; try with_reducible rfl)
      (try simp only [Act.put, List.getElem_toArray, List.getElem_cons_zero, List.getElem_cons_succ, List.setIfInBounds_toArray, List.set_cons_zero, List.set_cons_succ])
      refine wpAnyH_ready (rs := [11]) (by kernel_rfl) (by simp) (AllReadyH.cons rfl (fun K hK => ?_) AllReadyH.nil)
      go_simp
      refine hK.out _ _ (HS5.out _ (HB.out.trans (HBx.out.mono HB.out.size)) HBx.out) (fun hHeld => ?_)
      clear hK K
      (try simp only [Act.put, List.getElem_toArray, List.getElem_cons_zero, List.getElem_cons_succ, List.setIfInBounds_toArray, List.set_cons_zero, List.set_cons_succ])
      refine wpAnyH_ready (rs := [12]) (by kernel_rfl) (by simp) (AllReadyH.cons rfl (fun K hK => ?_) AllReadyH.nil)
      go_simp
      refine hK.out _ _ (HS5.out _ (HB.out.trans (HBx.out.mono HB.out.size)) HBx.out) (fun hHeld => ?_)
      clear hK K
      (try simp only [Act.put, List.getElem_toArray, List.getElem_cons_zero, List.getElem_cons_succ, List.setIfInBounds_toArray, List.set_cons_zero, List.set_cons_succ])
      refine wpAnyH_done (by kernel_rfl) ?_ _
      have hb3' : Below wo.heap.size wo w3 := HBx.out
      have HB3 := Lib.hid (HB.out.trans (hb3'.mono HB.out.size))
      have HO3 := Lib.hid (HO.out.below hb3')
      have HG3 := Lib.hid (HGr.out.below hb3')
      have hsz3 : w.heap.size + 1 ≤ w3.heap.size := Nat.le_trans hsz1 hb3'.size
      have HS0 : Hid (∀ w', Below w.heap.size w w' → w'.cell? ⟨pb, off + k * 3, none⟩ = some (.int .i64 e) ∧ w'.cell? ⟨pb, off + k * 3 + 1, none⟩ = some (.int .i64 p1) ∧ Below w.heap.size w w') := fun w' hb => ⟨(hb.cell (p := ⟨pb, off + k * 3, none⟩) hplt).trans c0, (hb.cell (p := ⟨pb, off + k * 3 + 1, none⟩) hplt).trans c1, hb⟩
      clear hb3' g0 g1 f0 c0 c1 HRd HO HGr HS5 HBx
      have HBd : Hid (Below w.heap.size w w3.drew) := HB3.out.drew
      have HBa : Hid (Below w.heap.size w (w3.drew.alloc (.cells #[.int .i64 e, .int .i64 p1, .int .i64 T] 77))) := HBd.out.alloc HBd.out.size _
      have HOa : Hid (OwnFr (w3.drew.alloc (.cells #[.int .i64 e, .int .i64 p1, .int .i64 T] 77)) (w.heap.size + 1) (.slice (some ⟨g, 0, none⟩) k c) (M.eaL l L k)) := (HO3.out.below (b_draws w3 1)).below (b_alloc w3.drew _)
      have HFn : Hid (Frs (w3.drew.alloc (.cells #[.int .i64 e, .int .i64 p1, .int .i64 T] 77)) (some ⟨w3.heap.size, 0, none⟩) 1 [((e : Int), p1, T)]) := frs_one w3.drew e p1 T
      have hsza : w.heap.size + 1 ≤ (w3.drew.alloc (.cells #[.int .i64 e, .int .i64 p1, .int .i64 T] 77)).heap.size := Nat.le_trans hsz3 (by rw [World.size_alloc]; exact Nat.le_succ _)
      go_wp2
      refine wp_region_held_drew (S := fun w' => w'.cell? ⟨pb, off + k * 3, none⟩ = some (.int .i64 e) ∧ w'.cell? ⟨pb, off + k * 3 + 1, none⟩ = some (.int .i64 p1) ∧ Below w.heap.size w w') (by kernel_rfl) ?_ (fun hHeld => ?_)
      · exact HS0.out _ HBd.out
      refine wpAnyH_take (i := 0) (v := ?ve0) rfl (by kernel_rfl) (by kernel_rfl) (by kernel_rfl) (fun _ _ _ h => h) (Or.inl ⟨by rfl, ?hye0⟩) (by assumption) ?reste0
      case hye0 => (intro wy hSw; (try dsimp only at hSw); obtain ⟨s0, s1, s2⟩ := hSw; go_simp; try with_reducible rfl)
      (try simp only [Act.put, List.getElem_toArray, List.getElem_cons_zero, List.getElem_cons_succ, List.setIfInBounds_toArray, List.set_cons_zero, List.set_cons_succ])
      refine wpAnyH_take (i := 1) (v := ?ve1) rfl (by kernel_rfl) (by kernel_rfl) (by kernel_rfl) (fun _ _ _ h => h) (Or.inl ⟨by rfl, ?hye1⟩) (by assumption) ?reste1
      case hye1 => (intro wy hSw; (try dsimp only at hSw); obtain ⟨s0, s1, s2⟩ := hSw; go_simp; try with_reducible rfl)
      (try simp only [Act.put, List.getElem_toArray, List.getElem_cons_zero, List.getElem_cons_succ, List.setIfInBounds_toArray, List.set_cons_zero, List.set_cons_succ])
      refine wpAnyH_take (i := 2) (v := ?ve2) rfl (by kernel_rfl) (by kernel_rfl) (by kernel_rfl) (fun _ _ _ h => h) (Or.inl ⟨by rfl, ?hye2⟩) (by assumption) ?reste2
      case hye2 => (intro wy hSw; (try dsimp only at hSw); obtain ⟨s0, s1, s2⟩ := hSw; go_simp; try with_reducible rfl)
      (try simp only [Act.put, List.getElem_toArray, List.getElem_cons_zero, List.getElem_cons_succ, List.setIfInBounds_toArray, List.set_cons_zero, List.set_cons_succ])
      refine wpAnyH_take (i := 3) (v := ?ve3) rfl (by kernel_rfl) (by kernel_rfl) (by kernel_rfl) (fun _ _ _ h => h) (Or.inl ⟨by rfl, ?hye3⟩) (by assumption) ?reste3
      case hye3 => (intro wy hSw; (try dsimp only at hSw); obtain ⟨s0, s1, s2⟩ := hSw; go_simp; try with_reducible rfl)
      (try simp only [Act.put, List.getElem_toArray, List.getElem_cons_zero, List.getElem_cons_succ, List.setIfInBounds_toArray, List.set_cons_zero, List.set_cons_succ])
      refine wpAnyH_take (i := 4) (v := ?ve4) rfl (by kernel_rfl) (by kernel_rfl) (by kernel_rfl) (fun _ _ _ h => h) (Or.inl ⟨by rfl, ?hye4⟩) (by assumption) ?reste4
      case hye4 => (intro wy hSw; (try dsimp only at hSw); obtain ⟨s0, s1, s2⟩ := hSw; go_simp; try with_reducible rfl)
      (try simp only [Act.put, List.getElem_toArray, List.getElem_cons_zero, List.getElem_cons_succ, List.setIfInBounds_toArray, List.set_cons_zero, List.set_cons_succ])
      refine wpAnyH_take (i := 5) (v := ?ve5) rfl (by kernel_rfl) (by kernel_rfl) (by kernel_rfl) (fun _ _ _ h => h) (Or.inl ⟨by rfl, ?hye5⟩) (by assumption) ?reste5
      case hye5 => (intro wy hSw; (try dsimp only at hSw); obtain ⟨s0, s1, s2⟩ := hSw; go_simp; try with_reducible rfl)
      (try simp only [Act.put, List.getElem_toArray, List.getElem_cons_zero, List.getElem_cons_succ, List.setIfInBounds_toArray, List.set_cons_zero, List.set_cons_succ])
      refine wpAnyH_take (i := 6) (v := ?ve6) rfl (by kernel_rfl) (by kernel_rfl) (by kernel_rfl) (fun _ _ _ h => h) (Or.inl ⟨by rfl, ?hye6⟩) (by assumption) ?reste6
      case hye6 => (intro wy hSw; (try dsimp only at hSw); obtain ⟨s0, s1, s2⟩ := hSw; go_simp; try with_reducible rfl)
      (try simp only [Act.put, List.getElem_toArray, List.getElem_cons_zero, List.getElem_cons_succ, List.setIfInBounds_toArray, List.set_cons_zero, List.set_cons_succ])
      refine wpAnyH_take (i := 7) (v := ?ve7) rfl (by kernel_rfl) (by kernel_rfl) (by kernel_rfl) (fun _ _ _ h => h) (Or.inl ⟨by rfl, ?hye7⟩) (by assumption) ?reste7
      case hye7 => (intro wy hSw; (try dsimp only at hSw); obtain ⟨s0, s1, s2⟩ := hSw; go_simp; try with_reducible rfl)
      (try simp only [Act.put, List.getElem_toArray, List.getElem_cons_zero, List.getElem_cons_succ, List.setIfInBounds_toArray, List.set_cons_zero, List.set_cons_succ])
      refine wpAnyH_take (i := 8) (v := ?ve8) rfl (by kernel_rfl) (by kernel_rfl) (by kernel_rfl) (fun _ _ _ h => h) (Or.inl ⟨by rfl, ?hye8⟩) (by assumption) ?reste8
      case hye8 => (intro wy hSw; (try dsimp only at hSw); obtain ⟨s0, s1, s2⟩ := hSw; go_simp; try with_reducible rfl)
      (try simp only [Act.put, List.getElem_toArray, List.getElem_cons_zero, List.getElem_cons_succ, List.setIfInBounds_toArray, List.set_cons_zero, List.set_cons_succ])
      refine wpAnyH_take (i := 9) (v := ?ve9) rfl (by kernel_rfl) (by kernel_rfl) (by kernel_rfl) (fun _ _ _ h => h) (Or.inl ⟨by rfl, ?hye9⟩) (by assumption) ?reste9
      case hye9 => (intro wy hSw; (try dsimp only at hSw); obtain ⟨s0, s1, s2⟩ := hSw; go_simp; try with_reducible rfl)
      (try simp only [Act.put, List.getElem_toArray, List.getElem_cons_zero, List.getElem_cons_succ, List.setIfInBounds_toArray, List.set_cons_zero, List.set_cons_succ])
      refine wpAnyH_take (i := 10) (v := ?ve10) rfl (by kernel_rfl) (by kernel_rfl) (by kernel_rfl) (fun _ _ _ h => h) (Or.inl ⟨by rfl, ?hye10⟩) (by assumption) ?reste10
      case hye10 => (intro wy hSw; (try dsimp only at hSw); obtain ⟨s0, s1, s2⟩ := hSw; go_simp; try with_reducible rfl)
      (try simp only [Act.put, List.getElem_toArray, List.getElem_cons_zero, List.getElem_cons_succ, List.setIfInBounds_toArray, List.set_cons_zero, List.set_cons_succ])
      refine wpAnyH_take (i := 11) (v := ?ve11) rfl (by kernel_rfl) (by kernel_rfl) (by kernel_rfl) (fun _ _ _ h => h) (Or.inl ⟨by rfl, ?hye11⟩) (by assumption) ?reste11
      case hye11 => (intro wy hSw; (try dsimp only at hSw); obtain ⟨s0, s1, s2⟩ := hSw; go_simp; try with_reducible rfl)
      (try simp only [Act.put, List.getElem_toArray, List.getElem_cons_zero, List.getElem_cons_succ, List.setIfInBounds_toArray, List.set_cons_zero, List.set_cons_succ])
      refine wpAnyH_take (i := 12) (v := ?ve12) rfl (by kernel_rfl) (by kernel_rfl) (by kernel_rfl) (fun _ _ _ h => h) (Or.inl ⟨by rfl, ?hye12⟩) (by assumption) ?reste12
      case hye12 => (intro wy hSw; (try dsimp only at hSw); obtain ⟨s0, s1, s2⟩ := hSw; go_simp; try with_reducible rfl)
      (try simp only [Act.put, List.getElem_toArray, List.getElem_cons_zero, List.getElem_cons_succ, List.setIfInBounds_toArray, List.set_cons_zero, List.set_cons_succ])
      refine wpAnyH_ready (rs := [13]) (by kernel_rfl) (by simp) (AllReadyH.cons rfl (fun K hK => ?_) AllReadyH.nil)
      go_simp
      refine hK.out _ _ (HS0.out _ HBa.out) (fun hHeld => ?_)
      clear hK K
      (try simp only [Act.put, List.getElem_toArray, List.getElem_cons_zero, List.getElem_cons_succ, List.setIfInBounds_toArray, List.set_cons_zero, List.set_cons_succ])
      refine wpAnyH_ready (rs := [14]) (by kernel_rfl) (by simp) (AllReadyH.cons rfl (fun K hK => ?_) AllReadyH.nil)
      refine step_appendFr _ rfl (.tmp 27) (.tmp 40) rfl (w.heap.size + 1) (.slice (some ⟨g, 0, none⟩) k c) _ _ k 1 _ 0 1 HEl.out rfl HOa.out (by simp) rfl HFn.out (by omega) hsza ?_
      intro v4 w4 hA
      obtain ⟨g4, c4, rfl, ho4, hb4, -, -⟩ := hA
      have HB4 := Lib.hid (HBa.out.trans (hb4.mono (Nat.le_succ _)))
      refine hK.out _ _ (HS0.out _ HB4.out) (fun hHeld => ?_)
      clear hK K
      (try simp only [Act.put, List.getElem_toArray, List.getElem_cons_zero, List.getElem_cons_succ, List.setIfInBounds_toArray, List.set_cons_zero, List.set_cons_succ])
      refine wpAnyH_ready (rs := [15]) (by kernel_rfl) (by simp) (AllReadyH.cons rfl (fun K hK => ?_) AllReadyH.nil)
      go_simp
      refine hK.out _ _ (HS0.out _ HB4.out) (fun hHeld => ?_)
      clear hK K
      (try simp only [Act.put, List.getElem_toArray, List.getElem_cons_zero, List.getElem_cons_succ, List.setIfInBounds_toArray, List.set_cons_zero, List.set_cons_succ])
      refine wpAnyH_done (by kernel_rfl) ?_ _
      rw [← HEa.out] at ho4
      have HO4 := Lib.hid ho4
      have HG4 : Hid (GBox w4 w.heap.size N a n cap) := by
        have hg := (HG3.out.below (b_draws w3 1)).below (b_alloc w3.drew (.cells #[.int .i64 e, .int .i64 p1, .int .i64 T] 77))
        exact ⟨(hb4.cell (p := ⟨w.heap.size, 0, none⟩) (Nat.lt_succ_self _)).trans hg.1, (hb4.cell (p := ⟨w.heap.size, 1, none⟩) (Nat.lt_succ_self _)).trans hg.2⟩
      clear ho4 hb4
      go_wp2
      go_roundw
      case rel => exact ⟨k + 1, _, _, by omega, by go_num, rfl, HO4, HG4, HB4⟩
      case measure => simp [intOf]; omega
    · obtain rfl : k = fn := by omega
      have HOf := Lib.hid (HO.out.mono (Nat.le_succ w.heap.size))
      go_wp2
      go_ret
      exact ⟨_, _, rfl, HOf.out, HB.out⟩
set_option maxRecDepth 100000 in
set_option maxHeartbeats 8000000 in
theorem sLatenessOf (x : Int) (a : Option Addr) (n cap : Nat) (l : List M.Pc) (fa : Option Addr) (fn fc : Nat) (L : List M.Fr) (w : World) (h : Pls w a n l) (hf : Frs w fa fn L) (hc : fn ≤ fc) (hcm : fc ≤ maxLen) :
    Calls Try.prog 31 #[.agg #[.int .i64 x, .slice a n cap], .slice fa fn fc] w (VRes (M.latRes x l L) w) := by
  have HI := Lib.hid h
  have HFr := Lib.hid hf
  have HLn : Hid (L.length = fn) := hf.1
  have hfm := hf.2.1
  unfold maxLen at hfm
  have hb0 := b_alloc w (.cells #[.int .i64 x, .slice a n cap] 41)
  have hGb := gBox_new w x a n cap 41
  obtain ⟨wb, hwb⟩ : ∃ z, z = w.alloc (.cells #[.int .i64 x, .slice a n cap] 41) := ⟨_, rfl⟩
  rw [← hwb] at hb0 hGb
  have HB0 := Lib.hid hb0
  have HGb := Lib.hid hGb
  obtain ⟨C, hC⟩ : ∃ C, C = M.rcode x l L := ⟨_, rfl⟩
  have HS : Hid (Calls Try.prog 74 #[.agg #[.int .i64 x, .slice a n cap], .slice fa fn fc] wb fun z w' => z = .returned (.int .i64 C) ∧ Below wb.heap.size wb w') := by rw [hC]; exact sCode14 x a n cap l fa fn fc L wb (h.below hb0) (hf.below hb0) hc hcm
  have HCe := Lib.hid hC
  obtain ⟨Z, hZ⟩ : ∃ Z, Z = M.latRes x l L := ⟨_, rfl⟩
  rw [← hZ]
  have HZ := Lib.hid hZ
  clear h hf hb0 hGb hC hZ
  go_enter Try.func31, Try.ntmps31
  go_wp2_with fail
  rw [← hwb]
  clear hwb
  refine (HS.out).mono ?_
  rintro z w1 ⟨rfl, hb1⟩
  have HB1 := Lib.hid (HB0.out.trans (hb1.mono HB0.out.size))
  have HG1 := Lib.hid (HGb.out.below hb1)
  clear hb1 HS HB0 HGb
  go_wp2
  go_loopw [7, 8] (fun mv kv wr => ∃ (k : Nat), k ≤ fn ∧ kv = .int .i64 k ∧ mv = .int .i64 (M.mstK L k) ∧ wr = w1) (fun _ kv _ => fn - (intOf kv).toNat)
  case atStart => exact ⟨0, Nat.zero_le _, rfl, rfl, rfl⟩
  case round =>
    obtain ⟨k, hk, rfl, rfl, rfl⟩ := hrel
    by_cases hkl : k < fn
    · have hki : (k : Int) < (fn : Int) := by omega
      obtain ⟨pb, off, p0, p1, p2, rfl, -, hp, c0, c1, c2⟩ := (HFr.out.below HB1.out).at k hkl
      obtain ⟨m, hm⟩ : ∃ m, m = M.mstK L k := ⟨_, rfl⟩
      have HN : Hid (M.mstK L (k + 1) = max m p1) := by show max (M.mstK L k) (L.getD k M.fz).2.1 = _; rw [hp, hm]
      rw [← hm]
      clear hp hm
      go_wp2
      go_roundw
      case rel =>
        refine ⟨k + 1, by omega, by go_num, ?_, by first | rfl | trivial⟩
        rw [HN.out]
        first
          | rfl
          | (congr 1; split <;> omega)
          | (congr 1; omega)
      case measure => simp [intOf]; omega
    · obtain rfl : k = fn := by omega
      obtain ⟨m, hm⟩ : ∃ m, m = M.mstK L k := ⟨_, rfl⟩
      have HMs : Hid (M.fewB L = decide (m ≤ 50)) := by show _ = _; rw [M.few_mst, HLn.out, hm]
      rw [← hm]
      clear hm
      by_cases h0 : C = 0
      · have HZ2 : Hid (Z = if M.fewB L then (M.latK l L k, 0) else ([], 2)) := by
          show _ = _
          obtain ⟨N, rfl, -, -, -⟩ := M.rcode_zero (HCe.out.symm.trans h0)
          rw [HZ.out, M.latRes_yes (HCe.out.symm.trans h0), HLn.out]
        have h0' : (C == 0) = true := by simp [h0]
        by_cases h50 : m > 50
        · have HE : Hid (Z = ([], 2)) := by show _ = _; rw [HZ2.out, HMs.out, decide_eq_false (by omega)]; rfl
          clear h0 HZ HZ2
          go_wp2
          go_ret2
          exact VRes.nil HE.out HB1.out
        · have HE : Hid (Z = (M.latK l L k, 0)) := by show _ = _; rw [HZ2.out, HMs.out, decide_eq_true (by omega)]; rfl
          have h0n : (C != 0) = false := by simp [h0]
          obtain ⟨N, rfl, hg, hl5, hrun⟩ := M.rcode_zero (HCe.out.symm.trans h0)
          have HG := Lib.hid hg
          have HRun := Lib.hid hrun
          have HPt : Hid (∀ p ∈ l, 0 ≤ p.2.2.2) := fun p hp => (gr_allF hg p hp).2
          have hfn : k ≤ 500 := by rw [HLn.out] at hl5; exact hl5
          have HEr := Lib.hid (sEarliest N a n cap l fa k fc L wr (HI.out.below HB1.out) hg (HFr.out.below HB1.out) hrun hfn)
          obtain ⟨g0, g1⟩ := HG1.out
          clear h0 HZ HZ2 hg hl5 hrun
          go_wp2_with fail
          refine (HEr.out).mono ?_
          rintro z w3 ⟨g, c3, rfl, ho3, hb3⟩
          have HB3 := Lib.hid (HB1.out.trans (hb3.mono HB1.out.size))
          have HOt := Lib.hid ho3
          have hO0 : Hid (Own (w3.alloc (.cells #[] 2)) w3.heap.size (.slice (some ⟨w3.heap.size, 0, none⟩) 0 0) (M.latK l L 0)) := own_lit0 w3 _ (Nat.le_refl _)
          have hB4 : Hid (Below w3.heap.size w3 (w3.alloc (.cells #[] 2))) := b_alloc w3 _
          clear ho3 hb3 HEr g0 g1 HG1
          go_wp2
          go_loopw [10, 11] (fun lv kv wr => ∃ (i : Nat) (b : Option Addr) (c : Nat), i ≤ k ∧ kv = .int .i64 i ∧ lv = .slice b i c ∧ Hid (Own wr w3.heap.size (.slice b i c) (M.latK l L i)) ∧ Hid (Below w3.heap.size w3 wr)) (fun _ kv _ => k - (intOf kv).toNat)
          case atStart => exact ⟨0, _, _, Nat.zero_le _, rfl, rfl, hO0, hB4⟩
          case round =>
            obtain ⟨i, b, c, hi, rfl, rfl, HO, HB⟩ := hrel
            obtain ⟨wo, rfl⟩ : ∃ x, x = wr := ⟨_, rfl⟩
            clear hO0 hB4
            by_cases hil : i < k
            · have hii : (i : Int) < (k : Int) := by omega
              have hiL : i < L.length := by rw [HLn.out]; exact hil
              obtain ⟨pb, off, p0, p1, p2, rfl, hplt, hp, -, -, c2⟩ := HFr.out.at i hil
              obtain ⟨tb, to, q0, q1, q2, htb, htlt, hq, -, -, t2⟩ := (HOt.out.frs).at i hil
              injection htb with htb
              injection htb with e1 e2
              subst e1 e2
              have hbd := M.eaT_bd hiL HRun.out HPt.out
              have hcan := M.runK_can hiL HRun.out
              obtain ⟨-, -, -, -, d5⟩ := M.canB_iff.1 hcan
              rw [M.eaL_get l L hil] at hq
              obtain ⟨T, hT⟩ : ∃ T, T = M.eaT l (M.eaL l L i) (L.getD i M.fz) := ⟨_, rfl⟩
              rw [← hT] at hq hbd
              injection hq with _ hq
              injection hq with _ hq
              subst hq
              have HLk : Hid (M.latK l L (i + 1) = M.latK l L i ++ [p2 - T]) := by show M.latK l L i ++ _ = _; rw [← hT, hp]
              rw [hp] at hbd d5
              simp only at hbd d5
              have HLl : Hid ((M.latK l L i).length = i) := M.latK_len _ _ _
              have hw1 : wrap64 (p2 - T) = p2 - T := IntWalk.wrap64_in _ ⟨by omega, by omega⟩
              have hw1' : IntKind.i64.wrap (p2 - T) = p2 - T := IntWalk.i64_in _ (by omega)
              rw [Nat.zero_add] at t2
              have HS0 : Hid (∀ w', Below w3.heap.size w3 w' → w'.cell? ⟨pb, off + i * 3 + 2, none⟩ = some (.int .i64 p2) ∧ w'.cell? ⟨g, i * 3 + 2, none⟩ = some (.int .i64 T) ∧ Below w3.heap.size w3 w') := fun w' hb => ⟨((HB3.out.trans (hb.mono HB3.out.size)).cell (p := ⟨pb, off + i * 3 + 2, none⟩) hplt).trans c2, (hb.cell (p := ⟨g, i * 3 + 2, none⟩) htlt).trans t2, hb⟩
              have HBd : Hid (Below w3.heap.size w3 wo.drew) := HB.out.drew
              have HBa : Hid (Below w3.heap.size w3 (wo.drew.alloc (.cells #[.int .i64 (p2 - T)] 2))) := HBd.out.alloc HBd.out.size _
              have HOa : Hid (Own (wo.drew.alloc (.cells #[.int .i64 (p2 - T)] 2)) w3.heap.size (.slice b i c) (M.latK l L i)) := (HO.out.below (b_draws wo 1)).below (b_alloc wo.drew _)
              have HCa : Hid ((wo.drew.alloc (.cells #[.int .i64 (p2 - T)] 2)).cell? ⟨wo.heap.size, 0, none⟩ = some (.int .i64 (p2 - T))) := by show _ = _; simp [go_sem]
              have hsza : w3.heap.size ≤ (wo.drew.alloc (.cells #[.int .i64 (p2 - T)] 2)).heap.size := HBa.out.size
              clear hp hbd hcan d5 hT c2 t2
              go_wp2
              refine wp_region_held_drew (S := fun w' => w'.cell? ⟨pb, off + i * 3 + 2, none⟩ = some (.int .i64 p2) ∧ w'.cell? ⟨g, i * 3 + 2, none⟩ = some (.int .i64 T) ∧ Below w3.heap.size w3 w') (by kernel_rfl) ?_ (fun hHeld => ?_)
              · exact HS0.out _ HBd.out
              refine wpAnyH_take (i := 0) (v := ?vq0) rfl (by kernel_rfl) (by kernel_rfl) (by kernel_rfl) (fun _ _ _ h => h) (Or.inl ⟨by rfl, ?hyq0⟩) (by assumption) ?restq0
              case hyq0 => (intro wy hSw; (try dsimp only at hSw); obtain ⟨s0, s1, s2⟩ := hSw; go_simp; try with_reducible rfl)
              (try simp only [Act.put, List.getElem_toArray, List.getElem_cons_zero, List.getElem_cons_succ, List.setIfInBounds_toArray, List.set_cons_zero, List.set_cons_succ])
              refine wpAnyH_take (i := 1) (v := ?vq1) rfl (by kernel_rfl) (by kernel_rfl) (by kernel_rfl) (fun _ _ _ h => h) (Or.inl ⟨by rfl, ?hyq1⟩) (by assumption) ?restq1
              case hyq1 => (intro wy hSw; (try dsimp only at hSw); obtain ⟨s0, s1, s2⟩ := hSw; go_simp; try with_reducible rfl)
              (try simp only [Act.put, List.getElem_toArray, List.getElem_cons_zero, List.getElem_cons_succ, List.setIfInBounds_toArray, List.set_cons_zero, List.set_cons_succ])
              refine wpAnyH_take (i := 2) (v := ?vq2) rfl (by kernel_rfl) (by kernel_rfl) (by kernel_rfl) (fun _ _ _ h => h) (Or.inl ⟨by rfl, ?hyq2⟩) (by assumption) ?restq2
              case hyq2 => (intro wy hSw; (try dsimp only at hSw); obtain ⟨s0, s1, s2⟩ := hSw; go_simp; try with_reducible rfl)
              (try simp only [Act.put, List.getElem_toArray, List.getElem_cons_zero, List.getElem_cons_succ, List.setIfInBounds_toArray, List.set_cons_zero, List.set_cons_succ])
              refine wpAnyH_take (i := 3) (v := ?vq3) rfl (by kernel_rfl) (by kernel_rfl) (by kernel_rfl) (fun _ _ _ h => h) (Or.inl ⟨by rfl, ?hyq3⟩) (by assumption) ?restq3
              case hyq3 => (intro wy hSw; (try dsimp only at hSw); obtain ⟨s0, s1, s2⟩ := hSw; go_simp; try with_reducible rfl)
              (try simp only [Act.put, List.getElem_toArray, List.getElem_cons_zero, List.getElem_cons_succ, List.setIfInBounds_toArray, List.set_cons_zero, List.set_cons_succ])
              refine wpAnyH_take (i := 4) (v := ?vq4) rfl (by kernel_rfl) (by kernel_rfl) (by kernel_rfl) (fun _ _ _ h => h) (Or.inl ⟨by rfl, ?hyq4⟩) (by assumption) ?restq4
              case hyq4 => (intro wy hSw; (try dsimp only at hSw); obtain ⟨s0, s1, s2⟩ := hSw; go_simp; try with_reducible rfl)
              (try simp only [Act.put, List.getElem_toArray, List.getElem_cons_zero, List.getElem_cons_succ, List.setIfInBounds_toArray, List.set_cons_zero, List.set_cons_succ])
              refine wpAnyH_take (i := 5) (v := ?vq5) rfl (by kernel_rfl) (by kernel_rfl) (by kernel_rfl) (fun _ _ _ h => h) (Or.inl ⟨by rfl, ?hyq5⟩) (by assumption) ?restq5
              case hyq5 => (intro wy hSw; (try dsimp only at hSw); obtain ⟨s0, s1, s2⟩ := hSw; go_simp; try with_reducible rfl)
              (try simp only [Act.put, List.getElem_toArray, List.getElem_cons_zero, List.getElem_cons_succ, List.setIfInBounds_toArray, List.set_cons_zero, List.set_cons_succ])
              refine wpAnyH_take (i := 6) (v := ?vq6) rfl (by kernel_rfl) (by kernel_rfl) (by kernel_rfl) (fun _ _ _ h => h) (Or.inl ⟨by rfl, ?hyq6⟩) (by assumption) ?restq6
              case hyq6 => (intro wy hSw; (try dsimp only at hSw); obtain ⟨s0, s1, s2⟩ := hSw; go_simp; try with_reducible rfl)
              (try simp only [Act.put, List.getElem_toArray, List.getElem_cons_zero, List.getElem_cons_succ, List.setIfInBounds_toArray, List.set_cons_zero, List.set_cons_succ])
              refine wpAnyH_take (i := 7) (v := ?vq7) rfl (by kernel_rfl) (by kernel_rfl) (by kernel_rfl) (fun _ _ _ h => h) (Or.inl ⟨by rfl, ?hyq7⟩) (by assumption) ?restq7
              case hyq7 => (intro wy hSw; (try dsimp only at hSw); obtain ⟨s0, s1, s2⟩ := hSw; go_simp; try with_reducible rfl)
              (try simp only [Act.put, List.getElem_toArray, List.getElem_cons_zero, List.getElem_cons_succ, List.setIfInBounds_toArray, List.set_cons_zero, List.set_cons_succ])
              refine wpAnyH_take (i := 8) (v := ?vq8) rfl (by kernel_rfl) (by kernel_rfl) (by kernel_rfl) (fun _ _ _ h => h) (Or.inl ⟨by rfl, ?hyq8⟩) (by assumption) ?restq8
              case hyq8 => (intro wy hSw; (try dsimp only at hSw); obtain ⟨s0, s1, s2⟩ := hSw; go_simp; try with_reducible rfl)
              (try simp only [Act.put, List.getElem_toArray, List.getElem_cons_zero, List.getElem_cons_succ, List.setIfInBounds_toArray, List.set_cons_zero, List.set_cons_succ])
              refine wpAnyH_take (i := 9) (v := ?vq9) rfl (by kernel_rfl) (by kernel_rfl) (by kernel_rfl) (fun _ _ _ h => h) (Or.inl ⟨by rfl, ?hyq9⟩) (by assumption) ?restq9
              case hyq9 => (intro wy hSw; (try dsimp only at hSw); obtain ⟨s0, s1, s2⟩ := hSw; go_simp; try with_reducible rfl)
              (try simp only [Act.put, List.getElem_toArray, List.getElem_cons_zero, List.getElem_cons_succ, List.setIfInBounds_toArray, List.set_cons_zero, List.set_cons_succ])
              refine wpAnyH_take (i := 10) (v := ?vq10) rfl (by kernel_rfl) (by kernel_rfl) (by kernel_rfl) (fun _ _ _ h => h) (Or.inl ⟨by rfl, ?hyq10⟩) (by assumption) ?restq10
              case hyq10 => (intro wy hSw; (try dsimp only at hSw); obtain ⟨s0, s1, s2⟩ := hSw; go_simp; try with_reducible rfl)
              (try simp only [Act.put, List.getElem_toArray, List.getElem_cons_zero, List.getElem_cons_succ, List.setIfInBounds_toArray, List.set_cons_zero, List.set_cons_succ])
              refine wpAnyH_take (i := 11) (v := ?vq11) rfl (by kernel_rfl) (by kernel_rfl) (by kernel_rfl) (fun _ _ _ h => h) (Or.inl ⟨by rfl, ?hyq11⟩) (by assumption) ?restq11
              case hyq11 => (intro wy hSw; (try dsimp only at hSw); obtain ⟨s0, s1, s2⟩ := hSw; go_simp; try with_reducible rfl)
              (try simp only [Act.put, List.getElem_toArray, List.getElem_cons_zero, List.getElem_cons_succ, List.setIfInBounds_toArray, List.set_cons_zero, List.set_cons_succ])
              refine wpAnyH_ready (rs := [12]) (by kernel_rfl) (by simp) (AllReadyH.cons rfl (fun K hK => ?_) AllReadyH.nil)
              go_simp
              refine hK.out _ _ (HS0.out _ HBa.out) (fun hHeld => ?_)
              clear hK K
              (try simp only [Act.put, List.getElem_toArray, List.getElem_cons_zero, List.getElem_cons_succ, List.setIfInBounds_toArray, List.set_cons_zero, List.set_cons_succ])
              refine wpAnyH_ready (rs := [13]) (by kernel_rfl) (by simp) (AllReadyH.cons rfl (fun K hK => ?_) AllReadyH.nil)
              refine step_append3F _ rfl (.tmp 47) (.tmp 59) rfl w3.heap.size _ _ _ _ i HLl.out rfl HOa.out rfl HCa.out (by omega) hsza ?_
              intro b5 c5 w5 hO5 hb5 _ _
              have HB5 := Lib.hid (HBa.out.trans hb5)
              refine hK.out _ _ (HS0.out _ HB5.out) (fun hHeld => ?_)
              clear hK K
              (try simp only [Act.put, List.getElem_toArray, List.getElem_cons_zero, List.getElem_cons_succ, List.setIfInBounds_toArray, List.set_cons_zero, List.set_cons_succ])
              refine wpAnyH_ready (rs := [14]) (by kernel_rfl) (by simp) (AllReadyH.cons rfl (fun K hK => ?_) AllReadyH.nil)
              go_simp
              refine hK.out _ _ (HS0.out _ HB5.out) (fun hHeld => ?_)
              clear hK K
              (try simp only [Act.put, List.getElem_toArray, List.getElem_cons_zero, List.getElem_cons_succ, List.setIfInBounds_toArray, List.set_cons_zero, List.set_cons_succ])
              refine wpAnyH_done (by kernel_rfl) ?_ _
              rw [← HLk.out] at hO5
              have HO5 := Lib.hid hO5
              clear hO5 hb5
              go_wp2
              go_roundw
              case rel => exact ⟨i + 1, _, _, by omega, by go_num, rfl, HO5, HB5⟩
              case measure => simp [intOf]; omega
            · obtain rfl : i = k := by omega
              have HOf := Lib.hid (HO.out.mono HB3.out.size)
              have HBf := Lib.hid (HB3.out.trans (HB.out.mono HB3.out.size))
              go_wp2
              go_ret2
              rw [HE.out]
              exact ⟨_, _, _, rfl, HOf.out, HBf.out⟩
      · have h0' : (C == 0) = false := by simpa using h0
        have h0n : (C != 0) = true := by simpa using h0
        have HR : Hid (Z = ([], C)) := HZ.out.trans (M.latRes_no HCe.out.symm h0)
        clear h0 HZ
        go_wp2
        go_ret2
        exact VRes.nil HR.out HB1.out
end V
end Go.Proofs.Ytjbffpmelglegaa
