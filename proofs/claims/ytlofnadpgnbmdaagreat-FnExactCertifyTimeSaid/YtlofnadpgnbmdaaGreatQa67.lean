/- Texts laid together: Crj, Crk. -/
import Derived.Test.YtlofnadpgnbmdaaGreatQa61
import Derived.Test.YtlofnadpgnbmdaaGreatQa65
import Derived.Test.YtlofnadpgnbmdaaGreatQa32
set_option linter.unusedSimpArgs false
set_option linter.unusedVariables false
set_option linter.unusedSectionVars false
namespace Go.Proofs.YtlofnadpgnbmdaaGreat
namespace M
def bcRes (x : Int) (l : List Pc) : List Int × Int := if lvCode x l = 0 then (if allC l 10 = [] then ([], 4) else (bstL l (allC l 10), 0)) else ([], lvCode x l)
def ctRes (x : Int) (l : List Pc) : (Int × Int) × Int := if (bcRes x l).2 = 0 then (cirQ l (bcRes x l).1, 0) else ((0, 0), (bcRes x l).2)
theorem lv_tok {N : Nat} {l : List Pc} (h : lvCode (N : Int) l = 0) : isGr (N : Int) l = true ∧ ∀ c, cirB l c = true → tkS l c ≠ 0 := by
  obtain ⟨h1, h2⟩ := lv_zero h
  refine ⟨h1, fun c hc => ?_⟩
  have := cir_live (gr_ev h1).1 (by simpa using h2) hc
  omega
theorem lv_nat {x : Int} {l : List Pc} (h : lvCode x l = 0) : ∃ N : Nat, x = (N : Int) := gr_nat (lv_zero h).1
theorem bc_zero {N : Nat} {l : List Pc} (h : (bcRes (N : Int) l).2 = 0) : lvCode (N : Int) l = 0 ∧ allC l 10 ≠ [] ∧ (bcRes (N : Int) l).1 = bstL l (allC l 10) ∧ bstL l (allC l 10) ∈ allC l 10 ∧ cirB l (bstL l (allC l 10)) = true := by
  unfold bcRes at h ⊢
  by_cases h1 : lvCode (N : Int) l = 0
  · rw [if_pos h1] at h ⊢
    by_cases h2 : allC l 10 = []
    · rw [if_pos h2] at h; exact absurd h (by decide)
    · rw [if_neg h2]
      obtain ⟨g1, g2⟩ := lv_tok h1
      obtain ⟨he, -, hN, -⟩ := gr_ev g1
      obtain ⟨c, hc⟩ := List.exists_mem_of_ne_nil _ h2
      have := (bst_ge (posi_all he hN g2 10) hc).1
      exact ⟨h1, h2, rfl, this, (all_mem this).1⟩
  · rw [if_neg h1] at h; exact absurd h h1
theorem bcRes_len (x : Int) (l : List Pc) : (bcRes x l).1.length ≤ 30 := by
  by_cases h : lvCode x l = 0
  · obtain ⟨N, rfl⟩ := lv_nat h
    by_cases h2 : (bcRes (N : Int) l).2 = 0
    · obtain ⟨h3, -, h4, -, h5⟩ := bc_zero h2
      obtain ⟨he, -, hN, -⟩ := gr_ev (lv_zero h3).1
      have := cir_len he h5
      rw [h4]; omega
    · unfold bcRes at h2 ⊢
      rw [if_pos h] at h2 ⊢
      by_cases h3 : allC l 10 = []
      · rw [if_pos h3]; simp
      · rw [if_neg h3] at h2; exact absurd rfl h2
  · unfold bcRes; rw [if_neg h]; simp
end M
namespace V
set_option maxRecDepth 100000
open Go.RowKit
set_option maxRecDepth 100000 in
set_option maxHeartbeats 2000000 in
theorem bestCircuitI (x : Int) (a : Option Addr) (n cap : Nat) (l : List M.Pc) (w : World) (h : Pls w a n l) :
    Calls Tryz.prog 25 #[.agg #[.int .i64 x, .slice a n cap]] w (VRes (M.bcRes x l) w) := by
  have hb0 := b_alloc w (.cells #[.int .i64 x, .slice a n cap] 26)
  have hG := gBox_new w x a n cap 26
  obtain ⟨wb, hwb⟩ : ∃ z, z = w.alloc (.cells #[.int .i64 x, .slice a n cap] 26) := ⟨_, rfl⟩
  rw [← hwb] at hb0 hG
  have HB0 := Lib.hid hb0
  have HG := Lib.hid hG
  have HWb := Lib.hid hwb.symm
  have HC : Hid (Calls Tryz.prog 45 #[.agg #[.int .i64 x, .slice a n cap], .bool true] wb (VRes (M.lvoRes x l true) wb)) := liveOrder x a n cap l true wb (h.below hb0)
  have hlo : (M.lvoRes x l true).2 = M.lvCode x l := by
    unfold M.lvoRes
    rw [M.inCode_true]
    split
    · next q => exact q.symm
    · rfl
  obtain ⟨R, hR⟩ : ∃ R, R = M.lvoRes x l true := ⟨_, rfl⟩
  rw [← hR] at HC hlo
  by_cases h0 : M.lvCode x l = 0
  · obtain ⟨N, rfl⟩ := M.lv_nat h0
    obtain ⟨g1, g2⟩ := M.lv_tok h0
    have hR2 : R.2 = 0 := hlo.trans h0
    have HBc : Hid (∀ W, Below w.heap.size w W → Calls Tryz.prog 77 #[.agg #[.int .i64 N, .slice a n cap]] W fun e w' => ∃ v, e = .returned v ∧ Below W.heap.size W w' ∧ ((M.allC l 10 = [] ∧ v = .slice none 0 0) ∨ (M.allC l 10 ≠ [] ∧ ∃ b m c, v = .slice (some ⟨b, 0, none⟩) m c ∧ Own w' W.heap.size (.slice (some ⟨b, 0, none⟩) m c) (M.bstL l (M.allC l 10))))) := fun W hW => bestCircuitP N a n cap l W (h.below hW) g1 g2
    have HE : Hid (M.bcRes N l = if M.allC l 10 = [] then ([], 4) else (M.bstL l (M.allC l 10), 0)) := by show _ = _; unfold M.bcRes; rw [if_pos h0]
    have hnil0 := fun w : World => Lib.run_eql_slice_nil (P := Tryz.prog) w 92 2 none 0 0 0 0 Tryz.underlying92
    clear h hb0 hG hwb hlo hR g1 g2 h0
    obtain ⟨R1, R2⟩ := R
    have hR3 : R2 = 0 := hR2
    clear hR2
    subst hR3
    obtain ⟨g0, g1⟩ := HG.out
    go_enter Tryz.func25, Tryz.ntmps25
    go_wp2_with fail
    rw [HWb.out]
    refine HC.out.mono ?_
    rintro e w1 ⟨b1, n1, c1, rfl, -, hb⟩
    have HB1 := Lib.hid (HB0.out.trans (hb.mono HB0.out.size))
    have HG1 := Lib.hid (HG.out.below hb)
    clear hb g0 g1 HC
    obtain ⟨g0, g1⟩ := HG1.out
    go_wp2_with fail
    refine (HBc.out _ HB1.out).mono ?_
    rintro e w2 ⟨v, rfl, hb, ⟨h1, rfl⟩ | ⟨h1, b, m, c, rfl, ho⟩⟩
    · have HE2 : Hid (M.bcRes N l = ([], 4)) := HE.out.trans (if_pos h1)
      have HB2 := Lib.hid (HB1.out.trans (hb.mono HB1.out.size))
      clear hb g0 g1 h1
      go_wp2
      go_ret2
      exact VRes.nil HE2.out HB2.out
    · have HE2 : Hid (M.bcRes N l = (M.bstL l (M.allC l 10), 0)) := HE.out.trans (if_neg h1)
      have HB2 := Lib.hid (HB1.out.trans (hb.mono HB1.out.size))
      have HO2 := Lib.hid (ho.mono HB1.out.size)
      have hnil1 := fun w : World => Lib.run_eql_slice_nil (P := Tryz.prog) w 92 2 (some (⟨b, 0, none⟩ : Addr)) m c 0 0 Tryz.underlying92
      clear hb g0 g1 h1 ho
      go_wp2
      go_ret2
      rw [HE2.out]
      exact ⟨_, _, _, rfl, HO2.out, HB2.out⟩
  · have HE : Hid (M.bcRes x l = ([], M.lvCode x l)) := by show _ = _; unfold M.bcRes; rw [if_neg h0]
    have hR2 : R.2 ≠ 0 := by rw [hlo]; exact h0
    rw [← hlo] at HE
    clear h hb0 hG hwb hlo hR h0
    obtain ⟨R1, R2⟩ := R
    have hR2b : (R2 != 0) = true := by simpa using hR2
    clear hR2
    obtain ⟨g0, g1⟩ := HG.out
    go_enter Tryz.func25, Tryz.ntmps25
    go_wp2_with fail
    rw [HWb.out]
    refine HC.out.mono ?_
    rintro e w1 ⟨b1, n1, c1, rfl, -, hb⟩
    have HB1 := Lib.hid (HB0.out.trans (hb.mono HB0.out.size))
    clear hb g0 g1 HC
    go_wp2
    go_ret2
    exact VRes.nil HE.out HB1.out
set_option maxRecDepth 100000 in
set_option maxHeartbeats 2000000 in
theorem sBestCircuitS (x : Int) (a : Option Addr) (n cap : Nat) (l : List M.Pc) (w : World) (h : Pls w a n l) :
    Calls Tryz.prog 26 #[.agg #[.int .i64 x, .slice a n cap]] w (VRes (M.bcRes x l) w) := by
  have hb0 := b_alloc w (.cells #[.int .i64 x, .slice a n cap] 26)
  have hG := gBox_new w x a n cap 26
  obtain ⟨wb, hwb⟩ : ∃ z, z = w.alloc (.cells #[.int .i64 x, .slice a n cap] 26) := ⟨_, rfl⟩
  rw [← hwb] at hb0 hG
  have HB0 := Lib.hid hb0
  have HG := Lib.hid hG
  have HWb := Lib.hid hwb.symm
  have HC := Lib.hid (sLive x a n cap l wb (h.below hb0))
  by_cases h0 : M.lvCode x l = 0
  · obtain ⟨N, rfl⟩ := M.lv_nat h0
    obtain ⟨g1, g2⟩ := M.lv_tok h0
    have HBc : Hid (∀ W, Below w.heap.size w W → Calls Tryz.prog 78 #[.agg #[.int .i64 N, .slice a n cap]] W fun e w' => ∃ b' n' c', e = .returned (.tuple #[.slice b' n' c', .bool (decide (M.allC l 10 ≠ []))]) ∧ Own w' W.heap.size (.slice b' n' c') (M.bstL l (M.allC l 10)) ∧ Below W.heap.size W w') := fun W hW => sBestC N a n cap l W (h.below hW) g1 g2
    have HE : Hid (M.bcRes N l = if M.allC l 10 = [] then ([], 4) else (M.bstL l (M.allC l 10), 0)) := by show _ = _; unfold M.bcRes; rw [if_pos h0]
    rw [h0] at HC
    clear h hb0 hG hwb g1 g2 h0
    obtain ⟨g0, g1⟩ := HG.out
    go_enter Tryz.func26, Tryz.ntmps26
    go_wp2_with fail
    rw [HWb.out]
    refine HC.out.mono ?_
    rintro e w1 ⟨rfl, hb⟩
    have HB1 := Lib.hid (HB0.out.trans (hb.mono HB0.out.size))
    have HG1 := Lib.hid (HG.out.below hb)
    clear hb g0 g1 HC
    obtain ⟨g0, g1⟩ := HG1.out
    go_wp2_with fail
    refine (HBc.out _ HB1.out).mono ?_
    rintro e w2 ⟨b, m, c, rfl, ho, hb⟩
    have HB2 := Lib.hid (HB1.out.trans (hb.mono HB1.out.size))
    have HO2 := Lib.hid (ho.mono HB1.out.size)
    clear hb g0 g1 ho HBc
    by_cases h1 : M.allC l 10 = []
    · have HE2 : Hid (M.bcRes N l = ([], 4)) := HE.out.trans (if_pos h1)
      rw [decide_eq_false (fun q => q h1)]
      clear h1
      go_wp2
      go_ret2
      exact VRes.nil HE2.out HB2.out
    · have HE2 : Hid (M.bcRes N l = (M.bstL l (M.allC l 10), 0)) := HE.out.trans (if_neg h1)
      rw [decide_eq_true h1]
      clear h1
      go_wp2
      go_ret2
      rw [HE2.out]
      exact ⟨_, _, _, rfl, HO2.out, HB2.out⟩
  · have HE : Hid (M.bcRes x l = ([], M.lvCode x l)) := by show _ = _; unfold M.bcRes; rw [if_neg h0]
    obtain ⟨R2, hR2⟩ : ∃ z, z = M.lvCode x l := ⟨_, rfl⟩
    rw [← hR2] at HE HC h0
    have hR2b : (R2 != 0) = true := by simpa using h0
    clear h hb0 hG hwb hR2 h0
    obtain ⟨g0, g1⟩ := HG.out
    go_enter Tryz.func26, Tryz.ntmps26
    go_wp2_with fail
    rw [HWb.out]
    refine HC.out.mono ?_
    rintro e w1 ⟨rfl, hb⟩
    have HB1 := Lib.hid (HB0.out.trans (hb.mono HB0.out.size))
    clear hb g0 g1 HC
    go_wp2
    go_ret2
    exact VRes.nil HE.out HB1.out
end V
end Go.Proofs.YtlofnadpgnbmdaaGreat

namespace Go.Proofs.YtlofnadpgnbmdaaGreat
namespace V
set_option maxRecDepth 100000
open Go.RowKit
set_option maxRecDepth 100000 in
set_option maxHeartbeats 2000000 in
theorem cycleTimeI (x : Int) (a : Option Addr) (n cap : Nat) (l : List M.Pc) (w : World) (h : Pls w a n l) :
    Calls Tryz.prog 20 #[.agg #[.int .i64 x, .slice a n cap]] w fun e w' => e = .returned (.tuple #[.agg #[.int .i64 (M.ctRes x l).1.1, .int .i64 (M.ctRes x l).1.2], .int .i64 (M.ctRes x l).2]) ∧ Below w.heap.size w w' := by
  obtain ⟨wb, hwb⟩ : ∃ z, z = (w.alloc (.cells #[.int .i64 x, .slice a n cap] 26)).alloc (.cells #[.int .i64 0, .int .i64 0] 37) := ⟨_, rfl⟩
  have hK0 : KR w wb w.heap.size w.heap.size (w.heap.size + 1) x a n cap := by
    have := RR.new (w.alloc (.cells #[.int .i64 x, .slice a n cap] 26)) 0 0
    rw [World.size_alloc] at this
    rw [hwb]
    exact ⟨(gBox_new w x a n cap 26).below (b_alloc _ _), ⟨_, this⟩, b_alloc2 w _ _⟩
  have HC := Lib.hid (bestCircuitI x a n cap l wb (h.below hK0.2.2))
  have HWb := Lib.hid hwb.symm
  have HK := Lib.hid hK0
  by_cases h0 : (M.bcRes x l).2 = 0
  · have hN : ∃ N : Nat, x = (N : Int) := by
      by_cases hq : M.lvCode x l = 0
      · exact M.lv_nat hq
      · unfold M.bcRes at h0; rw [if_neg hq] at h0; exact absurd h0 hq
    obtain ⟨N, rfl⟩ := hN
    obtain ⟨h1, h2, h3, h4, h5⟩ := M.bc_zero h0
    obtain ⟨g1, g2⟩ := M.lv_tok h1
    obtain ⟨he, N1, N2, l30⟩ := M.gr_ev g1
    have HR : Hid (M.ctRes N l = (M.cirQ l (M.bstL l (M.allC l 10)), 0)) := by show _ = _; unfold M.ctRes; rw [if_pos h0, h3]
    obtain ⟨r, hr⟩ : ∃ r, r = M.bcRes N l := ⟨_, rfl⟩
    rw [← hr] at HC h0 h3
    obtain ⟨r1, r2⟩ := r
    have h0' : r2 = 0 := h0
    have h3' : r1 = M.bstL l (M.allC l 10) := h3
    obtain ⟨Q, hQ⟩ : ∃ Q, Q = M.bstL l (M.allC l 10) := ⟨_, rfl⟩
    rw [← hQ] at HR h5 h3'
    subst h0' h3'
    have HRt : Hid (∀ W b m c, Below w.heap.size w W → Ints .i64 W b m r1 → Calls Tryz.prog 65 #[.slice b m c, .agg #[.int .i64 N, .slice a n cap]] W fun e w' => e = .returned (.agg #[.int .i64 (M.cirQ l r1).1, .int .i64 (M.cirQ l r1).2]) ∧ Below W.heap.size W w') := fun W b m c hW hI => cirratio N a n cap l b m c r1 W (h.below hW) g1 hI h5 (g2 _ h5)
    clear h hK0 hwb h0 h1 h2 h3 h4 h5 g1 g2 he hr hQ
    obtain ⟨⟨g0, g1⟩, -, -⟩ := HK.out
    go_enter Tryz.func20, Tryz.ntmps20
    go_wp2_with fail
    rw [HWb.out]
    refine HC.out.mono ?_
    rintro e w1 ⟨b1, n1, c1, rfl, ho, hb⟩
    have HK1 := Lib.hid (HK.out.step hb (Nat.le_refl _))
    have HO1 := Lib.hid ho
    clear hb g0 g1 HC ho
    obtain ⟨⟨g0, g1⟩, -, -⟩ := HK1.out
    go_wp2_with fail
    refine (HRt.out _ _ _ _ HK1.out.2.2 HO1.out.ints').mono ?_
    rintro e w2 ⟨rfl, hb⟩
    obtain ⟨-, ⟨⟨p0, p1⟩, hR⟩, hBl⟩ := HK1.out.step hb (Nat.le_refl _)
    obtain ⟨e0, e1⟩ := hR.c
    have f0 := hR.frozen 0
    have f1 := hR.frozen 1
    have z0 := hR.lt
    clear hb g0 g1
    go_wp2
    exact bodyPost_ret (v := .tuple #[.agg #[.int .i64 ((M.cirQ l r1).1), .int .i64 ((M.cirQ l r1).2)], .int .i64 0]) (by simp [results, Tryz.results20, go_sem, e0, e1, z0]) rfl ⟨by rw [HR.out], (hBl.setCell (p := ⟨w.heap.size + 1, 0, none⟩) (by show w.heap.size ≤ w.heap.size + 1; omega) _).setCell (p := ⟨w.heap.size + 1, 1, none⟩) (by show w.heap.size ≤ w.heap.size + 1; omega) _⟩
  · have HR : Hid (M.ctRes x l = ((0, 0), (M.bcRes x l).2)) := by show _ = _; unfold M.ctRes; rw [if_neg h0]
    obtain ⟨r, hr⟩ : ∃ r, r = M.bcRes x l := ⟨_, rfl⟩
    rw [← hr] at HC h0 HR
    obtain ⟨r1, r2⟩ := r
    have h0b : (r2 != 0) = true := by simpa using h0
    clear h hK0 hwb h0 hr
    obtain ⟨⟨g0, g1⟩, -, -⟩ := HK.out
    go_enter Tryz.func20, Tryz.ntmps20
    go_wp2_with fail
    rw [HWb.out]
    refine HC.out.mono ?_
    rintro e w1 ⟨b1, n1, c1, rfl, -, hb⟩
    obtain ⟨-, ⟨⟨p0, p1⟩, hR⟩, hBl⟩ := HK.out.step hb (Nat.le_refl _)
    obtain ⟨e0, e1⟩ := hR.c
    have f0 := hR.frozen 0
    have f1 := hR.frozen 1
    have z0 := hR.lt
    clear hb g0 g1
    go_wp2
    exact bodyPost_ret (v := .tuple #[.agg #[.int .i64 0, .int .i64 0], .int .i64 r2]) (by simp [results, Tryz.results20, go_sem, e0, e1, z0]) rfl ⟨by rw [HR.out], (hBl.setCell (p := ⟨w.heap.size + 1, 0, none⟩) (by show w.heap.size ≤ w.heap.size + 1; omega) _).setCell (p := ⟨w.heap.size + 1, 1, none⟩) (by show w.heap.size ≤ w.heap.size + 1; omega) _⟩
set_option maxRecDepth 100000 in
set_option maxHeartbeats 2000000 in
theorem sCycleTimeS (x : Int) (a : Option Addr) (n cap : Nat) (l : List M.Pc) (w : World) (h : Pls w a n l) :
    Calls Tryz.prog 27 #[.agg #[.int .i64 x, .slice a n cap]] w fun e w' => e = .returned (.tuple #[.agg #[.int .i64 (M.ctRes x l).1.1, .int .i64 (M.ctRes x l).1.2], .int .i64 (M.ctRes x l).2]) ∧ Below w.heap.size w w' := by
  obtain ⟨wb, hwb⟩ : ∃ z, z = (w.alloc (.cells #[.int .i64 x, .slice a n cap] 26)).alloc (.cells #[.int .i64 0, .int .i64 0] 37) := ⟨_, rfl⟩
  have hK0 : KR w wb w.heap.size w.heap.size (w.heap.size + 1) x a n cap := by
    have := RR.new (w.alloc (.cells #[.int .i64 x, .slice a n cap] 26)) 0 0
    rw [World.size_alloc] at this
    rw [hwb]
    exact ⟨(gBox_new w x a n cap 26).below (b_alloc _ _), ⟨_, this⟩, b_alloc2 w _ _⟩
  have HC := Lib.hid (sBestCircuitS x a n cap l wb (h.below hK0.2.2))
  have HWb := Lib.hid hwb.symm
  have HK := Lib.hid hK0
  by_cases h0 : (M.bcRes x l).2 = 0
  · have hN : ∃ N : Nat, x = (N : Int) := by
      by_cases hq : M.lvCode x l = 0
      · exact M.lv_nat hq
      · unfold M.bcRes at h0; rw [if_neg hq] at h0; exact absurd h0 hq
    obtain ⟨N, rfl⟩ := hN
    obtain ⟨h1, h2, h3, h4, h5⟩ := M.bc_zero h0
    obtain ⟨g1, g2⟩ := M.lv_tok h1
    obtain ⟨he, N1, N2, l30⟩ := M.gr_ev g1
    have HR : Hid (M.ctRes N l = (M.cirQ l (M.bstL l (M.allC l 10)), 0)) := by show _ = _; unfold M.ctRes; rw [if_pos h0, h3]
    obtain ⟨r, hr⟩ : ∃ r, r = M.bcRes N l := ⟨_, rfl⟩
    rw [← hr] at HC h0 h3
    obtain ⟨r1, r2⟩ := r
    have h0' : r2 = 0 := h0
    have h3' : r1 = M.bstL l (M.allC l 10) := h3
    obtain ⟨Q, hQ⟩ : ∃ Q, Q = M.bstL l (M.allC l 10) := ⟨_, rfl⟩
    rw [← hQ] at HR h5 h3'
    subst h0' h3'
    have hsb := M.sums_bd he N2 h5
    have htk := g2 _ h5
    have hcl := M.cir_len he h5
    have HSm : Hid (∀ W b m c, Below w.heap.size w W → Ints .i64 W b m r1 → Calls Tryz.prog 79 #[.agg #[.int .i64 N, .slice a n cap], .slice b m c] W fun e w' => e = .returned (.tuple #[.int .i64 (M.dlS l r1), .int .i64 (M.tkS l r1)]) ∧ Below W.heap.size W w') := fun W b m c hW hI => sSums N a n cap l N b m c r1 W (h.below hW) he hI (by rw [← h.1]; exact (M.cir_t h5).2.1) (by have := hI.1; omega)
    have HRr : Hid (∀ W, Calls Tryz.prog 80 #[.int .i64 (M.dlS l r1), .int .i64 (M.tkS l r1)] W fun e w' => e = .returned (.agg #[.int .i64 (M.cirQ l r1).1, .int .i64 (M.cirQ l r1).2]) ∧ Below W.heap.size W w') := fun W => sRatio (M.dlS l r1) (M.tkS l r1) W htk (by omega) (by omega) (by omega) (by omega)
    clear hsb htk hcl
    clear h hK0 hwb h0 h1 h2 h3 h4 h5 g1 g2 he hr hQ
    obtain ⟨⟨g0, g1⟩, -, -⟩ := HK.out
    go_enter Tryz.func27, Tryz.ntmps27
    go_wp2_with fail
    rw [HWb.out]
    refine HC.out.mono ?_
    rintro e w1 ⟨b1, n1, c1, rfl, ho, hb⟩
    have HK1 := Lib.hid (HK.out.step hb (Nat.le_refl _))
    have HO1 := Lib.hid ho
    clear hb g0 g1 HC ho
    obtain ⟨⟨g0, g1⟩, -, -⟩ := HK1.out
    go_wp2_with fail
    refine (HSm.out _ _ _ _ HK1.out.2.2 HO1.out.ints').mono ?_
    rintro e w2 ⟨rfl, hb⟩
    have HK2 := Lib.hid (HK1.out.step hb (Nat.le_refl _))
    clear hb g0 g1
    obtain ⟨⟨g0, g1⟩, -, -⟩ := HK2.out
    go_wp2_with fail
    refine (HRr.out _).mono ?_
    rintro e w3 ⟨rfl, hb⟩
    obtain ⟨-, ⟨⟨p0, p1⟩, hR⟩, hBl⟩ := HK2.out.step hb (Nat.le_refl _)
    obtain ⟨e0, e1⟩ := hR.c
    have f0 := hR.frozen 0
    have f1 := hR.frozen 1
    have z0 := hR.lt
    clear hb g0 g1
    go_wp2
    exact bodyPost_ret (v := .tuple #[.agg #[.int .i64 ((M.cirQ l r1).1), .int .i64 ((M.cirQ l r1).2)], .int .i64 0]) (by simp [results, Tryz.results27, go_sem, e0, e1, z0]) rfl ⟨by rw [HR.out], (hBl.setCell (p := ⟨w.heap.size + 1, 0, none⟩) (by show w.heap.size ≤ w.heap.size + 1; omega) _).setCell (p := ⟨w.heap.size + 1, 1, none⟩) (by show w.heap.size ≤ w.heap.size + 1; omega) _⟩
  · have HR : Hid (M.ctRes x l = ((0, 0), (M.bcRes x l).2)) := by show _ = _; unfold M.ctRes; rw [if_neg h0]
    obtain ⟨r, hr⟩ : ∃ r, r = M.bcRes x l := ⟨_, rfl⟩
    rw [← hr] at HC h0 HR
    obtain ⟨r1, r2⟩ := r
    have h0b : (r2 != 0) = true := by simpa using h0
    clear h hK0 hwb h0 hr
    obtain ⟨⟨g0, g1⟩, -, -⟩ := HK.out
    go_enter Tryz.func27, Tryz.ntmps27
    go_wp2_with fail
    rw [HWb.out]
    refine HC.out.mono ?_
    rintro e w1 ⟨b1, n1, c1, rfl, -, hb⟩
    obtain ⟨-, ⟨⟨p0, p1⟩, hR⟩, hBl⟩ := HK.out.step hb (Nat.le_refl _)
    obtain ⟨e0, e1⟩ := hR.c
    have f0 := hR.frozen 0
    have f1 := hR.frozen 1
    have z0 := hR.lt
    clear hb g0 g1
    go_wp2
    exact bodyPost_ret (v := .tuple #[.agg #[.int .i64 0, .int .i64 0], .int .i64 r2]) (by simp [results, Tryz.results27, go_sem, e0, e1, z0]) rfl ⟨by rw [HR.out], (hBl.setCell (p := ⟨w.heap.size + 1, 0, none⟩) (by show w.heap.size ≤ w.heap.size + 1; omega) _).setCell (p := ⟨w.heap.size + 1, 1, none⟩) (by show w.heap.size ≤ w.heap.size + 1; omega) _⟩
end V
end Go.Proofs.YtlofnadpgnbmdaaGreat
