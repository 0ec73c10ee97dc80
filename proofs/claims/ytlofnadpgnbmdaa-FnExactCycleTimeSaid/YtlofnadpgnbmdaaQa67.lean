/- Texts laid together: Crk. -/
import Derived.Test.YtlofnadpgnbmdaaQa66
set_option linter.unusedSimpArgs false
set_option linter.unusedVariables false
set_option linter.unusedSectionVars false
namespace Go.Proofs.Ytlofnadpgnbmdaa
namespace V
set_option maxRecDepth 100000
open Go.RowKit
set_option maxRecDepth 100000 in
set_option maxHeartbeats 2000000 in
theorem cycleTimeI (x : Int) (a : Option Addr) (n cap : Nat) (l : List M.Pc) (w : World) (h : Pls w a n l) :
    Calls Try.prog 27 #[.agg #[.int .i64 x, .slice a n cap]] w fun e w' => e = .returned (.tuple #[.agg #[.int .i64 (M.ctRes x l).1.1, .int .i64 (M.ctRes x l).1.2], .int .i64 (M.ctRes x l).2]) ∧ Below w.heap.size w w' := by
  obtain ⟨wb, hwb⟩ : ∃ z, z = (w.alloc (.cells #[.int .i64 x, .slice a n cap] 26)).alloc (.cells #[.int .i64 0, .int .i64 0] 39) := ⟨_, rfl⟩
  have hK0 : KR w wb w.heap.size w.heap.size (w.heap.size + 1) x a n cap := by
    have := RR.new (w.alloc (.cells #[.int .i64 x, .slice a n cap] 26)) 0 0
    rw [World.size_alloc] at this
    rw [hwb]
    exact ⟨(gBox_new w x a n cap 26).below (b_alloc _ _), ⟨_, this⟩, b_alloc2 w _ _⟩
  have HC := Lib.hid (bestCircuitI x a n cap l wb (h.below hK0.2.2))
  have HWb := Lib.hid hwb.symm
  have HK := Lib.hid hK0
  by_cases h0 : (M.bcRes x l).2 = 0
  · have hN : ∃ N : Nat, x = (N : Int) := by
      by_cases hq : M.lvCode x l = 0
      · exact M.lv_nat hq
      · unfold M.bcRes at h0; rw [if_neg hq] at h0; exact absurd h0 hq
    obtain ⟨N, rfl⟩ := hN
    obtain ⟨h1, h2, h3, h4, h5⟩ := M.bc_zero h0
    obtain ⟨g1, g2⟩ := M.lv_tok h1
    obtain ⟨he, N1, N2, l30⟩ := M.gr_ev g1
    have HR : Hid (M.ctRes N l = (M.cirQ l (M.bstL l (M.allC l 10)), 0)) := by show _ = _; unfold M.ctRes; rw [if_pos h0, h3]
    obtain ⟨r, hr⟩ : ∃ r, r = M.bcRes N l := ⟨_, rfl⟩
    rw [← hr] at HC h0 h3
    obtain ⟨r1, r2⟩ := r
    have h0' : r2 = 0 := h0
    have h3' : r1 = M.bstL l (M.allC l 10) := h3
    obtain ⟨Q, hQ⟩ : ∃ Q, Q = M.bstL l (M.allC l 10) := ⟨_, rfl⟩
    rw [← hQ] at HR h5 h3'
    subst h0' h3'
    have HRt : Hid (∀ W b m c, Below w.heap.size w W → Ints .i64 W b m r1 → Calls Try.prog 70 #[.slice b m c, .agg #[.int .i64 N, .slice a n cap]] W fun e w' => e = .returned (.agg #[.int .i64 (M.cirQ l r1).1, .int .i64 (M.cirQ l r1).2]) ∧ Below W.heap.size W w') := fun W b m c hW hI => cirratio N a n cap l b m c r1 W (h.below hW) g1 hI h5 (g2 _ h5)
    clear h hK0 hwb h0 h1 h2 h3 h4 h5 g1 g2 he hr hQ
    obtain ⟨⟨g0, g1⟩, -, -⟩ := HK.out
    go_enter Try.func27, Try.ntmps27
    go_wp2_with fail
    rw [HWb.out]
    refine HC.out.mono ?_
    rintro e w1 ⟨b1, n1, c1, rfl, ho, hb⟩
    have HK1 := Lib.hid (HK.out.step hb (Nat.le_refl _))
    have HO1 := Lib.hid ho
    clear hb g0 g1 HC ho
    obtain ⟨⟨g0, g1⟩, -, -⟩ := HK1.out
    go_wp2_with fail
    refine (HRt.out _ _ _ _ HK1.out.2.2 HO1.out.ints').mono ?_
    rintro e w2 ⟨rfl, hb⟩
    obtain ⟨-, ⟨⟨p0, p1⟩, hR⟩, hBl⟩ := HK1.out.step hb (Nat.le_refl _)
    obtain ⟨e0, e1⟩ := hR.c
    have f0 := hR.frozen 0
    have f1 := hR.frozen 1
    have z0 := hR.lt
    clear hb g0 g1
    go_wp2
    exact bodyPost_ret (v := .tuple #[.agg #[.int .i64 ((M.cirQ l r1).1), .int .i64 ((M.cirQ l r1).2)], .int .i64 0]) (by simp [results, Try.results27, go_sem, e0, e1, z0]) rfl ⟨by rw [HR.out], (hBl.setCell (p := ⟨w.heap.size + 1, 0, none⟩) (by show w.heap.size ≤ w.heap.size + 1; omega) _).setCell (p := ⟨w.heap.size + 1, 1, none⟩) (by show w.heap.size ≤ w.heap.size + 1; omega) _⟩
  · have HR : Hid (M.ctRes x l = ((0, 0), (M.bcRes x l).2)) := by show _ = _; unfold M.ctRes; rw [if_neg h0]
    obtain ⟨r, hr⟩ : ∃ r, r = M.bcRes x l := ⟨_, rfl⟩
    rw [← hr] at HC h0 HR
    obtain ⟨r1, r2⟩ := r
    have h0b : (r2 != 0) = true := by simpa using h0
    clear h hK0 hwb h0 hr
    obtain ⟨⟨g0, g1⟩, -, -⟩ := HK.out
    go_enter Try.func27, Try.ntmps27
    go_wp2_with fail
    rw [HWb.out]
    refine HC.out.mono ?_
    rintro e w1 ⟨b1, n1, c1, rfl, -, hb⟩
    obtain ⟨-, ⟨⟨p0, p1⟩, hR⟩, hBl⟩ := HK.out.step hb (Nat.le_refl _)
    obtain ⟨e0, e1⟩ := hR.c
    have f0 := hR.frozen 0
    have f1 := hR.frozen 1
    have z0 := hR.lt
    clear hb g0 g1
    go_wp2
    exact bodyPost_ret (v := .tuple #[.agg #[.int .i64 0, .int .i64 0], .int .i64 r2]) (by simp [results, Try.results27, go_sem, e0, e1, z0]) rfl ⟨by rw [HR.out], (hBl.setCell (p := ⟨w.heap.size + 1, 0, none⟩) (by show w.heap.size ≤ w.heap.size + 1; omega) _).setCell (p := ⟨w.heap.size + 1, 1, none⟩) (by show w.heap.size ≤ w.heap.size + 1; omega) _⟩
set_option maxRecDepth 100000 in
set_option maxHeartbeats 2000000 in
theorem sCycleTimeS (x : Int) (a : Option Addr) (n cap : Nat) (l : List M.Pc) (w : World) (h : Pls w a n l) :
    Calls Try.prog 41 #[.agg #[.int .i64 x, .slice a n cap]] w fun e w' => e = .returned (.tuple #[.agg #[.int .i64 (M.ctRes x l).1.1, .int .i64 (M.ctRes x l).1.2], .int .i64 (M.ctRes x l).2]) ∧ Below w.heap.size w w' := by
  obtain ⟨wb, hwb⟩ : ∃ z, z = (w.alloc (.cells #[.int .i64 x, .slice a n cap] 26)).alloc (.cells #[.int .i64 0, .int .i64 0] 39) := ⟨_, rfl⟩
  have hK0 : KR w wb w.heap.size w.heap.size (w.heap.size + 1) x a n cap := by
    have := RR.new (w.alloc (.cells #[.int .i64 x, .slice a n cap] 26)) 0 0
    rw [World.size_alloc] at this
    rw [hwb]
    exact ⟨(gBox_new w x a n cap 26).below (b_alloc _ _), ⟨_, this⟩, b_alloc2 w _ _⟩
  have HC := Lib.hid (sBestCircuitS x a n cap l wb (h.below hK0.2.2))
  have HWb := Lib.hid hwb.symm
  have HK := Lib.hid hK0
  by_cases h0 : (M.bcRes x l).2 = 0
  · have hN : ∃ N : Nat, x = (N : Int) := by
      by_cases hq : M.lvCode x l = 0
      · exact M.lv_nat hq
      · unfold M.bcRes at h0; rw [if_neg hq] at h0; exact absurd h0 hq
    obtain ⟨N, rfl⟩ := hN
    obtain ⟨h1, h2, h3, h4, h5⟩ := M.bc_zero h0
    obtain ⟨g1, g2⟩ := M.lv_tok h1
    obtain ⟨he, N1, N2, l30⟩ := M.gr_ev g1
    have HR : Hid (M.ctRes N l = (M.cirQ l (M.bstL l (M.allC l 10)), 0)) := by show _ = _; unfold M.ctRes; rw [if_pos h0, h3]
    obtain ⟨r, hr⟩ : ∃ r, r = M.bcRes N l := ⟨_, rfl⟩
    rw [← hr] at HC h0 h3
    obtain ⟨r1, r2⟩ := r
    have h0' : r2 = 0 := h0
    have h3' : r1 = M.bstL l (M.allC l 10) := h3
    obtain ⟨Q, hQ⟩ : ∃ Q, Q = M.bstL l (M.allC l 10) := ⟨_, rfl⟩
    rw [← hQ] at HR h5 h3'
    subst h0' h3'
    have hsb := M.sums_bd he N2 h5
    have htk := g2 _ h5
    have hcl := M.cir_len he h5
    have HSm : Hid (∀ W b m c, Below w.heap.size w W → Ints .i64 W b m r1 → Calls Try.prog 72 #[.agg #[.int .i64 N, .slice a n cap], .slice b m c] W fun e w' => e = .returned (.tuple #[.int .i64 (M.dlS l r1), .int .i64 (M.tkS l r1)]) ∧ Below W.heap.size W w') := fun W b m c hW hI => sSums N a n cap l N b m c r1 W (h.below hW) he hI (by rw [← h.1]; exact (M.cir_t h5).2.1) (by have := hI.1; omega)
    have HRr : Hid (∀ W, Calls Try.prog 73 #[.int .i64 (M.dlS l r1), .int .i64 (M.tkS l r1)] W fun e w' => e = .returned (.agg #[.int .i64 (M.cirQ l r1).1, .int .i64 (M.cirQ l r1).2]) ∧ Below W.heap.size W w') := fun W => sRatio (M.dlS l r1) (M.tkS l r1) W htk (by omega) (by omega) (by omega) (by omega)
    clear hsb htk hcl
    clear h hK0 hwb h0 h1 h2 h3 h4 h5 g1 g2 he hr hQ
    obtain ⟨⟨g0, g1⟩, -, -⟩ := HK.out
    go_enter Try.func41, Try.ntmps41
    go_wp2_with fail
    rw [HWb.out]
    refine HC.out.mono ?_
    rintro e w1 ⟨b1, n1, c1, rfl, ho, hb⟩
    have HK1 := Lib.hid (HK.out.step hb (Nat.le_refl _))
    have HO1 := Lib.hid ho
    clear hb g0 g1 HC ho
    obtain ⟨⟨g0, g1⟩, -, -⟩ := HK1.out
    go_wp2_with fail
    refine (HSm.out _ _ _ _ HK1.out.2.2 HO1.out.ints').mono ?_
    rintro e w2 ⟨rfl, hb⟩
    have HK2 := Lib.hid (HK1.out.step hb (Nat.le_refl _))
    clear hb g0 g1
    obtain ⟨⟨g0, g1⟩, -, -⟩ := HK2.out
    go_wp2_with fail
    refine (HRr.out _).mono ?_
    rintro e w3 ⟨rfl, hb⟩
    obtain ⟨-, ⟨⟨p0, p1⟩, hR⟩, hBl⟩ := HK2.out.step hb (Nat.le_refl _)
    obtain ⟨e0, e1⟩ := hR.c
    have f0 := hR.frozen 0
    have f1 := hR.frozen 1
    have z0 := hR.lt
    clear hb g0 g1
    go_wp2
    exact bodyPost_ret (v := .tuple #[.agg #[.int .i64 ((M.cirQ l r1).1), .int .i64 ((M.cirQ l r1).2)], .int .i64 0]) (by simp [results, Try.results41, go_sem, e0, e1, z0]) rfl ⟨by rw [HR.out], (hBl.setCell (p := ⟨w.heap.size + 1, 0, none⟩) (by show w.heap.size ≤ w.heap.size + 1; omega) _).setCell (p := ⟨w.heap.size + 1, 1, none⟩) (by show w.heap.size ≤ w.heap.size + 1; omega) _⟩
  · have HR : Hid (M.ctRes x l = ((0, 0), (M.bcRes x l).2)) := by show _ = _; unfold M.ctRes; rw [if_neg h0]
    obtain ⟨r, hr⟩ : ∃ r, r = M.bcRes x l := ⟨_, rfl⟩
    rw [← hr] at HC h0 HR
    obtain ⟨r1, r2⟩ := r
    have h0b : (r2 != 0) = true := by simpa using h0
    clear h hK0 hwb h0 hr
    obtain ⟨⟨g0, g1⟩, -, -⟩ := HK.out
    go_enter Try.func41, Try.ntmps41
    go_wp2_with fail
    rw [HWb.out]
    refine HC.out.mono ?_
    rintro e w1 ⟨b1, n1, c1, rfl, -, hb⟩
    obtain ⟨-, ⟨⟨p0, p1⟩, hR⟩, hBl⟩ := HK.out.step hb (Nat.le_refl _)
    obtain ⟨e0, e1⟩ := hR.c
    have f0 := hR.frozen 0
    have f1 := hR.frozen 1
    have z0 := hR.lt
    clear hb g0 g1
    go_wp2
    exact bodyPost_ret (v := .tuple #[.agg #[.int .i64 0, .int .i64 0], .int .i64 r2]) (by simp [results, Try.results41, go_sem, e0, e1, z0]) rfl ⟨by rw [HR.out], (hBl.setCell (p := ⟨w.heap.size + 1, 0, none⟩) (by show w.heap.size ≤ w.heap.size + 1; omega) _).setCell (p := ⟨w.heap.size + 1, 1, none⟩) (by show w.heap.size ≤ w.heap.size + 1; omega) _⟩
end V
end Go.Proofs.Ytlofnadpgnbmdaa
