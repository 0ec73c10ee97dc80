/- Texts laid together: Cte, Ctf. -/
import Derived.Test.YtlofnadpgnbmdaaGreatQa67
import Derived.Test.YtlofnadpgnbmdaaGreatQa53
import Derived.Deep.RegionHeld3
set_option linter.unusedSimpArgs false
set_option linter.unusedVariables false
set_option linter.unusedSectionVars false
namespace Go.Proofs.YtlofnadpgnbmdaaGreat
namespace M
def ceRes (x : Int) (l : List Pc) : (Int × Int) × List Int × List Int × Int :=
  if (bcRes x l).2 = 0 then
    (if (timRes x l (cirQ l (bcRes x l).1).1 (cirQ l (bcRes x l).1).2).2 = 0 then (cirQ l (bcRes x l).1, (bcRes x l).1, (timRes x l (cirQ l (bcRes x l).1).1 (cirQ l (bcRes x l).1).2).1, 0)
     else ((0, 0), [], [], (timRes x l (cirQ l (bcRes x l).1).1 (cirQ l (bcRes x l).1).2).2))
  else ((0, 0), [], [], (bcRes x l).2)
theorem ceRes_len (x : Int) (l : List Pc) : (ceRes x l).2.1.length ≤ 30 ∧ (ceRes x l).2.2.1.length ≤ 30 := by
  unfold ceRes
  split
  · split
    · exact ⟨bcRes_len x l, timRes_len x l _ _⟩
    · exact ⟨by simp, by simp⟩
  · exact ⟨by simp, by simp⟩
end M
namespace V
set_option maxRecDepth 100000
open Go.RowKit
/-- A ratio, two slices, made one after the other, and a code. -/
def CPT (r : (Int × Int) × List Int × List Int × Int) (w : World) (e : Ending) (w' : World) : Prop :=
  ∃ (wm : World) (b : Option Addr) (m c : Nat) (b' : Option Addr) (m' c' : Nat), e = .returned (.tuple #[.agg #[.int .i64 r.1.1, .int .i64 r.1.2], .slice b m c, .slice b' m' c', .int .i64 r.2.2.2]) ∧ Own wm w.heap.size (.slice b m c) r.2.1 ∧ Below w.heap.size w wm ∧ Own w' wm.heap.size (.slice b' m' c') r.2.2.1 ∧ Below wm.heap.size wm w'
theorem CPT.nil {r : (Int × Int) × List Int × List Int × Int} {c : Int} {w w' : World} (hr : r = ((0, 0), [], [], c)) (hb : Below w.heap.size w w') : CPT r w (.returned (.tuple #[.agg #[.int .i64 0, .int .i64 0], .slice none 0 0, .slice none 0 0, .int .i64 c])) w' := by
  subst hr; exact ⟨w, none, 0, 0, none, 0, 0, rfl, own_nil _ _, Below.refl _ _, own_nil _ _, hb⟩
theorem below_set2t {a b : World} {B : Nat} (h : Below B a b) (p : Addr) (v : Value) : Below B (a.setCell p v) (b.setCell p v) := by
  refine ⟨h.os, h.tape, h.output, by simpa [World.setCell] using h.size, fun k hk => ?_⟩
  have e := h.block k hk
  unfold World.setCell
  simp only [Array.getElem?_modify, e]
theorem CPT.fin {r : (Int × Int) × List Int × List Int × Int} {w w2 w4 : World} {B R : Nat} {q0 q1 d : Int} {L1 L2 : List Int} {b b' : Option Addr} {m c m' c' : Nat} (hr : r = ((q0, q1), L1, L2, d)) (hb2 : Below w.heap.size w w2) (ho : Own w2 B (.slice b m c) L1) (hR : R < B) (hwR : w.heap.size ≤ R) (hR2 : R < w2.heap.size) (hb4 : Below w2.heap.size w2 w4) (ho2 : Own w4 w2.heap.size (.slice b' m' c') L2) :
    CPT r w (.returned (.tuple #[.agg #[.int .i64 q0, .int .i64 q1], .slice b m c, .slice b' m' c', .int .i64 d])) ((w4.setCell ⟨R, 0, none⟩ (.int .i64 q0)).setCell ⟨R, 1, none⟩ (.int .i64 q1)) := by
  subst hr
  refine ⟨(w2.setCell ⟨R, 0, none⟩ (.int .i64 q0)).setCell ⟨R, 1, none⟩ (.int .i64 q1), b, m, c, b', m', c', rfl, ?_, ?_, ?_, ?_⟩
  · refine (ho.keep fun k k1 _ => ?_).mono (by omega)
    have k2 : R ≠ k := by omega
    exact (Below.heap_setCell _ _ _ k k2.symm).trans (Below.heap_setCell _ _ _ k k2.symm)
  · exact (hb2.setCell (p := ⟨R, 0, none⟩) hwR _).setCell (p := ⟨R, 1, none⟩) hwR _
  · have e : ((w2.setCell ⟨R, 0, none⟩ (.int .i64 q0)).setCell ⟨R, 1, none⟩ (.int .i64 q1)).heap.size = w2.heap.size := by simp [World.setCell]
    rw [e]
    refine ho2.keep fun k k1 _ => ?_
    have k2 : R ≠ k := by omega
    exact (Below.heap_setCell _ _ _ k k2.symm).trans (Below.heap_setCell _ _ _ k k2.symm)
  · have e := below_set2t (below_set2t hb4 ⟨R, 0, none⟩ (.int .i64 q0)) ⟨R, 1, none⟩ (.int .i64 q1)
    simpa [World.setCell] using e
set_option maxRecDepth 100000 in
set_option maxHeartbeats 4000000 in
theorem certifyTimeI (x : Int) (a : Option Addr) (n cap : Nat) (l : List M.Pc) (w : World) (h : Pls w a n l) :
    Calls Tryz.prog 36 #[.agg #[.int .i64 x, .slice a n cap]] w (CPT (M.ceRes x l) w) := by
  obtain ⟨wb, hwb⟩ : ∃ z, z = (w.alloc (.cells #[.int .i64 x, .slice a n cap] 26)).alloc (.cells #[.int .i64 0, .int .i64 0] 37) := ⟨_, rfl⟩
  have hK0 : KR w wb w.heap.size w.heap.size (w.heap.size + 1) x a n cap := by
    have := RR.new (w.alloc (.cells #[.int .i64 x, .slice a n cap] 26)) 0 0
    rw [World.size_alloc] at this
    rw [hwb]
    exact ⟨(gBox_new w x a n cap 26).below (b_alloc _ _), ⟨_, this⟩, b_alloc2 w _ _⟩
  have HC := Lib.hid (bestCircuitI x a n cap l wb (h.below hK0.2.2))
  have HWb := Lib.hid hwb.symm
  have HK := Lib.hid hK0
  have hRb : w.heap.size + 1 < wb.heap.size := hK0.2.1.choose_spec.lt
  by_cases h0 : (M.bcRes x l).2 = 0
  · have hN : ∃ N : Nat, x = (N : Int) := by
      by_cases hq : M.lvCode x l = 0
      · exact M.lv_nat hq
      · unfold M.bcRes at h0; rw [if_neg hq] at h0; exact absurd h0 hq
    obtain ⟨N, rfl⟩ := hN
    obtain ⟨h1, h2, h3, h4, h5⟩ := M.bc_zero h0
    obtain ⟨g1, g2⟩ := M.lv_tok h1
    obtain ⟨he, N1, N2, l30⟩ := M.gr_ev g1
    obtain ⟨q, hq⟩ : ∃ q, q = M.cirQ l (M.bcRes N l).1 := ⟨_, rfl⟩
    obtain ⟨t, ht⟩ : ∃ t, t = M.timRes N l q.1 q.2 := ⟨_, rfl⟩
    have hE : M.ceRes N l = if t.2 = 0 then (q, (M.bcRes N l).1, t.1, 0) else ((0, 0), [], [], t.2) := by unfold M.ceRes; rw [if_pos h0, ← hq, ← ht]
    obtain ⟨r, hr⟩ : ∃ r, r = M.bcRes N l := ⟨_, rfl⟩
    rw [← h3, ← hr] at h5
    rw [← hr] at HC h0 hE hq
    obtain ⟨r1, r2⟩ := r
    have h0' : r2 = 0 := h0
    subst h0'
    simp only at h5 hq hE
    have HRt : Hid (∀ W b m c, Below w.heap.size w W → Ints .i64 W b m r1 → Calls Tryz.prog 65 #[.slice b m c, .agg #[.int .i64 N, .slice a n cap]] W fun e w' => e = .returned (.agg #[.int .i64 q.1, .int .i64 q.2]) ∧ Below W.heap.size W w') := fun W b m c hW hI => by rw [hq]; exact cirratio N a n cap l b m c r1 W (h.below hW) g1 hI h5 (g2 _ h5)
    obtain ⟨q0, q1⟩ := q
    obtain ⟨t1, t2⟩ := t
    have HT : Hid (∀ W, Below w.heap.size w W → Calls Tryz.prog 22 #[.agg #[.int .i64 N, .slice a n cap], .agg #[.int .i64 q0, .int .i64 q1]] W (VRes (t1, t2) W)) := fun W hW => by rw [ht]; exact timePotential N a n cap l q0 q1 W (h.below hW)
    clear h hK0 hwb h0 h1 h2 h3 h4 h5 g1 g2 he hr hq ht
    by_cases ht0 : t2 = 0
    · subst ht0
      have HE : Hid (M.ceRes N l = ((q0, q1), r1, t1, 0)) := hE.trans (if_pos rfl)
      clear hE
      obtain ⟨⟨g0, g1⟩, -, -⟩ := HK.out
      go_enter Tryz.func36, Tryz.ntmps36
      go_wp2_with fail
      rw [HWb.out]
      refine HC.out.mono ?_
      rintro e w1 ⟨b1, n1, c1, rfl, ho, hb⟩
      have HK1 := Lib.hid (HK.out.step hb (Nat.le_refl _))
      have HO1 := Lib.hid ho
      have hs1 := hb.size
      clear hb g0 g1 HC ho
      obtain ⟨⟨g0, g1⟩, -, -⟩ := HK1.out
      go_wp2_with fail
      refine (HRt.out _ _ _ _ HK1.out.2.2 HO1.out.ints').mono ?_
      rintro e w2 ⟨rfl, hb⟩
      have HK2 := Lib.hid (HK1.out.step hb (Nat.le_refl _))
      have HO2 := Lib.hid (HO1.out.below hb)
      have hs2 := hb.size
      clear hb g0 g1 HRt HO1
      have hQ0 := RQ.new w2 q0 q1
      obtain ⟨wc, hwc⟩ : ∃ z, z = w2.alloc (.cells #[.int .i64 q0, .int .i64 q1] 37) := ⟨_, rfl⟩
      have hb3 : Below w2.heap.size w2 wc := by rw [hwc]; exact b_alloc w2 _
      rw [← hwc] at hQ0
      have HQ := Lib.hid hQ0
      have HB3 := Lib.hid hb3
      have HK3 := Lib.hid (HK2.out.step hb3 (Nat.le_refl _))
      have hs3 : w2.heap.size < wc.heap.size := cell_lt hQ0.1
      have hzg : w.heap.size < w2.heap.size := by omega
      obtain ⟨⟨g0, g1⟩, -, -⟩ := HK2.out
      clear hQ0 hb3
      go_wp2_with fail
      rw [← hwc]
      clear hwc hzg
      refine (HT.out _ HK3.out.2.2).mono ?_
      rintro e w4 ⟨b2, n2, c2, rfl, ho, hb⟩
      have HK4 := Lib.hid (HK3.out.step hb (Nat.le_refl _))
      have HO4 := Lib.hid ho
      have HB4 := Lib.hid (HB3.out.trans (hb.mono (Nat.le_of_lt hs3)))
      obtain ⟨k0, k1⟩ := HQ.out.eq (hb.block _ hs3)
      clear hb g0 g1 HT ho HB3
      obtain ⟨-, ⟨⟨p0, p1⟩, hR⟩, hBl⟩ := HK4.out
      obtain ⟨e0, e1⟩ := hR.c
      have f0 := hR.frozen 0
      have f1 := hR.frozen 1
      have z0 := hR.lt
      go_wp2
      exact bodyPost_ret (v := .tuple #[.agg #[.int .i64 q0, .int .i64 q1], .slice b1 n1 c1, .slice b2 n2 c2, .int .i64 0]) (by simp [results, Tryz.results36, go_sem, e0, e1, z0]) rfl (CPT.fin (w2 := w2) (B := wb.heap.size) HE.out HK2.out.2.2 HO2.out hRb (by omega) (by omega) HB4.out (HO4.out.mono (Nat.le_of_lt hs3)))
    · have HE : Hid (M.ceRes N l = ((0, 0), [], [], t2)) := hE.trans (if_neg ht0)
      have htb : (t2 != 0) = true := by simpa using ht0
      clear hE
      obtain ⟨⟨g0, g1⟩, -, -⟩ := HK.out
      go_enter Tryz.func36, Tryz.ntmps36
      go_wp2_with fail
      rw [HWb.out]
      refine HC.out.mono ?_
      rintro e w1 ⟨b1, n1, c1, rfl, ho, hb⟩
      have HK1 := Lib.hid (HK.out.step hb (Nat.le_refl _))
      have HO1 := Lib.hid ho
      have hs1 := hb.size
      clear hb g0 g1 HC ho
      obtain ⟨⟨g0, g1⟩, -, -⟩ := HK1.out
      go_wp2_with fail
      refine (HRt.out _ _ _ _ HK1.out.2.2 HO1.out.ints').mono ?_
      rintro e w2 ⟨rfl, hb⟩
      have HK2 := Lib.hid (HK1.out.step hb (Nat.le_refl _))
      have HO2 := Lib.hid (HO1.out.below hb)
      have hs2 := hb.size
      clear hb g0 g1 HRt HO1
      have hQ0 := RQ.new w2 q0 q1
      obtain ⟨wc, hwc⟩ : ∃ z, z = w2.alloc (.cells #[.int .i64 q0, .int .i64 q1] 37) := ⟨_, rfl⟩
      have hb3 : Below w2.heap.size w2 wc := by rw [hwc]; exact b_alloc w2 _
      rw [← hwc] at hQ0
      have HQ := Lib.hid hQ0
      have HB3 := Lib.hid hb3
      have HK3 := Lib.hid (HK2.out.step hb3 (Nat.le_refl _))
      have hs3 : w2.heap.size < wc.heap.size := cell_lt hQ0.1
      have hzg : w.heap.size < w2.heap.size := by omega
      obtain ⟨⟨g0, g1⟩, -, -⟩ := HK2.out
      clear hQ0 hb3
      go_wp2_with fail
      rw [← hwc]
      clear hwc hzg
      refine (HT.out _ HK3.out.2.2).mono ?_
      rintro e w4 ⟨b2, n2, c2, rfl, ho, hb⟩
      have HK4 := Lib.hid (HK3.out.step hb (Nat.le_refl _))
      have HO4 := Lib.hid ho
      have HB4 := Lib.hid (HB3.out.trans (hb.mono (Nat.le_of_lt hs3)))
      obtain ⟨k0, k1⟩ := HQ.out.eq (hb.block _ hs3)
      clear hb g0 g1 HT ho HB3
      obtain ⟨-, ⟨⟨p0, p1⟩, hR⟩, hBl⟩ := HK4.out
      obtain ⟨e0, e1⟩ := hR.c
      have f0 := hR.frozen 0
      have f1 := hR.frozen 1
      have z0 := hR.lt
      go_wp2
      exact bodyPost_ret (v := .tuple #[.agg #[.int .i64 0, .int .i64 0], .slice none 0 0, .slice none 0 0, .int .i64 t2]) (by simp [results, Tryz.results36, go_sem, e0, e1, z0]) rfl (CPT.nil HE.out ((hBl.setCell (p := ⟨w.heap.size + 1, 0, none⟩) (by show w.heap.size ≤ w.heap.size + 1; omega) _).setCell (p := ⟨w.heap.size + 1, 1, none⟩) (by show w.heap.size ≤ w.heap.size + 1; omega) _))
  · have HE : Hid (M.ceRes x l = ((0, 0), [], [], (M.bcRes x l).2)) := by show _ = _; unfold M.ceRes; rw [if_neg h0]
    obtain ⟨r, hr⟩ : ∃ r, r = M.bcRes x l := ⟨_, rfl⟩
    rw [← hr] at HC h0 HE
    obtain ⟨r1, r2⟩ := r
    have h0b : (r2 != 0) = true := by simpa using h0
    clear h hK0 hwb h0 hr
    obtain ⟨⟨g0, g1⟩, -, -⟩ := HK.out
    go_enter Tryz.func36, Tryz.ntmps36
    go_wp2_with fail
    rw [HWb.out]
    refine HC.out.mono ?_
    rintro e w1 ⟨b1, n1, c1, rfl, -, hb⟩
    obtain ⟨-, ⟨⟨p0, p1⟩, hR⟩, hBl⟩ := HK.out.step hb (Nat.le_refl _)
    obtain ⟨e0, e1⟩ := hR.c
    have f0 := hR.frozen 0
    have f1 := hR.frozen 1
    have z0 := hR.lt
    clear hb g0 g1
    go_wp2
    exact bodyPost_ret (v := .tuple #[.agg #[.int .i64 0, .int .i64 0], .slice none 0 0, .slice none 0 0, .int .i64 r2]) (by simp [results, Tryz.results36, go_sem, e0, e1, z0]) rfl (CPT.nil HE.out ((hBl.setCell (p := ⟨w.heap.size + 1, 0, none⟩) (by show w.heap.size ≤ w.heap.size + 1; omega) _).setCell (p := ⟨w.heap.size + 1, 1, none⟩) (by show w.heap.size ≤ w.heap.size + 1; omega) _))
end V
end Go.Proofs.YtlofnadpgnbmdaaGreat

namespace Go.Proofs.YtlofnadpgnbmdaaGreat
namespace V
set_option maxRecDepth 100000
open Go.RowKit
theorem keepC {G : Nat} {p q : Value} {w0 w1 w2 : World} (h : w1.cell? ⟨G, 0, none⟩ = some p ∧ w1.cell? ⟨G, 1, none⟩ = some q ∧ Below w0.heap.size w0 w1) (hb : Below w1.heap.size w1 w2) : w2.cell? ⟨G, 0, none⟩ = some p ∧ w2.cell? ⟨G, 1, none⟩ = some q ∧ Below w0.heap.size w0 w2 :=
  ⟨(hb.cell (cell_lt h.1)).trans h.1, (hb.cell (cell_lt h.2.1)).trans h.2.1, h.2.2.trans (hb.mono h.2.2.size)⟩
set_option maxRecDepth 100000 in
set_option maxHeartbeats 4000000 in
theorem sCertifyTimeS (x : Int) (a : Option Addr) (n cap : Nat) (l : List M.Pc) (w : World) (h : Pls w a n l) :
    Calls Tryz.prog 34 #[.agg #[.int .i64 x, .slice a n cap]] w (CPT (M.ceRes x l) w) := by
  obtain ⟨wb, hwb⟩ : ∃ z, z = (w.alloc (.cells #[.int .i64 x, .slice a n cap] 26)).alloc (.cells #[.int .i64 0, .int .i64 0] 37) := ⟨_, rfl⟩
  have hK0 : KR w wb w.heap.size w.heap.size (w.heap.size + 1) x a n cap := by
    have := RR.new (w.alloc (.cells #[.int .i64 x, .slice a n cap] 26)) 0 0
    rw [World.size_alloc] at this
    rw [hwb]
    exact ⟨(gBox_new w x a n cap 26).below (b_alloc _ _), ⟨_, this⟩, b_alloc2 w _ _⟩
  have HC := Lib.hid (sBestCircuitS x a n cap l wb (h.below hK0.2.2))
  have HWb := Lib.hid hwb.symm
  have HK := Lib.hid hK0
  have hRb : w.heap.size + 1 < wb.heap.size := hK0.2.1.choose_spec.lt
  by_cases h0 : (M.bcRes x l).2 = 0
  · have hN : ∃ N : Nat, x = (N : Int) := by
      by_cases hq : M.lvCode x l = 0
      · exact M.lv_nat hq
      · unfold M.bcRes at h0; rw [if_neg hq] at h0; exact absurd h0 hq
    obtain ⟨N, rfl⟩ := hN
    obtain ⟨h1, h2, h3, h4, h5⟩ := M.bc_zero h0
    obtain ⟨g1, g2⟩ := M.lv_tok h1
    obtain ⟨he, N1, N2, l30⟩ := M.gr_ev g1
    obtain ⟨q, hq⟩ : ∃ q, q = M.cirQ l (M.bcRes N l).1 := ⟨_, rfl⟩
    obtain ⟨t, ht⟩ : ∃ t, t = M.timRes N l q.1 q.2 := ⟨_, rfl⟩
    have hE : M.ceRes N l = if t.2 = 0 then (q, (M.bcRes N l).1, t.1, 0) else ((0, 0), [], [], t.2) := by unfold M.ceRes; rw [if_pos h0, ← hq, ← ht]
    obtain ⟨r, hr⟩ : ∃ r, r = M.bcRes N l := ⟨_, rfl⟩
    rw [← h3, ← hr] at h5
    rw [← hr] at HC h0 hE hq
    obtain ⟨r1, r2⟩ := r
    have h0' : r2 = 0 := h0
    subst h0'
    simp only at h5 hq hE
    have hsb := M.sums_bd he N2 h5
    have htk := g2 _ h5
    have hcl := M.cir_len he h5
    have HSm : Hid (∀ W b m c, Below w.heap.size w W → Ints .i64 W b m r1 → Calls Tryz.prog 79 #[.agg #[.int .i64 N, .slice a n cap], .slice b m c] W fun e w' => e = .returned (.tuple #[.int .i64 (M.dlS l r1), .int .i64 (M.tkS l r1)]) ∧ Below W.heap.size W w') := fun W b m c hW hI => sSums N a n cap l N b m c r1 W (h.below hW) he hI (by rw [← h.1]; exact (M.cir_t h5).2.1) (by have := hI.1; omega)
    have HRr : Hid (∀ W, Calls Tryz.prog 80 #[.int .i64 (M.dlS l r1), .int .i64 (M.tkS l r1)] W fun e w' => e = .returned (.agg #[.int .i64 q.1, .int .i64 q.2]) ∧ Below W.heap.size W w') := fun W => by rw [hq]; exact sRatio (M.dlS l r1) (M.tkS l r1) W htk (by omega) (by omega) (by omega) (by omega)
    clear hsb htk hcl
    generalize M.dlS l r1 = D at HSm HRr
    generalize M.tkS l r1 = T at HSm HRr
    obtain ⟨q0, q1⟩ := q
    obtain ⟨t1, t2⟩ := t
    have HT : Hid (∀ W, Below w.heap.size w W → Calls Tryz.prog 23 #[.agg #[.int .i64 N, .slice a n cap], .agg #[.int .i64 q0, .int .i64 q1]] W (VRes (t1, t2) W)) := fun W hW => by rw [ht]; exact sTimePotential N a n cap l q0 q1 W (h.below hW)
    clear h hK0 hwb h0 h1 h2 h3 h4 h5 g1 g2 he hr hq ht
    by_cases ht0 : t2 = 0
    · subst ht0
      have HE : Hid (M.ceRes N l = ((q0, q1), r1, t1, 0)) := hE.trans (if_pos rfl)
      clear hE
      obtain ⟨⟨g0, g1⟩, -, -⟩ := HK.out
      go_enter Tryz.func34, Tryz.ntmps34
      go_wp2_with fail
      rw [HWb.out]
      refine HC.out.mono ?_
      rintro e w1 ⟨b1, n1, c1, rfl, ho, hb⟩
      have HK1 := Lib.hid (HK.out.step hb (Nat.le_refl _))
      have HO1 := Lib.hid ho
      have hs1 := hb.size
      clear hb g0 g1 HC ho
      obtain ⟨⟨g0, g1⟩, -, -⟩ := HK1.out
      go_wp2_with fail
      refine (HSm.out _ _ _ _ HK1.out.2.2 HO1.out.ints').mono ?_
      rintro e w2 ⟨rfl, hb⟩
      have HK2 := Lib.hid (HK1.out.step hb (Nat.le_refl _))
      have HO2 := Lib.hid (HO1.out.below hb)
      have hs2 := hb.size
      clear hb g0 g1 HSm HO1
      obtain ⟨⟨g0, g1⟩, -, -⟩ := HK2.out
      go_wp2
      go_region_held3 (fun w' => w'.cell? ⟨w.heap.size, 0, none⟩ = some (.int .i64 N) ∧ w'.cell? ⟨w.heap.size, 1, none⟩ = some (.slice a n cap) ∧ Below w2.heap.size w2 w')
        (first | exact ⟨g0, g1, (Below.refl _ _).drew⟩ | exact keepC ‹_ ∧ _ ∧ Below _ _ _› hb)
        (first
          | (go_at_call 80; refine (HRr.out _).mono ?_; rintro e wr ⟨rfl, hb⟩; have HBr : Hid (Below w2.heap.size w2 wr) := Lib.hid ((‹_ ∧ _ ∧ Below _ _ _›).2.2.trans (hb.mono (‹_ ∧ _ ∧ Below _ _ _›).2.2.size)))
          | (go_at_call 23; refine (HT.out _ (HK2.out.2.2.trans (HBr.out.mono HK2.out.2.2.size))).mono ?_; rintro e w4 ⟨b2, n2, c2, rfl, ho, hb⟩; have HO4 := Lib.hid (ho.mono HBr.out.size); have HB4 := Lib.hid (HBr.out.trans (hb.mono HBr.out.size)); clear ho))
      all_goals
        have HK4 := Lib.hid (HK2.out.step HB4.out (Nat.le_refl _))
        clear g0 g1
        go_wp2_with fail
        refine (HRr.out _).mono ?_
        rintro e w5 ⟨rfl, hb⟩
        have HK5 := Lib.hid (HK4.out.step hb (Nat.le_refl _))
        have HO5 := Lib.hid (HO4.out.below hb)
        have HB5 := Lib.hid (HB4.out.trans (hb.mono HB4.out.size))
        obtain ⟨-, ⟨⟨p0, p1⟩, hR⟩, hBl⟩ := HK5.out
        obtain ⟨e0, e1⟩ := hR.c
        have f0 := hR.frozen 0
        have f1 := hR.frozen 1
        have z0 := hR.lt
        go_wp2
        exact bodyPost_ret (v := .tuple #[.agg #[.int .i64 q0, .int .i64 q1], .slice b1 n1 c1, .slice b2 n2 c2, .int .i64 0]) (by simp [results, Tryz.results34, go_sem, e0, e1, z0]) rfl (CPT.fin (w2 := w2) (B := wb.heap.size) HE.out HK2.out.2.2 HO2.out hRb (by omega) (by omega) HB5.out HO5.out)
    · have HE : Hid (M.ceRes N l = ((0, 0), [], [], t2)) := hE.trans (if_neg ht0)
      have htb : (t2 != 0) = true := by simpa using ht0
      clear hE
      obtain ⟨⟨g0, g1⟩, -, -⟩ := HK.out
      go_enter Tryz.func34, Tryz.ntmps34
      go_wp2_with fail
      rw [HWb.out]
      refine HC.out.mono ?_
      rintro e w1 ⟨b1, n1, c1, rfl, ho, hb⟩
      have HK1 := Lib.hid (HK.out.step hb (Nat.le_refl _))
      have HO1 := Lib.hid ho
      have hs1 := hb.size
      clear hb g0 g1 HC ho
      obtain ⟨⟨g0, g1⟩, -, -⟩ := HK1.out
      go_wp2_with fail
      refine (HSm.out _ _ _ _ HK1.out.2.2 HO1.out.ints').mono ?_
      rintro e w2 ⟨rfl, hb⟩
      have HK2 := Lib.hid (HK1.out.step hb (Nat.le_refl _))
      have HO2 := Lib.hid (HO1.out.below hb)
      have hs2 := hb.size
      clear hb g0 g1 HSm HO1
      obtain ⟨⟨g0, g1⟩, -, -⟩ := HK2.out
      go_wp2
      go_region_held3 (fun w' => w'.cell? ⟨w.heap.size, 0, none⟩ = some (.int .i64 N) ∧ w'.cell? ⟨w.heap.size, 1, none⟩ = some (.slice a n cap) ∧ Below w2.heap.size w2 w')
        (first | exact ⟨g0, g1, (Below.refl _ _).drew⟩ | exact keepC ‹_ ∧ _ ∧ Below _ _ _› hb)
        (first
          | (go_at_call 80; refine (HRr.out _).mono ?_; rintro e wr ⟨rfl, hb⟩; have HBr : Hid (Below w2.heap.size w2 wr) := Lib.hid ((‹_ ∧ _ ∧ Below _ _ _›).2.2.trans (hb.mono (‹_ ∧ _ ∧ Below _ _ _›).2.2.size)))
          | (go_at_call 23; refine (HT.out _ (HK2.out.2.2.trans (HBr.out.mono HK2.out.2.2.size))).mono ?_; rintro e w4 ⟨b2, n2, c2, rfl, ho, hb⟩; have HO4 := Lib.hid (ho.mono HBr.out.size); have HB4 := Lib.hid (HBr.out.trans (hb.mono HBr.out.size)); clear ho))
      all_goals
        have HK4 := Lib.hid (HK2.out.step HB4.out (Nat.le_refl _))
        clear g0 g1
        obtain ⟨-, ⟨⟨p0, p1⟩, hR⟩, hBl⟩ := HK4.out
        obtain ⟨e0, e1⟩ := hR.c
        have f0 := hR.frozen 0
        have f1 := hR.frozen 1
        have z0 := hR.lt
        go_wp2
        exact bodyPost_ret (v := .tuple #[.agg #[.int .i64 0, .int .i64 0], .slice none 0 0, .slice none 0 0, .int .i64 t2]) (by simp [results, Tryz.results34, go_sem, e0, e1, z0]) rfl (CPT.nil HE.out ((hBl.setCell (p := ⟨w.heap.size + 1, 0, none⟩) (by show w.heap.size ≤ w.heap.size + 1; omega) _).setCell (p := ⟨w.heap.size + 1, 1, none⟩) (by show w.heap.size ≤ w.heap.size + 1; omega) _))
  · have HE : Hid (M.ceRes x l = ((0, 0), [], [], (M.bcRes x l).2)) := by show _ = _; unfold M.ceRes; rw [if_neg h0]
    obtain ⟨r, hr⟩ : ∃ r, r = M.bcRes x l := ⟨_, rfl⟩
    rw [← hr] at HC h0 HE
    obtain ⟨r1, r2⟩ := r
    have h0b : (r2 != 0) = true := by simpa using h0
    clear h hK0 hwb h0 hr
    obtain ⟨⟨g0, g1⟩, -, -⟩ := HK.out
    go_enter Tryz.func34, Tryz.ntmps34
    go_wp2_with fail
    rw [HWb.out]
    refine HC.out.mono ?_
    rintro e w1 ⟨b1, n1, c1, rfl, -, hb⟩
    obtain ⟨-, ⟨⟨p0, p1⟩, hR⟩, hBl⟩ := HK.out.step hb (Nat.le_refl _)
    obtain ⟨e0, e1⟩ := hR.c
    have f0 := hR.frozen 0
    have f1 := hR.frozen 1
    have z0 := hR.lt
    clear hb g0 g1
    go_wp2
    exact bodyPost_ret (v := .tuple #[.agg #[.int .i64 0, .int .i64 0], .slice none 0 0, .slice none 0 0, .int .i64 r2]) (by simp [results, Tryz.results34, go_sem, e0, e1, z0]) rfl (CPT.nil HE.out ((hBl.setCell (p := ⟨w.heap.size + 1, 0, none⟩) (by show w.heap.size ≤ w.heap.size + 1; omega) _).setCell (p := ⟨w.heap.size + 1, 1, none⟩) (by show w.heap.size ≤ w.heap.size + 1; omega) _))
end V
end Go.Proofs.YtlofnadpgnbmdaaGreat
