/- Texts laid together: Cjg. -/
import Derived.Test.YtlofnadpgnbmdaaGreatQa46
set_option linter.unusedSimpArgs false
set_option linter.unusedVariables false
set_option linter.unusedSectionVars false
namespace Go.Proofs.YtlofnadpgnbmdaaGreat
namespace V
set_option maxRecDepth 100000
open Go.RowKit
/-- A local ratio. -/
def RQ (w : World) (g : Nat) (p : Int × Int) : Prop := w.cell? ⟨g, 0, none⟩ = some (.int .i64 p.1) ∧ w.cell? ⟨g, 1, none⟩ = some (.int .i64 p.2)
theorem RQ.new (w : World) (p0 p1 : Int) : RQ (w.alloc (.cells #[.int .i64 p0, .int .i64 p1] 37)) w.heap.size (p0, p1) := ⟨by simp [go_sem], by simp [go_sem]⟩
theorem RQ.newT (w : World) (p0 p1 : Int) (t : TypeId) : RQ (w.alloc (.cells #[.int .i64 p0, .int .i64 p1] t)) w.heap.size (p0, p1) := ⟨by simp [go_sem], by simp [go_sem]⟩
theorem RQ.eq {w w' : World} {g : Nat} {p : Int × Int} (h : RQ w g p) (e : w'.heap[g]? = w.heap[g]?) : RQ w' g p :=
  ⟨(World.cell?_of_block (a := ⟨g, 0, none⟩) e).trans h.1, (World.cell?_of_block (a := ⟨g, 1, none⟩) e).trans h.2⟩
set_option maxRecDepth 100000 in
set_option maxHeartbeats 2000000 in
theorem circuitRatio (x : Int) (a : Option Addr) (n cap : Nat) (l : List M.Pc) (ca : Option Addr) (m cc : Nat) (c : List Int) (w : World) (h : Pls w a n l) (hI : Ints .i64 w ca m c) (hm : m ≤ 1048576) :
    Calls Tryz.prog 32 #[.agg #[.int .i64 x, .slice a n cap], .slice ca m cc] w fun e w' => e = .returned (.tuple #[.agg #[.int .i64 (M.cratRes x l c).1.1, .int .i64 (M.cratRes x l c).1.2], .int .i64 (M.cratRes x l c).2]) ∧ Below w.heap.size w w' := by
  obtain ⟨wb, hwb⟩ : ∃ z, z = (w.alloc (.cells #[.int .i64 x, .slice a n cap] 26)).alloc (.cells #[.int .i64 0, .int .i64 0] 37) := ⟨_, rfl⟩
  have hK0 : KR w wb w.heap.size w.heap.size (w.heap.size + 1) x a n cap := by
    have := RR.new (w.alloc (.cells #[.int .i64 x, .slice a n cap] 26)) 0 0
    rw [World.size_alloc] at this
    rw [hwb]
    exact ⟨(gBox_new w x a n cap 26).below (b_alloc _ _), ⟨_, this⟩, b_alloc2 w _ _⟩
  have HC := Lib.hid (isEventGraph x a n cap l wb (h.below hK0.2.2))
  have HP := Lib.hid h
  have HI := Lib.hid hI
  have HWb := Lib.hid hwb.symm
  have HK := Lib.hid hK0
  cases hg : M.isGr x l with
  | false =>
    rw [hg] at HC
    have HR : Hid (M.cratRes x l c = ((0, 0), 1)) := by show _ = _; unfold M.cratRes; rw [hg]; rfl
    clear h hI hK0 hwb hg
    obtain ⟨⟨g0, g1⟩, -, -⟩ := HK.out
    go_enter Tryz.func32, Tryz.ntmps32
    go_wp2_with fail
    rw [HWb.out]
    refine HC.out.mono ?_
    rintro e w1 ⟨rfl, hb⟩
    obtain ⟨-, ⟨⟨p0, p1⟩, hR⟩, hBl⟩ := HK.out.step hb (Nat.le_refl _)
    obtain ⟨e0, e1⟩ := hR.c
    have f0 := hR.frozen 0
    have f1 := hR.frozen 1
    have z0 := hR.lt
    clear hb g0 g1
    go_wp2
    exact bodyPost_ret (v := .tuple #[.agg #[.int .i64 (0), .int .i64 (0)], .int .i64 1]) (by simp [results, Tryz.results32, go_sem, e0, e1, z0]) rfl ⟨by rw [HR.out], (hBl.setCell (p := ⟨w.heap.size + 1, 0, none⟩) (by show w.heap.size ≤ w.heap.size + 1; omega) _).setCell (p := ⟨w.heap.size + 1, 1, none⟩) (by show w.heap.size ≤ w.heap.size + 1; omega) _⟩
  | true =>
    rw [hg] at HC
    obtain ⟨N, rfl⟩ := M.gr_nat hg
    have HGr := Lib.hid hg
    have HCc : Hid (∀ W, Below w.heap.size w W → Calls Tryz.prog 88 #[.slice ca m cc, .agg #[.int .i64 N, .slice a n cap]] W fun e w' => e = .returned (.bool (M.cirB l c)) ∧ Below W.heap.size W w') := fun W hW => isOfCir N a n cap l ca m cc c W (h.below hW) hg (hI.below hW) hm
    cases hc : M.cirB l c with
    | false =>
      rw [hc] at HCc
      have HR : Hid (M.cratRes N l c = ((0, 0), 4)) := by show _ = _; unfold M.cratRes; rw [hg, hc]; rfl
      clear h hI hK0 hwb hg hc
      obtain ⟨⟨g0, g1⟩, -, -⟩ := HK.out
      go_enter Tryz.func32, Tryz.ntmps32
      go_wp2_with fail
      rw [HWb.out]
      refine HC.out.mono ?_
      rintro e w1 ⟨rfl, hb⟩
      have HK1 := Lib.hid (HK.out.step hb (Nat.le_refl _))
      clear hb g0 g1
      obtain ⟨⟨g0, g1⟩, -, -⟩ := HK1.out
      go_wp2_with fail
      refine (HCc.out _ HK1.out.2.2).mono ?_
      rintro e w2 ⟨rfl, hb⟩
      obtain ⟨-, ⟨⟨p0, p1⟩, hR⟩, hBl⟩ := HK1.out.step hb (Nat.le_refl _)
      obtain ⟨e0, e1⟩ := hR.c
      have f0 := hR.frozen 0
      have f1 := hR.frozen 1
      have z0 := hR.lt
      clear hb g0 g1
      go_wp2
      exact bodyPost_ret (v := .tuple #[.agg #[.int .i64 (0), .int .i64 (0)], .int .i64 4]) (by simp [results, Tryz.results32, go_sem, e0, e1, z0]) rfl ⟨by rw [HR.out], (hBl.setCell (p := ⟨w.heap.size + 1, 0, none⟩) (by show w.heap.size ≤ w.heap.size + 1; omega) _).setCell (p := ⟨w.heap.size + 1, 1, none⟩) (by show w.heap.size ≤ w.heap.size + 1; omega) _⟩
    | true =>
      rw [hc] at HCc
      obtain ⟨he, N1, N2, l30⟩ := M.gr_ev hg
      obtain ⟨d0, d1, t0, t1⟩ := M.sums_bd he N2 hc
      have hlen := M.cir_len he hc
      have hM : c.length = m := hI.1
      have hnd : M.nodesB n c = true := by rw [← h.1]; exact (M.cir_t hc).2.1
      have HCt : Hid (∀ W, Below w.heap.size w W → Calls Tryz.prog 89 #[.slice ca m cc, .agg #[.int .i64 N, .slice a n cap]] W fun e w' => e = .returned (.int .i64 (M.tkS l c)) ∧ Below W.heap.size W w') := fun W hW => cirtokens N a n cap l N ca m cc c W (h.below hW) he (hI.below hW) hnd hm
      by_cases hz : M.tkS l c = 0
      · have HR : Hid (M.cratRes N l c = ((0, 0), 5)) := by show _ = _; unfold M.cratRes; rw [hg, hc, if_pos hz]; rfl
        rw [hz] at HCt
        clear h hI hK0 hwb hg hc hz d0 d1 t0 t1 hnd he hlen hM
        obtain ⟨⟨g0, g1⟩, -, -⟩ := HK.out
        go_enter Tryz.func32, Tryz.ntmps32
        go_wp2_with fail
        rw [HWb.out]
        refine HC.out.mono ?_
        rintro e w1 ⟨rfl, hb⟩
        have HK1 := Lib.hid (HK.out.step hb (Nat.le_refl _))
        clear hb g0 g1
        obtain ⟨⟨g0, g1⟩, -, -⟩ := HK1.out
        go_wp2_with fail
        refine (HCc.out _ HK1.out.2.2).mono ?_
        rintro e w2 ⟨rfl, hb⟩
        have HK2 := Lib.hid (HK1.out.step hb (Nat.le_refl _))
        clear hb g0 g1
        obtain ⟨⟨g0, g1⟩, -, -⟩ := HK2.out
        go_wp2_with fail
        refine (HCt.out _ HK2.out.2.2).mono ?_
        rintro e w3 ⟨rfl, hb⟩
        obtain ⟨-, ⟨⟨p0, p1⟩, hR⟩, hBl⟩ := HK2.out.step hb (Nat.le_refl _)
        obtain ⟨e0, e1⟩ := hR.c
        have f0 := hR.frozen 0
        have f1 := hR.frozen 1
        have z0 := hR.lt
        clear hb g0 g1
        go_wp2
        exact bodyPost_ret (v := .tuple #[.agg #[.int .i64 (0), .int .i64 (0)], .int .i64 5]) (by simp [results, Tryz.results32, go_sem, e0, e1, z0]) rfl ⟨by rw [HR.out], (hBl.setCell (p := ⟨w.heap.size + 1, 0, none⟩) (by show w.heap.size ≤ w.heap.size + 1; omega) _).setCell (p := ⟨w.heap.size + 1, 1, none⟩) (by show w.heap.size ≤ w.heap.size + 1; omega) _⟩
      · have HR : Hid (M.cratRes N l c = (M.cirQ l c, 0)) := by show _ = _; unfold M.cratRes; rw [hg, hc, if_neg hz]; rfl
        have hzb : (M.tkS l c == 0) = false := by simpa using hz
        have HCq : Hid (∀ W, Below w.heap.size w W → Calls Tryz.prog 65 #[.slice ca m cc, .agg #[.int .i64 N, .slice a n cap]] W fun e w' => e = .returned (.agg #[.int .i64 (M.cirQ l c).1, .int .i64 (M.cirQ l c).2]) ∧ Below W.heap.size W w') := fun W hW => cirratio N a n cap l ca m cc c W (h.below hW) hg (hI.below hW) hc hz
        generalize M.tkS l c = T at *
        generalize M.cirQ l c = Q at *
        clear h hI hK0 hwb hg hc hz hnd he hlen hM
        obtain ⟨⟨g0, g1⟩, -, -⟩ := HK.out
        go_enter Tryz.func32, Tryz.ntmps32
        go_wp2_with fail
        rw [HWb.out]
        refine HC.out.mono ?_
        rintro e w1 ⟨rfl, hb⟩
        have HK1 := Lib.hid (HK.out.step hb (Nat.le_refl _))
        clear hb g0 g1
        obtain ⟨⟨g0, g1⟩, -, -⟩ := HK1.out
        go_wp2_with fail
        refine (HCc.out _ HK1.out.2.2).mono ?_
        rintro e w2 ⟨rfl, hb⟩
        have HK2 := Lib.hid (HK1.out.step hb (Nat.le_refl _))
        clear hb g0 g1
        obtain ⟨⟨g0, g1⟩, -, -⟩ := HK2.out
        go_wp2_with fail
        refine (HCt.out _ HK2.out.2.2).mono ?_
        rintro e w3 ⟨rfl, hb⟩
        have HK3 := Lib.hid (HK2.out.step hb (Nat.le_refl _))
        clear hb g0 g1
        obtain ⟨⟨g0, g1⟩, -, -⟩ := HK3.out
        go_wp2_with fail
        refine (HCq.out _ HK3.out.2.2).mono ?_
        rintro e w4 ⟨rfl, hb⟩
        obtain ⟨-, ⟨⟨p0, p1⟩, hR⟩, hBl⟩ := HK3.out.step hb (Nat.le_refl _)
        obtain ⟨e0, e1⟩ := hR.c
        have f0 := hR.frozen 0
        have f1 := hR.frozen 1
        have z0 := hR.lt
        clear hb g0 g1
        go_wp2
        exact bodyPost_ret (v := .tuple #[.agg #[.int .i64 (Q.1), .int .i64 (Q.2)], .int .i64 0]) (by simp [results, Tryz.results32, go_sem, e0, e1, z0]) rfl ⟨by rw [HR.out], (hBl.setCell (p := ⟨w.heap.size + 1, 0, none⟩) (by show w.heap.size ≤ w.heap.size + 1; omega) _).setCell (p := ⟨w.heap.size + 1, 1, none⟩) (by show w.heap.size ≤ w.heap.size + 1; omega) _⟩
end V
end Go.Proofs.YtlofnadpgnbmdaaGreat
