/- The way by the powers' diagonals, in the program. -/
import Derived.Test.YtmldjmlihkcchaaMean4
import Derived.Test.YtmldjmlihkcchaaMxf
import Derived.Test.YtmldjmlihkcchaaMatKp
namespace Go.Proofs.Ytmldjmlihkcchaa.V
open Go.RowKit
/-- The result's box, with its two zeros. -/
def MBox0 (w wr : World) : Prop :=
  Below (w.heap.size + 2) wr wr ∧ Below w.heap.size w wr ∧ w.heap.size + 1 < wr.heap.size ∧ wr.cell? ⟨w.heap.size + 1, 0, none⟩ = some (.int .i64 0) ∧ wr.cell? ⟨w.heap.size + 1, 1, none⟩ = some (.int .i64 0) ∧ wr.frozen? ⟨w.heap.size + 1, 0, none⟩ = false ∧ wr.frozen? ⟨w.heap.size + 1, 1, none⟩ = false
theorem MBox0.keep {w w1 w2 : World} (h : MBox0 w w1) (hb : Below (w.heap.size + 2) w1 w2) : MBox0 w w2 := by
  obtain ⟨_, h1, h2, a1, a2, a3, a4⟩ := h
  have hs := hb.size
  refine ⟨Below.refl _ _, h1.trans (hb.mono (by omega)), by omega, ?_, ?_, ?_, ?_⟩
  · rw [hb.cell (p := ⟨w.heap.size + 1, 0, none⟩) (by show w.heap.size + 1 < _; omega)]; exact a1
  · rw [hb.cell (p := ⟨w.heap.size + 1, 1, none⟩) (by show w.heap.size + 1 < _; omega)]; exact a2
  · rw [hb.frozen (p := ⟨w.heap.size + 1, 0, none⟩) (by show w.heap.size + 1 < _; omega)]; exact a3
  · rw [hb.frozen (p := ⟨w.heap.size + 1, 1, none⟩) (by show w.heap.size + 1 < _; omega)]; exact a4
end Go.Proofs.Ytmldjmlihkcchaa.V
