/- Texts laid together: Pld. -/
import Derived.Test.YtlljnfljcdljaaaQa13
import Derived.Test.YtlljnfljcdljaaaQa7
import Derived.Deep.RegionHeld3
import Derived.Deep.RegionWith
set_option linter.unusedSimpArgs false
set_option linter.unusedVariables false
set_option linter.unusedSectionVars false
namespace Go.Proofs.Ytlljnfljcdljaaa
namespace V
set_option maxRecDepth 100000
open Go.RowKit
/-- A corner as a value. -/
abbrev cV (p q t : Int) : Value := .agg #[.int .i64 p, .int .i64 q, .int .i64 t]
theorem infoC : (Try.prog.info? 45).map (fun i => (i.zero, i.size, i.bytes)) = some (some (cV 0 0 0), 3, 24) := by kernel_rfl
abbrev cObj (p q t : Int) : Obj := .cells #[.int .i64 p, .int .i64 q, .int .i64 t] 45
theorem cnew (w : World) (p q t : Int) : ∀ W, Below (w.alloc (cObj p q t)).heap.size (w.alloc (cObj p q t)) W → w.heap.size < W.heap.size ∧ W.cell? ⟨w.heap.size, 0, none⟩ = some (.int .i64 p) ∧ W.cell? ⟨w.heap.size, 1, none⟩ = some (.int .i64 q) ∧ W.cell? ⟨w.heap.size, 2, none⟩ = some (.int .i64 t) ∧
    W.frozen? ⟨w.heap.size, 0, none⟩ = false ∧ W.frozen? ⟨w.heap.size, 1, none⟩ = false ∧ W.frozen? ⟨w.heap.size, 2, none⟩ = false := by
  intro W hb
  have hs := hb.size
  simp at hs
  refine ⟨by omega, ?_, ?_, ?_, ?_, ?_, ?_⟩
  · rw [hb.cell (p := ⟨w.heap.size, 0, none⟩) (by simp)]; simp [go_sem]
  · rw [hb.cell (p := ⟨w.heap.size, 1, none⟩) (by simp)]; simp [go_sem]
  · rw [hb.cell (p := ⟨w.heap.size, 2, none⟩) (by simp)]; simp [go_sem]
  · rw [hb.frozen (p := ⟨w.heap.size, 0, none⟩) (by simp)]; simp [go_sem]
  · rw [hb.frozen (p := ⟨w.heap.size, 1, none⟩) (by simp)]; simp [go_sem]
  · rw [hb.frozen (p := ⟨w.heap.size, 2, none⟩) (by simp)]; simp [go_sem]
theorem b3set {w W : World} {B : Nat} (h : Below w.heap.size w W) (hB : w.heap.size ≤ B) (u v x : Value) : Below w.heap.size w (((W.setCell ⟨B, 0, none⟩ u).setCell ⟨B, 1, none⟩ v).setCell ⟨B, 2, none⟩ x) :=
  ((h.setCell (p := ⟨B, 0, none⟩) hB u).setCell (p := ⟨B, 1, none⟩) hB v).setCell (p := ⟨B, 2, none⟩) hB x
set_option maxRecDepth 100000 in
set_option maxHeartbeats 4000000 in
theorem cornerBetween (a : Option Addr) (n cap : Nat) (l : List Int) (i k : Nat) (w : World) (h : Ints .i64 w a n l) (hn : n ≤ 12) (hi : i < k) (hk : k < n) (x1 : -1000000 ≤ l.getD i 0) (x2 : l.getD i 0 ≤ 1000000) (y1 : -1000000 ≤ l.getD k 0) (y2 : l.getD k 0 ≤ 1000000) :
    Calls Try.prog 71 #[.slice a n cap, .int .i64 i, .int .i64 k] w fun e w' => e = .returned (cV (M.ratN (l.getD i 0 - l.getD k 0) ((k : Int) - i)) (M.ratD (l.getD i 0 - l.getD k 0) ((k : Int) - i)) ((k : Int) - i)) ∧ Below w.heap.size w w' := by
  obtain ⟨b, off, x, rfl, hb, hx, hcx⟩ := h.at i (by omega)
  obtain ⟨b', off', y, hbb, -, hy, hcy⟩ := h.at k hk
  injection hbb with hbb
  injection hbb with e1 e2
  subst e1 e2
  rw [← hx] at x1 x2
  rw [← hy] at y1 y2
  rw [← hx, ← hy]
  clear hx hy h
  have hin : (i : Int) < (n : Int) := by omega
  have hkn : (k : Int) < (n : Int) := by omega
  have HBox := Lib.hid (cnew w 0 0 0)
  have HKp : Hid (∀ W, Below w.heap.size w W → W.cell? ⟨b, off + i, none⟩ = some (.int .i64 x) ∧ W.cell? ⟨b, off + k, none⟩ = some (.int .i64 y) ∧ Below w.heap.size w W) := fun W hW => ⟨(hW.cell (p := ⟨b, off + i, none⟩) hb).trans hcx, (hW.cell (p := ⟨b, off + k, none⟩) hb).trans hcy, hW⟩
  have ew : IntKind.i64.wrap (x - y) = x - y := IntWalk.i64_in _ (by omega)
  have ew2 : IntKind.i64.wrap ((k : Int) - i) = (k : Int) - i := IntWalk.i64_in _ (by omega)
  clear hcx hcy
  go_enter Try.func71, Try.ntmps71
  go_wp2
  go_region_held3 (fun w' => w'.cell? ⟨b, off + i, none⟩ = some (.int .i64 x) ∧ w'.cell? ⟨b, off + k, none⟩ = some (.int .i64 y) ∧ Below w.heap.size w w')
    (first | exact HKp.out _ (b_alloc _ _).drew | exact HKp.out _ (bnext (b_alloc _ _).drew hb2) | exact HKp.out _ (b3set (bnext (b_alloc _ _).drew hb2) (Nat.le_refl _) _ _ _))
    (first | (go_at_call 93; refine (reduced _ _ _ (by omega) (by omega) (by omega) (by omega) (by omega)).mono ?_; rintro e w2 ⟨rfl, hb2⟩; obtain ⟨z0, e0, e1, e2, f0, f1, f2⟩ := HBox.out _ (bnext (Below.refl _ _).drew hb2)))
  go_wp2
  exact bodyPost_ret (v := cV (M.ratN (x - y) ((k : Int) - i)) (M.ratD (x - y) ((k : Int) - i)) ((k : Int) - i)) (by simp [results, Try.results71, go_sem, e0, e1, e2, z0]) rfl ⟨rfl, b3set (bnext (b_alloc _ _).drew hb2) (Nat.le_refl _) _ _ _⟩
end V
end Go.Proofs.Ytlljnfljcdljaaa
