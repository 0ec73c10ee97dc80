/- Texts laid together: Apply. -/
import Derived.Test.YtjbffpmelglegaaRows
import Derived.Test.YtjbffpmelglegaaQa1
import Derived.Test.YtjbffpmelglegaaQa2
import Derived.WalkKit
import Derived.ProofKit
import Derived.WalkSmall
import Derived.Deep.QuietTactic
import Derived.BigQuiet
import Derived.BigRegion
import Derived.Deep.Draws
import Derived.Lib.Hide
import Derived.OpenShut
import Derived.Deep.OwnRows
import Derived.Test.YtjbffpmelglegaaQa3
import Derived.Test.YtjbffpmelglegaaQa4
import Derived.Test.YtjbffpmelglegaaQa5
import Derived.StillTailTactics
set_option linter.unusedSimpArgs false
set_option linter.unusedVariables false
set_option linter.unusedSectionVars false
namespace Go.Proofs.Ytjbffpmelglegaa.V
open Go.RowKit

/-- A new vector and a code. -/
def VRes (r : List Int × Int) (w : World) (e : Ending) (w' : World) : Prop :=
  ∃ a n cap, e = .returned (.tuple #[.slice a n cap, .int .i64 r.2]) ∧ Own w' w.heap.size (.slice a n cap) r.1 ∧ Below w.heap.size w w'
theorem VRes.nil {r : List Int × Int} {c : Int} {w w' : World} (hr : r = ([], c)) (hb : Below w.heap.size w w') : VRes r w (.returned (.tuple #[.slice none 0 0, .int .i64 c])) w' := by
  subst hr
  exact ⟨none, 0, 0, rfl, own_nil _ _, hb⟩

theorem ints_vec {w : World} {a : Option Addr} {n : Nat} {l : List Int} (h : Ints .i64 w a n l) (hv : M.isVec l = true) : 1 ≤ n ∧ n ≤ 10 := by
  obtain ⟨h1, h2, -⟩ := M.isVec_t hv
  rw [h.1] at h1 h2
  exact ⟨h1, h2⟩
/-- A matrix of one row that is not its own. -/
theorem mat_one (w : World) (a : Option Addr) (n cap : Nat) (l : List Int) (h : Ints .i64 w a n l) : Mat (w.alloc (.cells #[.slice a n cap] 24)) (some ⟨w.heap.size, 0, none⟩) 1 [l] := by
  refine ⟨rfl, by decide, .inr ⟨_, _, rfl, by simp, fun i hi => ?_⟩⟩
  obtain rfl : i = 0 := by omega
  have hc := cell_one_new w (.slice a n cap) 24 0 _ rfl
  refine ⟨a, cap, ?_, ?_⟩
  · show _ = some (Value.slice a l.length cap)
    rw [h.1]; exact hc
  · show Ints _ _ _ l.length l
    rw [h.1]; exact h.below (b_alloc w _)

/-- The first row of an owned matrix. -/
theorem OwnM.row0 {w : World} {B n cap : Nat} {a : Option Addr} {R : List (List Int)} (h : OwnM w B (.slice a n cap) R) (hn : 0 < n) :
    ∃ g ra rc, a = some ⟨g, 0, none⟩ ∧ w.cell? ⟨g, 0, none⟩ = some (.slice ra (R.getD 0 []).length rc) ∧ Own w B (.slice ra (R.getD 0 []).length rc) (R.getD 0 []) := by
  have hl := h.len
  obtain ⟨V, h1, h2, h3, h4, h5⟩ := h
  obtain ⟨a', c', hv, hc, hm, hg⟩ := own_form h2
  injection hv with e1 e2 e3
  subst e1 e2 e3
  obtain ⟨g, rfl, hB, hlt⟩ := hg (by omega)
  have hr := h3 0 (by omega)
  obtain ⟨ra, rc, hrv, _⟩ := own_form hr
  rw [hrv] at hr
  refine ⟨g, ra, rc, rfl, ?_, hr⟩
  rw [World.ownsRow.cellAt h2 0 (by omega), ← hrv]
  simp [show 0 < V.length by omega]

/-- The column of a vector. -/
def M.colM (l : List Int) (n : Nat) : List (List Int) := M.mk n 1 (fun i _ => l.getD i 0)
theorem M.colM_ok {l : List Int} {n : Nat} (hv : M.isVec l = true) (hl : l.length = n) : M.isMat (M.colM l n) = true := by
  obtain ⟨h1, h2, h3⟩ := M.isVec_t hv
  exact M.isMat_mk (by omega) (by omega) (Nat.le_refl _) (by omega) (fun i hi _ _ => h3 i (by omega))
theorem M.dot_col {R : List (List Int)} {l : List Int} {n i k : Nat} (hk : k ≤ n) : M.dot R (M.colM l n) i 0 k = M.dotV R l i k := by
  unfold M.dot M.dotV
  refine M.sumN_congr fun t ht => ?_
  rw [M.colM, M.ent_mk _ _ _ _ _ (by omega) (by omega)]







end Go.Proofs.Ytjbffpmelglegaa.V
