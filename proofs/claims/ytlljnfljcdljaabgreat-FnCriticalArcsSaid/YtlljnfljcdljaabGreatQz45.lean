/- Texts laid together: D3e. -/
import Derived.Test.YtlljnfljcdljaabGreatQz37
import Derived.Test.YtlljnfljcdljaabGreatQz7
import Derived.Test.YtlljnfljcdljaabGreatQz44
set_option linter.unusedSimpArgs false
set_option linter.unusedVariables false
set_option linter.unusedSectionVars false
namespace Go.Proofs.YtlljnfljcdljaabGreat.V
open Go.RowKit

theorem wrap100 (y : Nat) (h : y < 4) : IntKind.i64.wrap (100 + (y : Int)) = ((100 + y : Nat) : Int) := by
  rw [IntWalk.i64_in _ (by omega)]; omega
theorem made_ints3 (w : World) (n : Nat) (hn : n ≤ maxLen) : Ints .i64 (w.alloc (.cells (madeCells #[.int .i64 0] n) 2)) (some ⟨w.heap.size, 0, none⟩) n (List.replicate n 0) := by
  have hr := World.rowIs_made w (.int .i64 0) n 2
  refine ⟨by simp, hn, .inr ⟨_, _, rfl, by simp, fun i hi => ?_⟩⟩
  rw [Nat.zero_add, hr.cell hi]
  simp [hi]

theorem rlit0 (w : World) (B : Nat) (h : B ≤ w.heap.size) : Own (w.alloc (.cells #[.int .i64 0] 2)) B (.slice (some ⟨w.heap.size, 0, none⟩) 1 1) [0] := World.ownsRow_lit w #[.int .i64 0] 1 h (by decide) rfl
theorem mlit0 (w : World) (B : Nat) (h : B ≤ w.heap.size) : OwnM ((w.alloc (.cells #[.int .i64 0] 2)).alloc (.cells #[.slice (some ⟨w.heap.size, 0, none⟩) 1 1] 32)) B (.slice (some ⟨w.heap.size + 1, 0, none⟩) 1 1) [[0]] := by
  have := ownM_lit1 (w.alloc (.cells #[.int .i64 0] 2)) B (by simp; omega) (rlit0 w B h)
  simpa using this
theorem b_up {w X : World} (h : Below w.heap.size w X) (o : Obj) : Below w.heap.size w (X.alloc o) := h.alloc h.size _
/-- What the six orders leave. -/
def Fin6 (w w' : World) (a' a : Option Addr) (y : Nat) : Prop := Mat w' a' 1 [[0]] ∧ Ints .i64 w' a (100 + y) (List.replicate (100 + y) 0) ∧ Below w.heap.size w w'
theorem fin_a (w w3 w6 : World) (y : Nat) (hy : y < 2) (hg : w.heap.size < w3.heap.size) (hb : Below w.heap.size w w3) (ht : Thr w.heap.size ((w3.alloc (.cells #[.int .i64 0] 2)).alloc (.cells #[.slice (some ⟨w3.heap.size, 0, none⟩) 1 1] 32)).drew w6) :
    Fin6 w (w6.alloc (.cells (madeCells #[.int .i64 0] (100 + y)) 2)) (some ⟨w3.heap.size + 1, 0, none⟩) (some ⟨w6.heap.size, 0, none⟩) y :=
  ⟨(((mlit0 w3 w3.heap.size (Nat.le_refl _)).keep (w' := ((w3.alloc (.cells #[.int .i64 0] 2)).alloc (.cells #[.slice (some ⟨w3.heap.size, 0, none⟩) 1 1] 32)).drew) (fun _ _ _ => rfl)).thr ht hg).mat.below (b_alloc _ _), made_ints3 _ _ (by unfold maxLen; omega), b_up ((b_up (b_up hb _) _).drew.trans ht.below) _⟩
theorem fin_b (w w3 w6 : World) (y : Nat) (hy : y < 2) (hg : w.heap.size < w3.heap.size) (hb : Below w.heap.size w w3) (ht : Thr w.heap.size (w3.alloc (.cells #[.int .i64 0] 2)).drew w6) :
    Fin6 w ((w6.alloc (.cells #[.slice (some ⟨w3.heap.size, 0, none⟩) 1 1] 32)).alloc (.cells (madeCells #[.int .i64 0] (100 + y)) 2)) (some ⟨w6.heap.size, 0, none⟩) (some ⟨w6.heap.size + 1, 0, none⟩) y := by
  have h1 : Own (w3.alloc (.cells #[.int .i64 0] 2)).drew w3.heap.size (.slice (some ⟨w3.heap.size, 0, none⟩) 1 1) [0] := rlit0 w3 w3.heap.size (Nat.le_refl _)
  have hz : w3.heap.size ≤ w6.heap.size := by have := ht.below.size; simp at this; omega
  have h2 := made_ints3 (w6.alloc (.cells #[.slice (some ⟨w3.heap.size, 0, none⟩) 1 1] 32)) (100 + y) (by unfold maxLen; omega)
  exact ⟨(ownM_lit1 w6 w3.heap.size hz (h1.thr ht hg)).mat.below (b_alloc _ _), by simpa using h2, b_up (b_up ((b_up hb _).drew.trans ht.below) _) _⟩
theorem fin_c (w w3 w6 : World) (y : Nat) (hy : y < 2) (hg : w.heap.size < w3.heap.size) (hb : Below w.heap.size w w3) (ht : Thr w.heap.size (w3.alloc (.cells #[.int .i64 0] 2)).drew w6) :
    Fin6 w ((w6.alloc (.cells (madeCells #[.int .i64 0] (100 + y)) 2)).alloc (.cells #[.slice (some ⟨w3.heap.size, 0, none⟩) 1 1] 32)) (some ⟨w6.heap.size + 1, 0, none⟩) (some ⟨w6.heap.size, 0, none⟩) y := by
  have h1 : Own (w3.alloc (.cells #[.int .i64 0] 2)).drew w3.heap.size (.slice (some ⟨w3.heap.size, 0, none⟩) 1 1) [0] := rlit0 w3 w3.heap.size (Nat.le_refl _)
  have hz : w3.heap.size ≤ w6.heap.size := by have := ht.below.size; simp at this; omega
  have h2 := made_ints3 w6 (100 + y) (by unfold maxLen; omega)
  have h3 := ownM_lit1 (w6.alloc (.cells (madeCells #[.int .i64 0] (100 + y)) 2)) w3.heap.size (by simp; omega) ((h1.thr ht hg).below (b_alloc w6 _))
  exact ⟨by simpa using h3.mat, h2.below (b_alloc _ _), b_up (b_up ((b_up hb _).drew.trans ht.below) _) _⟩
theorem fin_d (w w3 w6 : World) (y : Nat) (hy : y < 2) (hb : Below w.heap.size w w3) (ht : Thr w.heap.size w3.drew w6) :
    Fin6 w (((w6.alloc (.cells #[.int .i64 0] 2)).alloc (.cells #[.slice (some ⟨w6.heap.size, 0, none⟩) 1 1] 32)).alloc (.cells (madeCells #[.int .i64 0] (100 + y)) 2)) (some ⟨w6.heap.size + 1, 0, none⟩) (some ⟨w6.heap.size + 1 + 1, 0, none⟩) y := by
  have h2 := made_ints3 ((w6.alloc (.cells #[.int .i64 0] 2)).alloc (.cells #[.slice (some ⟨w6.heap.size, 0, none⟩) 1 1] 32)) (100 + y) (by unfold maxLen; omega)
  exact ⟨(mlit0 w6 _ (Nat.le_refl _)).mat.below (b_alloc _ _), by simpa using h2, b_up (b_up (b_up (hb.drew.trans ht.below) _) _) _⟩
theorem fin_e (w w3 w6 : World) (y : Nat) (hy : y < 2) (hb : Below w.heap.size w w3) (ht : Thr w.heap.size w3.drew w6) :
    Fin6 w (((w6.alloc (.cells #[.int .i64 0] 2)).alloc (.cells (madeCells #[.int .i64 0] (100 + y)) 2)).alloc (.cells #[.slice (some ⟨w6.heap.size, 0, none⟩) 1 1] 32)) (some ⟨w6.heap.size + 1 + 1, 0, none⟩) (some ⟨w6.heap.size + 1, 0, none⟩) y := by
  have h2 := made_ints3 (w6.alloc (.cells #[.int .i64 0] 2)) (100 + y) (by unfold maxLen; omega)
  have h3 := ownM_lit1 ((w6.alloc (.cells #[.int .i64 0] 2)).alloc (.cells (madeCells #[.int .i64 0] (100 + y)) 2)) w6.heap.size (by simp; omega) ((rlit0 w6 _ (Nat.le_refl _)).below (b_alloc _ _))
  exact ⟨by simpa using h3.mat, by simpa using h2.below (b_alloc _ _), b_up (b_up (b_up (hb.drew.trans ht.below) _) _) _⟩
theorem fin_f (w w3 w6 : World) (y : Nat) (hy : y < 2) (hb : Below w.heap.size w w3) (ht : Thr w.heap.size w3.drew w6) :
    Fin6 w (((w6.alloc (.cells (madeCells #[.int .i64 0] (100 + y)) 2)).alloc (.cells #[.int .i64 0] 2)).alloc (.cells #[.slice (some ⟨w6.heap.size + 1, 0, none⟩) 1 1] 32)) (some ⟨w6.heap.size + 1 + 1, 0, none⟩) (some ⟨w6.heap.size, 0, none⟩) y := by
  have h2 := made_ints3 w6 (100 + y) (by unfold maxLen; omega)
  have h3 := mlit0 (w6.alloc (.cells (madeCells #[.int .i64 0] (100 + y)) 2)) _ (Nat.le_refl _)
  exact ⟨by simpa using h3.mat, (h2.below (b_alloc _ _)).below (b_alloc _ _), b_up (b_up (b_up (hb.drew.trans ht.below) _) _) _⟩

/-- A drawn matrix and a drawn list of nodes. -/
def DrawnMN (w : World) (e : Ending) (w' : World) : Prop :=
  ∃ (a : Option Addr) (n cap : Nat) (R : List (List Int)) (a' : Option Addr) (N cap' : Nat) (l : List Int), e = .returned (.tuple #[.slice a n cap, .slice a' N cap']) ∧ Mat w' a n R ∧ Ints .i64 w' a' N l ∧ N ≤ cap' ∧ cap' ≤ maxLen ∧ Below w.heap.size w w'
theorem fin_out {w w' : World} {a' a : Option Addr} (y : Nat) (hy : y < 2) (h : Fin6 w w' a' a y) : DrawnMN w (.returned (.tuple #[.slice a' 1 1, .slice a (100 + y) (100 + y)])) w' :=
  ⟨_, _, _, _, _, _, _, _, rfl, h.1, h.2.1, Nat.le_refl _, by unfold maxLen; omega, h.2.2⟩
end Go.Proofs.YtlljnfljcdljaabGreat.V
