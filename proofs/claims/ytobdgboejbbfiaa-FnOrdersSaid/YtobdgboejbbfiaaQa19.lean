/- Texts laid together: DrawM. -/
import Derived.Test.YtobdgboejbbfiaaRows
import Derived.Test.YtobdgboejbbfiaaQa1
import Derived.Test.YtobdgboejbbfiaaQa3
import Derived.WalkKit
import Derived.ProofKit
import Derived.WalkSmall
import Derived.Deep.QuietTactic
import Derived.BigQuiet
import Derived.BigRegion
import Derived.Deep.Draws
import Derived.Lib.Hide
import Derived.OpenShut
import Derived.Deep.OwnRows
import Derived.Test.YtobdgboejbbfiaaQa4
import Derived.Test.YtobdgboejbbfiaaQa17
import Derived.Test.YtobdgboejbbfiaaQa18
import Derived.Deep.RegionHeld3
set_option linter.unusedSimpArgs false
set_option linter.unusedVariables false
set_option linter.unusedSectionVars false
namespace Go.Proofs.Ytobdgboejbbfiaa.V
open Go.RowKit

theorem Own.thr {w w' : World} {B g : Nat} {v : Value} {l : List Int} (h : Own w B v l) (ht : Thr g w w') (hB : g < B) : Own w' B v l := h.keep (fun k h1 h2 => ht.other k (by omega) h2)
theorem OwnM.thr {w w' : World} {B g : Nat} {v : Value} {R : List (List Int)} (h : OwnM w B v R) (ht : Thr g w w') (hB : g < B) : OwnM w' B v R := h.keep (fun k h1 h2 => ht.other k (by omega) h2)
theorem Thr.of_below {g : Nat} {w w' : World} (h : Below w.heap.size w w') (hg : g ≤ w.heap.size) : Thr g w w' := ⟨h.mono hg, fun k _ h2 => h.block k h2⟩
theorem Thr.frozen {g : Nat} {w w' : World} (h : Thr g w w') {p : Addr} (hp : p.block < w.heap.size) (hne : g < p.block) : w'.frozen? p = w.frozen? p := World.frozen?_of_block (w := w) (h.other _ hne hp)

/-- A matrix that is being drawn: the source is block g, the matrix lies in blocks from B on; only these have changed since w0. -/
def DJ (g B : Nat) (v : Value) (R : List (List Int)) (w0 w : World) : Prop := OwnM w B v R ∧ Src w g ∧ Thr g w0 w
theorem DJ.next {g B : Nat} {v : Value} {R : List (List Int)} {w0 w w' : World} (h : DJ g B v R w0 w) (hB : g < B) (hs : Src w' g) (ht : Thr g w w') : DJ g B v R w0 w' :=
  ⟨h.1.thr ht hB, hs, h.2.2.trans ht⟩

/-- A store into an entry whose row is known. -/
theorem OwnM.put {w : World} {B n cap o k t q L c : Nat} {R : List (List Int)} (h : OwnM w B (.slice (some ⟨o, 0, none⟩) n cap) R) (hi : k < n) (hj : t < (R.getD k []).length) (hc : w.cell? ⟨o, k, none⟩ = some (.slice (some ⟨q, 0, none⟩) L c)) (y : Int) :
    OwnM (w.setCell ⟨q, t, none⟩ (.int .i64 y)) B (.slice (some ⟨o, 0, none⟩) n cap) (R.set k ((R.getD k []).set t y)) := by
  obtain ⟨g, q', L', c', x, hg, -, -, -, -, h1, -, -, h2⟩ := h.at k t hi hj
  injection hg with hg
  injection hg with hg
  subst hg
  rw [hc] at h1
  injection h1 with h1
  injection h1 with h1
  injection h1 with h1
  injection h1 with h1
  subst h1
  exact h2 y

theorem Rect.set {R : List (List Int)} {n L : Nat} (h : Rect R n L) (i j : Nat) (y : Int) (hi : i < n) : Rect (R.set i ((R.getD i []).set j y)) n L := by
  refine ⟨by simpa using h.1, fun k hk => ?_⟩
  rw [getD_set _ _ _ _ _ (by rw [h.1]; exact hi)]
  by_cases e : k = i
  · rw [if_pos e]; simpa using h.2 i hi
  · rw [if_neg e]; exact h.2 k hk

/-- A store into a matrix that is being drawn. -/
theorem DJ.store {g B q t n cap : Nat} {a : Option Addr} {R R' : List (List Int)} {w0 w : World} {x : Int} (h : DJ g B (.slice a n cap) R w0 w) (hB : w0.heap.size ≤ B) (hg : g < B) (hq : B ≤ q)
    (ho : OwnM (w.setCell ⟨q, t, none⟩ (.int .i64 x)) B (.slice a n cap) R') : DJ g B (.slice a n cap) R' w0 (w.setCell ⟨q, t, none⟩ (.int .i64 x)) := by
  refine ⟨ho, h.2.1.below ?_, ?_⟩
  · exact (Below.refl _ _).setCell (p := ⟨q, t, none⟩) (by show g + 1 ≤ q; omega) _
  · refine ⟨h.2.2.below.setCell (p := ⟨q, t, none⟩) (by show g ≤ q; omega) _, fun k h1 h2 => ?_⟩
    rw [Below.heap_setCell _ _ _ _ (by show k ≠ q; omega)]
    exact h.2.2.other k h1 h2

theorem DJ.drew {g B : Nat} {v : Value} {R : List (List Int)} {w0 w : World} (h : DJ g B v R w0 w) : DJ g B v R w0 w.drew := ⟨h.1.keep (fun _ _ _ => rfl), h.2.1, h.2.2.drew⟩
theorem dj_keep {g B a k q t : Nat} {u v val : Value} {R : List (List Int)} {w0 w' wx : World} (h : w'.cell? ⟨a, k, none⟩ = some u ∧ w'.cell? ⟨q, t, none⟩ = some v ∧ w'.frozen? ⟨q, t, none⟩ = false ∧ DJ g B val R w0 w') (hB : g < B) (ha : B ≤ a) (hq : B ≤ q) (hs : Src wx g) (ht : Thr g w' wx) :
    wx.cell? ⟨a, k, none⟩ = some u ∧ wx.cell? ⟨q, t, none⟩ = some v ∧ wx.frozen? ⟨q, t, none⟩ = false ∧ DJ g B val R w0 wx := by
  obtain ⟨h1, h2, h3, h4⟩ := h
  have l1 := cell_lt h1
  have l2 := cell_lt h2
  refine ⟨?_, ?_, ?_, h4.next hB hs ht⟩
  · rw [ht.cell (p := ⟨a, k, none⟩) l1 (by show a ≠ g; omega)]; exact h1
  · rw [ht.cell (p := ⟨q, t, none⟩) l2 (by show q ≠ g; omega)]; exact h2
  · rw [ht.frozen (p := ⟨q, t, none⟩) l2 (by show g < q; omega)]; exact h3

/-- What a drawn matrix is: some list of lists of integers, in new memory. -/
def DrawM (g : Nat) (w : World) (e : Ending) (w' : World) : Prop :=
  ∃ (a : Option Addr) (n cap : Nat) (R : List (List Int)), e = .returned (.slice a n cap) ∧ OwnM w' w.heap.size (.slice a n cap) R ∧ Src w' g ∧ Thr g w w'

/-- .. with few rows. -/
def DrawMB (g : Nat) (w : World) (e : Ending) (w' : World) : Prop :=
  ∃ (a : Option Addr) (n cap : Nat) (R : List (List Int)), e = .returned (.slice a n cap) ∧ n ≤ 200 ∧ OwnM w' w.heap.size (.slice a n cap) R ∧ Src w' g ∧ Thr g w w'
theorem DrawMB.less {g : Nat} {w w' : World} {e : Ending} (h : DrawMB g w e w') : DrawM g w e w' := by
  obtain ⟨a, n, cap, R, h1, -, h2⟩ := h
  exact ⟨a, n, cap, R, h1, h2⟩

end Go.Proofs.Ytobdgboejbbfiaa.V
