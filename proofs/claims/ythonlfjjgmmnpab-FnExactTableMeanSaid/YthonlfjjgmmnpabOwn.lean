/- Slices that a call owns: integers, and slices of integers; what is read of them, and what becomes of them. -/
import Derived.Test.YthonlfjjgmmnpabRows
import Derived.Test.YthonlfjjgmmnpabPln
import Derived.Test.YthonlfjjgmmnpabHelp
import Derived.Test.YthonlfjjgmmnpabRows0
import Derived.WalkKit
import Derived.ProofKit
import Derived.WalkSmall
import Derived.Deep.QuietTactic
import Derived.BigQuiet
import Derived.BigRegion
import Derived.Deep.Draws
import Derived.Deep.OwnRows
import Derived.Maps.AppendAt
import Derived.Deep.Onto
import Derived.Lib.Hide
namespace Go.Proofs.Ythonlfjjgmmnpab.V
open Go.RowKit

theorem info64 : (Try.prog.info? 2).map (fun i => (i.zero, i.size, i.bytes)) = some (some (.int .i64 0), 1, 8) := by kernel_rfl
theorem infoS64 : (Try.prog.info? 30).map (fun i => (i.zero, i.size, i.bytes)) = some (some (.slice none 0 0), 1, 24) := by kernel_rfl

/-- A slice that the call owns, in blocks from B on, holding the integers l. -/
def Own (w : World) (B : Nat) (v : Value) (l : List Int) : Prop := w.ownsRow B 2 1 v l.length (l.map (Value.int .i64))

theorem own_lt {w : World} {B : Nat} {T : TypeId} {v : Value} {n : Nat} {xs : List Value} (h : w.ownsRow B T 1 v n xs) {k : Nat} (hk : v.ownBlock = some k) : B ≤ k ∧ k < w.heap.size := World.ownsRow.lt h k hk

theorem ownsRow_keep {w w' : World} {B : Nat} {T : TypeId} {v : Value} {n : Nat} {xs : List Value} (h : w.ownsRow B T 1 v n xs) (hk : ∀ k, v.ownBlock = some k → w'.heap[k]? = w.heap[k]?) : w'.ownsRow B T 1 v n xs := by
  obtain ⟨h1, h2⟩ := h
  refine ⟨h1, ?_⟩
  rcases h2 with h2 | ⟨g, cap, cur, hv, hg, hh, r⟩
  · exact .inl h2
  · exact .inr ⟨g, cap, cur, hv, hg, by rw [hk g (by subst hv; rfl)]; exact hh, r⟩
theorem Own.keep {w w' : World} {B : Nat} {v : Value} {l : List Int} (h : Own w B v l) (hk : ∀ k, B ≤ k → k < w.heap.size → w'.heap[k]? = w.heap[k]?) : Own w' B v l :=
  ownsRow_keep h fun k hv => hk k (own_lt h hv).1 (own_lt h hv).2
theorem Own.below {w w' : World} {B : Nat} {v : Value} {l : List Int} (h : Own w B v l) (hb : Below w.heap.size w w') : Own w' B v l :=
  h.keep (fun k _ h2 => hb.block k h2)
theorem Own.mono {w : World} {B B' : Nat} {v : Value} {l : List Int} (h : Own w B v l) (hb : B' ≤ B) : Own w B' v l := World.ownsRow.mono h hb

/-- The form of an owned slice. -/
theorem own_form {w : World} {B : Nat} {T : TypeId} {v : Value} {n : Nat} {xs : List Value} (h : w.ownsRow B T 1 v n xs) : ∃ a cap, v = .slice a n cap ∧ n ≤ cap ∧ cap ≤ maxLen ∧ (0 < n → ∃ g, a = some ⟨g, 0, none⟩ ∧ B ≤ g ∧ g < w.heap.size) := by
  have h' := h
  obtain ⟨h1, h2⟩ := h
  rcases h2 with ⟨hv, h0⟩ | ⟨g, cap, cur, hv, hg, hh, hn, hc, r⟩
  · subst h0; exact ⟨none, 0, hv, Nat.le_refl _, Nat.zero_le _, fun h => by omega⟩
  · subst hv
    exact ⟨_, cap, rfl, hn, hc, fun _ => ⟨g, rfl, hg, (own_lt h' rfl).2⟩⟩

/-- What an owned slice is: a slice of the integers l. -/
theorem Own.ints {w : World} {B : Nat} {v : Value} {l : List Int} (h : Own w B v l) : ∃ a cap, v = .slice a l.length cap ∧ Ints .i64 w a l.length l := by
  have h' := h
  obtain ⟨h1, h2⟩ := h
  rcases h2 with ⟨hv, h0⟩ | ⟨g, cap, cur, hv, hg, hh, hn, hc, r⟩
  · refine ⟨none, 0, by rw [h0]; exact hv, rfl, by omega, .inl h0⟩
  · subst hv
    refine ⟨some ⟨g, 0, none⟩, cap, rfl, rfl, by omega, ?_⟩
    by_cases h0 : l.length = 0
    · exact .inl h0
    · refine .inr ⟨g, 0, rfl, (own_lt h' rfl).2, fun i hi => ?_⟩
      have := World.ownsRow.cellAt h' i (by omega)
      rw [Nat.zero_add, this]
      simp [hi]

theorem Own.ints' {w : World} {B : Nat} {a : Option Addr} {n cap : Nat} {l : List Int} (h : Own w B (.slice a n cap) l) : Ints .i64 w a n l := by
  obtain ⟨a', c', hv, hI⟩ := h.ints
  injection hv with e1 e2 e3
  subst e1 e2
  exact hI

theorem own_lit0 (w : World) (B : Nat) (hB : B ≤ w.heap.size) : Own (w.alloc (.cells #[] 2)) B (.slice (some ⟨w.heap.size, 0, none⟩) 0 0) [] :=
  World.ownsRow_lit w #[] 0 hB (by decide) rfl

theorem own_made (w : World) (B n : Nat) (hB : B ≤ w.heap.size) (hn : n ≤ maxLen) : Own (w.alloc (.cells (madeCells #[.int .i64 0] n) 2)) B (.slice (some ⟨w.heap.size, 0, none⟩) n n) ((List.range n).map fun _ => 0) := by
  have h := World.rowIs_made w (.int .i64 0) n 2
  obtain ⟨c, hb, hs, hc⟩ := h
  refine ⟨by simp, .inr ⟨w.heap.size, n, c, by simp, hB, hb, by simp, hn, by simp [hs], ?_⟩⟩
  apply List.ext_getElem
  · simp [hs]
  · intro i h1 h2
    simp only [List.length_map, List.length_range] at h2
    have := hc i h2
    simp [List.getElem_take]
    rw [Array.getElem?_eq_getElem (by omega)] at this
    exact Option.some.inj this

theorem Own.len {w : World} {B n cap : Nat} {a : Option Addr} {l : List Int} (h : Own w B (.slice a n cap) l) : n = l.length := by
  obtain ⟨a', c, hv, _⟩ := own_form h
  injection hv
theorem Own.frozenAt {w : World} {B g n cap : Nat} {l : List Int} (h : Own w B (.slice (some ⟨g, 0, none⟩) n cap) l) (j : Nat) : w.frozen? ⟨g, j, none⟩ = false := by
  have e := h.len
  subst e
  exact World.ownsRow.frozenAt h j
theorem Own.cellAt {w : World} {B g n cap : Nat} {l : List Int} (h : Own w B (.slice (some ⟨g, 0, none⟩) n cap) l) (j : Nat) (hj : j < n) : w.cell? ⟨g, j, none⟩ = some (.int .i64 (l.getD j 0)) := by
  have e := h.len
  subst e
  rw [World.ownsRow.cellAt h j (by omega)]
  simp [hj]

/-- A store into an owned slice. -/
theorem Own.set {w : World} {B g n cap : Nat} {l : List Int} (h : Own w B (.slice (some ⟨g, 0, none⟩) n cap) l) (i : Nat) (x : Int) : Own (w.setCell ⟨g, i, none⟩ (.int .i64 x)) B (.slice (some ⟨g, 0, none⟩) n cap) (l.set i x) := by
  have hn : n = l.length := by
    obtain ⟨a, c, hv, _⟩ := own_form h
    injection hv
  subst hn
  have := (World.ownsRow.stored h i (.int .i64 x)).1
  unfold Own
  simpa [List.map_set] using this
end Go.Proofs.Ythonlfjjgmmnpab.V
