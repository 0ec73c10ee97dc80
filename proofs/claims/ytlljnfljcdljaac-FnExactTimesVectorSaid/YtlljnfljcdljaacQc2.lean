/- Texts laid together: Help, Rows0, Own. -/
import Derived.Test.YtlljnfljcdljaacRows
import Derived.Test.YtlljnfljcdljaacQc1
import Derived.WalkKit
import Derived.ProofKit
import Derived.WalkSmall
import Derived.Deep.QuietTactic
import Derived.BigQuiet
import Derived.BigRegion
import Derived.Deep.Draws
import Derived.Lib.Hide
import Derived.OpenShut
import Derived.Deep.OwnRows
import Derived.Maps.AppendAt
import Derived.Deep.Onto
set_option linter.unusedSimpArgs false
set_option linter.unusedVariables false
set_option linter.unusedSectionVars false
namespace Go.Proofs.Ytlljnfljcdljaac.V
open Go.RowKit

theorem b_alloc (w : World) (o : Obj) : Below w.heap.size w (w.alloc o) := (Below.refl _ _).alloc (Nat.le_refl _) _
theorem b_draws (w : World) (n : Nat) : Below w.heap.size w (w.drewN n) := below_drewN (Below.refl _ _) n
theorem b_alloc_draws (w : World) (o : Obj) (n : Nat) : Below w.heap.size w ((w.alloc o).drewN n) := below_drewN (b_alloc w o) n

theorem b_ads (w : World) (o : Obj) (n : Nat) (i j : Nat) (u v : Value) : Below w.heap.size w ((((w.alloc o).drewN n).setCell ⟨w.heap.size, i, none⟩ u).setCell ⟨w.heap.size, j, none⟩ v) :=
  ((b_alloc_draws w o n).setCell (Nat.le_refl _) u).setCell (Nat.le_refl _) v
theorem wneg (n g : Int) (a : -1000000000000 ≤ n) (b : n ≤ 1000000000000) : wrap64 (-n.tdiv g) = -n.tdiv g := by
  have := M.tdiv_bdL n g 1000000000000 a b
  exact IntWalk.wrap64_in _ (by omega)
theorem wneg2 (d g : Int) (a : d ≤ 0) : -d / g = -d.tdiv g := by
  rw [← Int.neg_tdiv, Int.tdiv_eq_ediv_of_nonneg (by omega)]
theorem bcell {W w1 : World} (hb : Below W.heap.size W w1) : (∀ b o, b < W.heap.size → w1.cell? ⟨b, o, none⟩ = W.cell? ⟨b, o, none⟩) ∧ (∀ b o, b < W.heap.size → w1.frozen? ⟨b, o, none⟩ = W.frozen? ⟨b, o, none⟩) :=
  ⟨fun b o h => hb.cell (p := ⟨b, o, none⟩) h, fun b o h => hb.frozen (p := ⟨b, o, none⟩) h⟩
theorem b_alloc2 (w : World) (o o' : Obj) : Below w.heap.size w ((w.alloc o).alloc o') := (b_alloc w o).alloc (by simp) _
theorem bel2 {w w1 : World} {o o' : Obj} (hb : Below ((w.alloc o).alloc o').heap.size ((w.alloc o).alloc o') w1) : Below w.heap.size w w1 :=
  (b_alloc2 w o o').trans (hb.mono (by simp; omega))
theorem bel3 {w w1 w2 : World} {o o' : Obj} (hb : Below ((w.alloc o).alloc o').heap.size ((w.alloc o).alloc o') w1) (hb2 : Below w1.heap.size w1 w2) : Below w.heap.size w w2 :=
  (bel2 hb).trans (hb2.mono (bel2 hb).size)
theorem bel1 {w w1 : World} {o : Obj} (hb : Below (w.alloc o).heap.size (w.alloc o) w1) : Below w.heap.size w w1 :=
  (b_alloc w o).trans (hb.mono (by simp))
theorem bel1s {w w1 : World} {o : Obj} {i j : Nat} {u v : Value} (hb : Below (w.alloc o).heap.size (w.alloc o) w1) : Below w.heap.size w ((w1.setCell ⟨w.heap.size, i, none⟩ u).setCell ⟨w.heap.size, j, none⟩ v) :=
  ((bel1 hb).setCell (Nat.le_refl _) u).setCell (Nat.le_refl _) v
theorem bnext {w w1 w2 : World} (h : Below w.heap.size w w1) (hb : Below w1.heap.size w1 w2) : Below w.heap.size w w2 := h.trans (hb.mono h.size)
theorem ck {w1 w2 : World} {a : Addr} {v : Value} (h : w1.cell? a = some v) (hb : Below w1.heap.size w1 w2) : w2.cell? a = some v := by
  have hl : a.block < w1.heap.size := by
    by_cases hl : a.block < w1.heap.size
    · exact hl
    · exfalso
      have e : w1.heap[a.block]? = none := by simp; omega
      simp [World.cell?, e] at h
  rw [hb.cell hl]; exact h
theorem sb {w w1 w2 : World} {A B C D : Prop} (h : A ∧ B ∧ C ∧ D ∧ Below w.heap.size w w1) (hb : Below w1.heap.size w1 w2) : Below w.heap.size w w2 := bnext h.2.2.2.2 hb
theorem sd {w w1 : World} {A B C D : Prop} (h : A ∧ B ∧ C ∧ D ∧ Below w.heap.size w w1) : Below w.heap.size w w1.drew := h.2.2.2.2.drew
theorem kA {w1 w2 : World} {a : Addr} {v : Value} {B : Prop} (h : w1.cell? a = some v ∧ B) (hb : Below w1.heap.size w1 w2) : w2.cell? a = some v := ck h.1 hb
theorem kB {w1 w2 : World} {a : Addr} {v : Value} {A B : Prop} (h : A ∧ w1.cell? a = some v ∧ B) (hb : Below w1.heap.size w1 w2) : w2.cell? a = some v := ck h.2.1 hb
theorem kC {w1 w2 : World} {a : Addr} {v : Value} {A B C : Prop} (h : A ∧ B ∧ w1.cell? a = some v ∧ C) (hb : Below w1.heap.size w1 w2) : w2.cell? a = some v := ck h.2.2.1 hb
theorem kD {w1 w2 : World} {a : Addr} {v : Value} {A B C D : Prop} (h : A ∧ B ∧ C ∧ w1.cell? a = some v ∧ D) (hb : Below w1.heap.size w1 w2) : w2.cell? a = some v := ck h.2.2.2.1 hb
theorem s5 {w w1 : World} {A B C D : Prop} (h : A ∧ B ∧ C ∧ D ∧ Below w.heap.size w w1) : Below w.heap.size w w1 := h.2.2.2.2
theorem vi {a b : Int} {k : IntKind} (h : a = b) : Value.int k a = .int k b := by rw [h]
/-- A call that leaves the world alone, as a region's step. -/
theorem st_of {P : Program} {f : FuncId} {args : Array Value} {w : World} {v : Value} (h : Calls P f args w fun e w' => e = .returned v ∧ w = w') : Calls P f args w fun e w' => e = .returned v ∧ w' = w := by
  refine h.mono ?_
  rintro e w' ⟨he, hw⟩
  exact ⟨he, hw.symm⟩
/-- A quiet call in a world that has drawn before. -/
theorem q_more {P : Program} {f : FuncId} {args : Array Value} {w : World} {a n : Nat} {v : Value} (h : Calls P f args (w.drewN (a + n)) fun e w' => e = .returned v ∧ ∃ q, w' = (w.drewN (a + n)).drewN q) :
    Calls P f args (w.drewN (a + n)) fun e w' => e = .returned v ∧ ∃ m, w' = w.drewN (a + m) := by
  refine h.mono ?_
  rintro e w' ⟨he, q, hq⟩
  exact ⟨he, n + q, by rw [hq, World.drewN_drewN, Nat.add_assoc]⟩
theorem q_more_s {P : Program} {f : FuncId} {args : Array Value} {w : World} {a n : Nat} {v : Value} (h : Calls P f args (w.drewN (a + n)) fun e w' => e = .returned v ∧ w.drewN (a + n) = w') :
    Calls P f args (w.drewN (a + n)) fun e w' => e = .returned v ∧ ∃ m, w' = w.drewN (a + m) := by
  refine h.mono ?_
  rintro e w' ⟨he, hq⟩
  exact ⟨he, n, hq.symm⟩
theorem q_one_s {P : Program} {f : FuncId} {args : Array Value} {w : World} {n : Nat} {v : Value} (h : Calls P f args (w.drewN n) fun e w' => e = .returned v ∧ w.drewN n = w') :
    Calls P f args (w.drewN n) fun e w' => e = .returned v ∧ ∃ m, w' = w.drewN m := by
  refine h.mono ?_
  rintro e w' ⟨he, hq⟩
  exact ⟨he, n, hq.symm⟩
end Go.Proofs.Ytlljnfljcdljaac.V

namespace Go.Proofs.Ytlljnfljcdljaac.V
open Go.RowKit

/-- What the walk is told of a slice of integers that came in (the shell's own words). -/
def IsRow (k : IntKind) (w : World) (a : Option Addr) (len cap : Nat) (zs : List Int) : Prop :=
  (a = none ∧ len = 0 ∧ cap = 0 ∧ zs = []) ∨
  ∃ x, a = some x ∧ len ≤ cap ∧ cap ≤ maxLen ∧ zs.length = cap ∧ (∀ i, i < zs.length → w.cell? (x.add i) = some (.int k (zs.getD i 0))) ∧ ∀ n ∈ zs, (Lit.int k n).wf = true

/-- A slice value (address a, length n) whose elements are the list l. -/
def Ints (k : IntKind) (w : World) (a : Option Addr) (n : Nat) (l : List Int) : Prop :=
  l.length = n ∧ n ≤ maxLen ∧ (n = 0 ∨ ∃ b off, a = some ⟨b, off, none⟩ ∧ b < w.heap.size ∧ ∀ i, i < n → w.cell? ⟨b, off + i, none⟩ = some (.int k (l.getD i 0)))

theorem cell_lt {w : World} {a : Addr} {v : Value} (h : w.cell? a = some v) : a.block < w.heap.size := by
  by_cases hl : a.block < w.heap.size
  · exact hl
  · exfalso
    have e : w.heap[a.block]? = none := by simp; omega
    simp [World.cell?, e] at h

theorem IsRow.ints {k : IntKind} {w : World} {a : Option Addr} {len cap : Nat} {zs : List Int} (h : IsRow k w a len cap zs) : Ints k w a len (zs.take len) := by
  rcases h with ⟨rfl, rfl, rfl, rfl⟩ | ⟨x, rfl, hl, hm, hz, hcell, _⟩
  · exact ⟨rfl, Nat.zero_le _, .inl rfl⟩
  · refine ⟨by simp; omega, by omega, ?_⟩
    by_cases h0 : len = 0
    · exact .inl h0
    · obtain ⟨b, off, rfl, hc⟩ := ints_at hcell (by omega)
      refine .inr ⟨b, off, rfl, cell_lt (hc 0 (by omega)), fun i hi => ?_⟩
      rw [hc i (by omega)]
      simp [hi]

theorem Ints.below {k : IntKind} {w w' : World} {a : Option Addr} {n : Nat} {l : List Int} (h : Ints k w a n l) (hb : Below w.heap.size w w') : Ints k w' a n l := by
  obtain ⟨h1, h2, h3⟩ := h
  refine ⟨h1, h2, ?_⟩
  rcases h3 with h3 | ⟨b, off, rfl, hlt, hc⟩
  · exact .inl h3
  · exact .inr ⟨b, off, rfl, by have := hb.size; omega, fun i hi => by rw [hb.cell (p := ⟨b, off + i, none⟩) hlt]; exact hc i hi⟩

end Go.Proofs.Ytlljnfljcdljaac.V

namespace Go.Proofs.Ytlljnfljcdljaac.V
open Go.RowKit

theorem info64 : (Try.prog.info? 2).map (fun i => (i.zero, i.size, i.bytes)) = some (some (.int .i64 0), 1, 8) := by kernel_rfl
theorem infoS64 : (Try.prog.info? 29).map (fun i => (i.zero, i.size, i.bytes)) = some (some (.slice none 0 0), 1, 24) := by kernel_rfl

/-- A slice that the call owns, in blocks from B on, holding the integers l. -/
def Own (w : World) (B : Nat) (v : Value) (l : List Int) : Prop := w.ownsRow B 2 1 v l.length (l.map (Value.int .i64))

theorem own_lt {w : World} {B : Nat} {T : TypeId} {v : Value} {n : Nat} {xs : List Value} (h : w.ownsRow B T 1 v n xs) {k : Nat} (hk : v.ownBlock = some k) : B ≤ k ∧ k < w.heap.size := World.ownsRow.lt h k hk

theorem ownsRow_keep {w w' : World} {B : Nat} {T : TypeId} {v : Value} {n : Nat} {xs : List Value} (h : w.ownsRow B T 1 v n xs) (hk : ∀ k, v.ownBlock = some k → w'.heap[k]? = w.heap[k]?) : w'.ownsRow B T 1 v n xs := by
  obtain ⟨h1, h2⟩ := h
  refine ⟨h1, ?_⟩
  rcases h2 with h2 | ⟨g, cap, cur, hv, hg, hh, r⟩
  · exact .inl h2
  · exact .inr ⟨g, cap, cur, hv, hg, by rw [hk g (by subst hv; rfl)]; exact hh, r⟩
theorem Own.keep {w w' : World} {B : Nat} {v : Value} {l : List Int} (h : Own w B v l) (hk : ∀ k, B ≤ k → k < w.heap.size → w'.heap[k]? = w.heap[k]?) : Own w' B v l :=
  ownsRow_keep h fun k hv => hk k (own_lt h hv).1 (own_lt h hv).2
theorem Own.below {w w' : World} {B : Nat} {v : Value} {l : List Int} (h : Own w B v l) (hb : Below w.heap.size w w') : Own w' B v l :=
  h.keep (fun k _ h2 => hb.block k h2)
theorem Own.mono {w : World} {B B' : Nat} {v : Value} {l : List Int} (h : Own w B v l) (hb : B' ≤ B) : Own w B' v l := World.ownsRow.mono h hb

/-- The form of an owned slice. -/
theorem own_form {w : World} {B : Nat} {T : TypeId} {v : Value} {n : Nat} {xs : List Value} (h : w.ownsRow B T 1 v n xs) : ∃ a cap, v = .slice a n cap ∧ n ≤ cap ∧ cap ≤ maxLen ∧ (0 < n → ∃ g, a = some ⟨g, 0, none⟩ ∧ B ≤ g ∧ g < w.heap.size) := by
  have h' := h
  obtain ⟨h1, h2⟩ := h
  rcases h2 with ⟨hv, h0⟩ | ⟨g, cap, cur, hv, hg, hh, hn, hc, r⟩
  · subst h0; exact ⟨none, 0, hv, Nat.le_refl _, Nat.zero_le _, fun h => by omega⟩
  · subst hv
    exact ⟨_, cap, rfl, hn, hc, fun _ => ⟨g, rfl, hg, (own_lt h' rfl).2⟩⟩

/-- What an owned slice is: a slice of the integers l. -/
theorem Own.ints {w : World} {B : Nat} {v : Value} {l : List Int} (h : Own w B v l) : ∃ a cap, v = .slice a l.length cap ∧ Ints .i64 w a l.length l := by
  have h' := h
  obtain ⟨h1, h2⟩ := h
  rcases h2 with ⟨hv, h0⟩ | ⟨g, cap, cur, hv, hg, hh, hn, hc, r⟩
  · refine ⟨none, 0, by rw [h0]; exact hv, rfl, by omega, .inl h0⟩
  · subst hv
    refine ⟨some ⟨g, 0, none⟩, cap, rfl, rfl, by omega, ?_⟩
    by_cases h0 : l.length = 0
    · exact .inl h0
    · refine .inr ⟨g, 0, rfl, (own_lt h' rfl).2, fun i hi => ?_⟩
      have := World.ownsRow.cellAt h' i (by omega)
      rw [Nat.zero_add, this]
      simp [hi]

theorem Own.ints' {w : World} {B : Nat} {a : Option Addr} {n cap : Nat} {l : List Int} (h : Own w B (.slice a n cap) l) : Ints .i64 w a n l := by
  obtain ⟨a', c', hv, hI⟩ := h.ints
  injection hv with e1 e2 e3
  subst e1 e2
  exact hI

theorem own_lit0 (w : World) (B : Nat) (hB : B ≤ w.heap.size) : Own (w.alloc (.cells #[] 2)) B (.slice (some ⟨w.heap.size, 0, none⟩) 0 0) [] :=
  World.ownsRow_lit w #[] 0 hB (by decide) rfl

theorem own_made (w : World) (B n : Nat) (hB : B ≤ w.heap.size) (hn : n ≤ maxLen) : Own (w.alloc (.cells (madeCells #[.int .i64 0] n) 2)) B (.slice (some ⟨w.heap.size, 0, none⟩) n n) ((List.range n).map fun _ => 0) := by
  have h := World.rowIs_made w (.int .i64 0) n 2
  obtain ⟨c, hb, hs, hc⟩ := h
  refine ⟨by simp, .inr ⟨w.heap.size, n, c, by simp, hB, hb, by simp, hn, by simp [hs], ?_⟩⟩
  apply List.ext_getElem
  · simp [hs]
  · intro i h1 h2
    simp only [List.length_map, List.length_range] at h2
    have := hc i h2
    simp [List.getElem_take]
    rw [Array.getElem?_eq_getElem (by omega)] at this
    exact Option.some.inj this

theorem Own.len {w : World} {B n cap : Nat} {a : Option Addr} {l : List Int} (h : Own w B (.slice a n cap) l) : n = l.length := by
  obtain ⟨a', c, hv, _⟩ := own_form h
  injection hv
theorem Own.frozenAt {w : World} {B g n cap : Nat} {l : List Int} (h : Own w B (.slice (some ⟨g, 0, none⟩) n cap) l) (j : Nat) : w.frozen? ⟨g, j, none⟩ = false := by
  have e := h.len
  subst e
  exact World.ownsRow.frozenAt h j
theorem Own.cellAt {w : World} {B g n cap : Nat} {l : List Int} (h : Own w B (.slice (some ⟨g, 0, none⟩) n cap) l) (j : Nat) (hj : j < n) : w.cell? ⟨g, j, none⟩ = some (.int .i64 (l.getD j 0)) := by
  have e := h.len
  subst e
  rw [World.ownsRow.cellAt h j (by omega)]
  simp [hj]

/-- A store into an owned slice. -/
theorem Own.set {w : World} {B g n cap : Nat} {l : List Int} (h : Own w B (.slice (some ⟨g, 0, none⟩) n cap) l) (i : Nat) (x : Int) : Own (w.setCell ⟨g, i, none⟩ (.int .i64 x)) B (.slice (some ⟨g, 0, none⟩) n cap) (l.set i x) := by
  have hn : n = l.length := by
    obtain ⟨a, c, hv, _⟩ := own_form h
    injection hv
  subst hn
  have := (World.ownsRow.stored h i (.int .i64 x)).1
  unfold Own
  simpa [List.map_set] using this
end Go.Proofs.Ytlljnfljcdljaac.V
