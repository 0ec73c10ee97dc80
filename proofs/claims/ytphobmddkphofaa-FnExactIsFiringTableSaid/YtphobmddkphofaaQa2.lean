/- Texts laid together: Help, Rows0, Own, Gra, Mat0, Mat1, Mark, Grb, Grc, Vals0, Grd. -/
import Derived.Test.YtphobmddkphofaaRows
import Derived.Test.YtphobmddkphofaaQa1
import Derived.WalkKit
import Derived.ProofKit
import Derived.WalkSmall
import Derived.Deep.QuietTactic
import Derived.BigQuiet
import Derived.BigRegion
import Derived.Deep.Draws
import Derived.Lib.Hide
import Derived.OpenShut
import Derived.Deep.OwnRows
import Derived.Maps.AppendAt
import Derived.Deep.Onto
import Derived.Deep.AppendLies
import Derived.IntWalk
import Derived.Deep.RegionWith
set_option linter.unusedSimpArgs false
set_option linter.unusedVariables false
set_option linter.unusedSectionVars false
namespace Go.Proofs.Ytphobmddkphofaa.V
open Go.RowKit

theorem b_alloc (w : World) (o : Obj) : Below w.heap.size w (w.alloc o) := (Below.refl _ _).alloc (Nat.le_refl _) _
theorem b_draws (w : World) (n : Nat) : Below w.heap.size w (w.drewN n) := below_drewN (Below.refl _ _) n
theorem b_alloc_draws (w : World) (o : Obj) (n : Nat) : Below w.heap.size w ((w.alloc o).drewN n) := below_drewN (b_alloc w o) n

theorem b_ads (w : World) (o : Obj) (n : Nat) (i j : Nat) (u v : Value) : Below w.heap.size w ((((w.alloc o).drewN n).setCell ⟨w.heap.size, i, none⟩ u).setCell ⟨w.heap.size, j, none⟩ v) :=
  ((b_alloc_draws w o n).setCell (Nat.le_refl _) u).setCell (Nat.le_refl _) v
theorem wneg (n g : Int) (a : -1000000000000 ≤ n) (b : n ≤ 1000000000000) : wrap64 (-n.tdiv g) = -n.tdiv g := by
  have := M.tdiv_bdL n g 1000000000000 a b
  exact IntWalk.wrap64_in _ (by omega)
theorem wneg2 (d g : Int) (a : d ≤ 0) : -d / g = -d.tdiv g := by
  rw [← Int.neg_tdiv, Int.tdiv_eq_ediv_of_nonneg (by omega)]
theorem bcell {W w1 : World} (hb : Below W.heap.size W w1) : (∀ b o, b < W.heap.size → w1.cell? ⟨b, o, none⟩ = W.cell? ⟨b, o, none⟩) ∧ (∀ b o, b < W.heap.size → w1.frozen? ⟨b, o, none⟩ = W.frozen? ⟨b, o, none⟩) :=
  ⟨fun b o h => hb.cell (p := ⟨b, o, none⟩) h, fun b o h => hb.frozen (p := ⟨b, o, none⟩) h⟩
theorem b_alloc2 (w : World) (o o' : Obj) : Below w.heap.size w ((w.alloc o).alloc o') := (b_alloc w o).alloc (by simp) _
theorem bel2 {w w1 : World} {o o' : Obj} (hb : Below ((w.alloc o).alloc o').heap.size ((w.alloc o).alloc o') w1) : Below w.heap.size w w1 :=
  (b_alloc2 w o o').trans (hb.mono (by simp; omega))
theorem bel3 {w w1 w2 : World} {o o' : Obj} (hb : Below ((w.alloc o).alloc o').heap.size ((w.alloc o).alloc o') w1) (hb2 : Below w1.heap.size w1 w2) : Below w.heap.size w w2 :=
  (bel2 hb).trans (hb2.mono (bel2 hb).size)
theorem bel1 {w w1 : World} {o : Obj} (hb : Below (w.alloc o).heap.size (w.alloc o) w1) : Below w.heap.size w w1 :=
  (b_alloc w o).trans (hb.mono (by simp))
theorem bel1s {w w1 : World} {o : Obj} {i j : Nat} {u v : Value} (hb : Below (w.alloc o).heap.size (w.alloc o) w1) : Below w.heap.size w ((w1.setCell ⟨w.heap.size, i, none⟩ u).setCell ⟨w.heap.size, j, none⟩ v) :=
  ((bel1 hb).setCell (Nat.le_refl _) u).setCell (Nat.le_refl _) v
theorem bnext {w w1 w2 : World} (h : Below w.heap.size w w1) (hb : Below w1.heap.size w1 w2) : Below w.heap.size w w2 := h.trans (hb.mono h.size)
theorem ck {w1 w2 : World} {a : Addr} {v : Value} (h : w1.cell? a = some v) (hb : Below w1.heap.size w1 w2) : w2.cell? a = some v := by
  have hl : a.block < w1.heap.size := by
    by_cases hl : a.block < w1.heap.size
    · exact hl
    · exfalso
      have e : w1.heap[a.block]? = none := by simp; omega
      simp [World.cell?, e] at h
  rw [hb.cell hl]; exact h
theorem sb {w w1 w2 : World} {A B C D : Prop} (h : A ∧ B ∧ C ∧ D ∧ Below w.heap.size w w1) (hb : Below w1.heap.size w1 w2) : Below w.heap.size w w2 := bnext h.2.2.2.2 hb
theorem sd {w w1 : World} {A B C D : Prop} (h : A ∧ B ∧ C ∧ D ∧ Below w.heap.size w w1) : Below w.heap.size w w1.drew := h.2.2.2.2.drew
theorem kA {w1 w2 : World} {a : Addr} {v : Value} {B : Prop} (h : w1.cell? a = some v ∧ B) (hb : Below w1.heap.size w1 w2) : w2.cell? a = some v := ck h.1 hb
theorem kB {w1 w2 : World} {a : Addr} {v : Value} {A B : Prop} (h : A ∧ w1.cell? a = some v ∧ B) (hb : Below w1.heap.size w1 w2) : w2.cell? a = some v := ck h.2.1 hb
theorem kC {w1 w2 : World} {a : Addr} {v : Value} {A B C : Prop} (h : A ∧ B ∧ w1.cell? a = some v ∧ C) (hb : Below w1.heap.size w1 w2) : w2.cell? a = some v := ck h.2.2.1 hb
theorem kD {w1 w2 : World} {a : Addr} {v : Value} {A B C D : Prop} (h : A ∧ B ∧ C ∧ w1.cell? a = some v ∧ D) (hb : Below w1.heap.size w1 w2) : w2.cell? a = some v := ck h.2.2.2.1 hb
theorem s5 {w w1 : World} {A B C D : Prop} (h : A ∧ B ∧ C ∧ D ∧ Below w.heap.size w w1) : Below w.heap.size w w1 := h.2.2.2.2
theorem vi {a b : Int} {k : IntKind} (h : a = b) : Value.int k a = .int k b := by rw [h]
/-- A call that leaves the world alone, as a region's step. -/
theorem st_of {P : Program} {f : FuncId} {args : Array Value} {w : World} {v : Value} (h : Calls P f args w fun e w' => e = .returned v ∧ w = w') : Calls P f args w fun e w' => e = .returned v ∧ w' = w := by
  refine h.mono ?_
  rintro e w' ⟨he, hw⟩
  exact ⟨he, hw.symm⟩
/-- A quiet call in a world that has drawn before. -/
theorem q_more {P : Program} {f : FuncId} {args : Array Value} {w : World} {a n : Nat} {v : Value} (h : Calls P f args (w.drewN (a + n)) fun e w' => e = .returned v ∧ ∃ q, w' = (w.drewN (a + n)).drewN q) :
    Calls P f args (w.drewN (a + n)) fun e w' => e = .returned v ∧ ∃ m, w' = w.drewN (a + m) := by
  refine h.mono ?_
  rintro e w' ⟨he, q, hq⟩
  exact ⟨he, n + q, by rw [hq, World.drewN_drewN, Nat.add_assoc]⟩
theorem q_more_s {P : Program} {f : FuncId} {args : Array Value} {w : World} {a n : Nat} {v : Value} (h : Calls P f args (w.drewN (a + n)) fun e w' => e = .returned v ∧ w.drewN (a + n) = w') :
    Calls P f args (w.drewN (a + n)) fun e w' => e = .returned v ∧ ∃ m, w' = w.drewN (a + m) := by
  refine h.mono ?_
  rintro e w' ⟨he, hq⟩
  exact ⟨he, n, hq.symm⟩
theorem q_one_s {P : Program} {f : FuncId} {args : Array Value} {w : World} {n : Nat} {v : Value} (h : Calls P f args (w.drewN n) fun e w' => e = .returned v ∧ w.drewN n = w') :
    Calls P f args (w.drewN n) fun e w' => e = .returned v ∧ ∃ m, w' = w.drewN m := by
  refine h.mono ?_
  rintro e w' ⟨he, hq⟩
  exact ⟨he, n, hq.symm⟩
end Go.Proofs.Ytphobmddkphofaa.V

namespace Go.Proofs.Ytphobmddkphofaa.V
open Go.RowKit

/-- What the walk is told of a slice of integers that came in (the shell's own words). -/
def IsRow (k : IntKind) (w : World) (a : Option Addr) (len cap : Nat) (zs : List Int) : Prop :=
  (a = none ∧ len = 0 ∧ cap = 0 ∧ zs = []) ∨
  ∃ x, a = some x ∧ len ≤ cap ∧ cap ≤ maxLen ∧ zs.length = cap ∧ (∀ i, i < zs.length → w.cell? (x.add i) = some (.int k (zs.getD i 0))) ∧ ∀ n ∈ zs, (Lit.int k n).wf = true

/-- A slice value (address a, length n) whose elements are the list l. -/
def Ints (k : IntKind) (w : World) (a : Option Addr) (n : Nat) (l : List Int) : Prop :=
  l.length = n ∧ n ≤ maxLen ∧ (n = 0 ∨ ∃ b off, a = some ⟨b, off, none⟩ ∧ b < w.heap.size ∧ ∀ i, i < n → w.cell? ⟨b, off + i, none⟩ = some (.int k (l.getD i 0)))

theorem cell_lt {w : World} {a : Addr} {v : Value} (h : w.cell? a = some v) : a.block < w.heap.size := by
  by_cases hl : a.block < w.heap.size
  · exact hl
  · exfalso
    have e : w.heap[a.block]? = none := by simp; omega
    simp [World.cell?, e] at h

theorem IsRow.ints {k : IntKind} {w : World} {a : Option Addr} {len cap : Nat} {zs : List Int} (h : IsRow k w a len cap zs) : Ints k w a len (zs.take len) := by
  rcases h with ⟨rfl, rfl, rfl, rfl⟩ | ⟨x, rfl, hl, hm, hz, hcell, _⟩
  · exact ⟨rfl, Nat.zero_le _, .inl rfl⟩
  · refine ⟨by simp; omega, by omega, ?_⟩
    by_cases h0 : len = 0
    · exact .inl h0
    · obtain ⟨b, off, rfl, hc⟩ := ints_at hcell (by omega)
      refine .inr ⟨b, off, rfl, cell_lt (hc 0 (by omega)), fun i hi => ?_⟩
      rw [hc i (by omega)]
      simp [hi]

theorem Ints.below {k : IntKind} {w w' : World} {a : Option Addr} {n : Nat} {l : List Int} (h : Ints k w a n l) (hb : Below w.heap.size w w') : Ints k w' a n l := by
  obtain ⟨h1, h2, h3⟩ := h
  refine ⟨h1, h2, ?_⟩
  rcases h3 with h3 | ⟨b, off, rfl, hlt, hc⟩
  · exact .inl h3
  · exact .inr ⟨b, off, rfl, by have := hb.size; omega, fun i hi => by rw [hb.cell (p := ⟨b, off + i, none⟩) hlt]; exact hc i hi⟩

end Go.Proofs.Ytphobmddkphofaa.V

namespace Go.Proofs.Ytphobmddkphofaa.V
open Go.RowKit

theorem info64 : (Try.prog.info? 2).map (fun i => (i.zero, i.size, i.bytes)) = some (some (.int .i64 0), 1, 8) := by kernel_rfl
theorem infoS64 : (Try.prog.info? 29).map (fun i => (i.zero, i.size, i.bytes)) = some (some (.slice none 0 0), 1, 24) := by kernel_rfl

/-- A slice that the call owns, in blocks from B on, holding the integers l. -/
def Own (w : World) (B : Nat) (v : Value) (l : List Int) : Prop := w.ownsRow B 2 1 v l.length (l.map (Value.int .i64))

theorem own_lt {w : World} {B : Nat} {T : TypeId} {v : Value} {n : Nat} {xs : List Value} (h : w.ownsRow B T 1 v n xs) {k : Nat} (hk : v.ownBlock = some k) : B ≤ k ∧ k < w.heap.size := World.ownsRow.lt h k hk

theorem ownsRow_keep {w w' : World} {B : Nat} {T : TypeId} {v : Value} {n : Nat} {xs : List Value} (h : w.ownsRow B T 1 v n xs) (hk : ∀ k, v.ownBlock = some k → w'.heap[k]? = w.heap[k]?) : w'.ownsRow B T 1 v n xs := by
  obtain ⟨h1, h2⟩ := h
  refine ⟨h1, ?_⟩
  rcases h2 with h2 | ⟨g, cap, cur, hv, hg, hh, r⟩
  · exact .inl h2
  · exact .inr ⟨g, cap, cur, hv, hg, by rw [hk g (by subst hv; rfl)]; exact hh, r⟩
theorem Own.keep {w w' : World} {B : Nat} {v : Value} {l : List Int} (h : Own w B v l) (hk : ∀ k, B ≤ k → k < w.heap.size → w'.heap[k]? = w.heap[k]?) : Own w' B v l :=
  ownsRow_keep h fun k hv => hk k (own_lt h hv).1 (own_lt h hv).2
theorem Own.below {w w' : World} {B : Nat} {v : Value} {l : List Int} (h : Own w B v l) (hb : Below w.heap.size w w') : Own w' B v l :=
  h.keep (fun k _ h2 => hb.block k h2)
theorem Own.mono {w : World} {B B' : Nat} {v : Value} {l : List Int} (h : Own w B v l) (hb : B' ≤ B) : Own w B' v l := World.ownsRow.mono h hb

/-- The form of an owned slice. -/
theorem own_form {w : World} {B : Nat} {T : TypeId} {v : Value} {n : Nat} {xs : List Value} (h : w.ownsRow B T 1 v n xs) : ∃ a cap, v = .slice a n cap ∧ n ≤ cap ∧ cap ≤ maxLen ∧ (0 < n → ∃ g, a = some ⟨g, 0, none⟩ ∧ B ≤ g ∧ g < w.heap.size) := by
  have h' := h
  obtain ⟨h1, h2⟩ := h
  rcases h2 with ⟨hv, h0⟩ | ⟨g, cap, cur, hv, hg, hh, hn, hc, r⟩
  · subst h0; exact ⟨none, 0, hv, Nat.le_refl _, Nat.zero_le _, fun h => by omega⟩
  · subst hv
    exact ⟨_, cap, rfl, hn, hc, fun _ => ⟨g, rfl, hg, (own_lt h' rfl).2⟩⟩

/-- What an owned slice is: a slice of the integers l. -/
theorem Own.ints {w : World} {B : Nat} {v : Value} {l : List Int} (h : Own w B v l) : ∃ a cap, v = .slice a l.length cap ∧ Ints .i64 w a l.length l := by
  have h' := h
  obtain ⟨h1, h2⟩ := h
  rcases h2 with ⟨hv, h0⟩ | ⟨g, cap, cur, hv, hg, hh, hn, hc, r⟩
  · refine ⟨none, 0, by rw [h0]; exact hv, rfl, by omega, .inl h0⟩
  · subst hv
    refine ⟨some ⟨g, 0, none⟩, cap, rfl, rfl, by omega, ?_⟩
    by_cases h0 : l.length = 0
    · exact .inl h0
    · refine .inr ⟨g, 0, rfl, (own_lt h' rfl).2, fun i hi => ?_⟩
      have := World.ownsRow.cellAt h' i (by omega)
      rw [Nat.zero_add, this]
      simp [hi]

theorem Own.ints' {w : World} {B : Nat} {a : Option Addr} {n cap : Nat} {l : List Int} (h : Own w B (.slice a n cap) l) : Ints .i64 w a n l := by
  obtain ⟨a', c', hv, hI⟩ := h.ints
  injection hv with e1 e2 e3
  subst e1 e2
  exact hI

theorem own_lit0 (w : World) (B : Nat) (hB : B ≤ w.heap.size) : Own (w.alloc (.cells #[] 2)) B (.slice (some ⟨w.heap.size, 0, none⟩) 0 0) [] :=
  World.ownsRow_lit w #[] 0 hB (by decide) rfl

theorem own_made (w : World) (B n : Nat) (hB : B ≤ w.heap.size) (hn : n ≤ maxLen) : Own (w.alloc (.cells (madeCells #[.int .i64 0] n) 2)) B (.slice (some ⟨w.heap.size, 0, none⟩) n n) ((List.range n).map fun _ => 0) := by
  have h := World.rowIs_made w (.int .i64 0) n 2
  obtain ⟨c, hb, hs, hc⟩ := h
  refine ⟨by simp, .inr ⟨w.heap.size, n, c, by simp, hB, hb, by simp, hn, by simp [hs], ?_⟩⟩
  apply List.ext_getElem
  · simp [hs]
  · intro i h1 h2
    simp only [List.length_map, List.length_range] at h2
    have := hc i h2
    simp [List.getElem_take]
    rw [Array.getElem?_eq_getElem (by omega)] at this
    exact Option.some.inj this

theorem Own.len {w : World} {B n cap : Nat} {a : Option Addr} {l : List Int} (h : Own w B (.slice a n cap) l) : n = l.length := by
  obtain ⟨a', c, hv, _⟩ := own_form h
  injection hv
theorem Own.frozenAt {w : World} {B g n cap : Nat} {l : List Int} (h : Own w B (.slice (some ⟨g, 0, none⟩) n cap) l) (j : Nat) : w.frozen? ⟨g, j, none⟩ = false := by
  have e := h.len
  subst e
  exact World.ownsRow.frozenAt h j
theorem Own.cellAt {w : World} {B g n cap : Nat} {l : List Int} (h : Own w B (.slice (some ⟨g, 0, none⟩) n cap) l) (j : Nat) (hj : j < n) : w.cell? ⟨g, j, none⟩ = some (.int .i64 (l.getD j 0)) := by
  have e := h.len
  subst e
  rw [World.ownsRow.cellAt h j (by omega)]
  simp [hj]

/-- A store into an owned slice. -/
theorem Own.set {w : World} {B g n cap : Nat} {l : List Int} (h : Own w B (.slice (some ⟨g, 0, none⟩) n cap) l) (i : Nat) (x : Int) : Own (w.setCell ⟨g, i, none⟩ (.int .i64 x)) B (.slice (some ⟨g, 0, none⟩) n cap) (l.set i x) := by
  have hn : n = l.length := by
    obtain ⟨a, c, hv, _⟩ := own_form h
    injection hv
  subst hn
  have := (World.ownsRow.stored h i (.int .i64 x)).1
  unfold Own
  simpa [List.map_set] using this
end Go.Proofs.Ytphobmddkphofaa.V

namespace Go.Proofs.Ytphobmddkphofaa
namespace M
/-- From, To, Delay, Tokens. -/
abbrev Pc := Int × Int × Int × Int
def pz : Pc := (0, 0, 0, 0)
def pf (p : Pc) (j : Nat) : Int := if j = 0 then p.1 else if j = 1 then p.2.1 else if j = 2 then p.2.2.1 else p.2.2.2
def setP (p : Pc) (j : Nat) (x : Int) : Pc := if j = 0 then (x, p.2.1, p.2.2.1, p.2.2.2) else if j = 1 then (p.1, x, p.2.2.1, p.2.2.2) else if j = 2 then (p.1, p.2.1, x, p.2.2.2) else (p.1, p.2.1, p.2.2.1, x)
theorem pf_set (p : Pc) (x : Int) {j k : Nat} (hj : j < 4) (hk : k < 4) : pf (setP p j x) k = if k = j then x else pf p k := by
  have h1 : j = 0 ∨ j = 1 ∨ j = 2 ∨ j = 3 := by omega
  have h2 : k = 0 ∨ k = 1 ∨ k = 2 ∨ k = 3 := by omega
  rcases h1 with rfl | rfl | rfl | rfl <;> rcases h2 with rfl | rfl | rfl | rfl <;> rfl
/-- One number of a place is changed. -/
def stF (l : List Pc) (i j : Nat) (x : Int) : List Pc := l.set i (setP (l.getD i pz) j x)
theorem stF_len (l : List Pc) (i j : Nat) (x : Int) : (stF l i j x).length = l.length := by simp [stF]
end M
namespace V
set_option maxRecDepth 100000
open Go.RowKit
theorem infoP : (Try.prog.info? 39).map (fun i => (i.zero, i.size, i.bytes)) = some (some (.agg #[.int .i64 0, .int .i64 0, .int .i64 0, .int .i64 0]), 4, 32) := by kernel_rfl
/-- A place by value. -/
def pV (p : M.Pc) : Value := .agg #[.int .i64 p.1, .int .i64 p.2.1, .int .i64 p.2.2.1, .int .i64 p.2.2.2]
/-- Four cells a place. -/
def pcells (l : List M.Pc) : List Value := (List.range (l.length * 4)).map fun q => Value.int .i64 (M.pf (l.getD (q / 4) M.pz) (q % 4))
theorem pcells_len (l : List M.Pc) : (pcells l).length = l.length * 4 := by simp [pcells]
theorem pcells_get (l : List M.Pc) {q : Nat} (hq : q < l.length * 4) : (pcells l)[q]? = some (.int .i64 (M.pf (l.getD (q / 4) M.pz) (q % 4))) := by
  unfold pcells
  rw [List.getElem?_map, List.getElem?_range hq]
  rfl
theorem pcells_at (l : List M.Pc) {i : Nat} (hi : i < l.length) : (pcells l)[i * 4]? = some (.int .i64 (l.getD i M.pz).1) ∧ (pcells l)[i * 4 + 1]? = some (.int .i64 (l.getD i M.pz).2.1) ∧ (pcells l)[i * 4 + 2]? = some (.int .i64 (l.getD i M.pz).2.2.1) ∧ (pcells l)[i * 4 + 3]? = some (.int .i64 (l.getD i M.pz).2.2.2) := by
  refine ⟨?_, ?_, ?_, ?_⟩
  · rw [pcells_get l (by omega), show i * 4 / 4 = i by omega, show i * 4 % 4 = 0 by omega]; rfl
  · rw [pcells_get l (by omega), show (i * 4 + 1) / 4 = i by omega, show (i * 4 + 1) % 4 = 1 by omega]; rfl
  · rw [pcells_get l (by omega), show (i * 4 + 2) / 4 = i by omega, show (i * 4 + 2) % 4 = 2 by omega]; rfl
  · rw [pcells_get l (by omega), show (i * 4 + 3) / 4 = i by omega, show (i * 4 + 3) % 4 = 3 by omega]; rfl
theorem pcells_ext {l : List M.Pc} {xs : List Value} (hl : xs.length = l.length * 4) (h : ∀ q, q < l.length * 4 → xs[q]? = some (.int .i64 (M.pf (l.getD (q / 4) M.pz) (q % 4)))) : xs = pcells l := by
  apply List.ext_getElem?
  intro q
  by_cases hq : q < l.length * 4
  · rw [h q hq, pcells_get l hq]
  · rw [List.getElem?_eq_none (by omega), List.getElem?_eq_none (by rw [pcells_len]; omega)]
theorem pcells_app (l k : List M.Pc) : pcells (l ++ k) = pcells l ++ pcells k := by
  refine (pcells_ext (by rw [List.length_append, pcells_len, pcells_len, List.length_append]; omega) fun q hq => ?_).symm
  rw [List.length_append] at hq
  by_cases h : q < l.length * 4
  · rw [List.getElem?_append_left (by rw [pcells_len]; exact h), pcells_get l h, List.getD_eq_getElem?_getD, List.getD_eq_getElem?_getD, List.getElem?_append_left (by omega)]
  · rw [List.getElem?_append_right (by rw [pcells_len]; omega), pcells_len, pcells_get k (by omega), List.getD_eq_getElem?_getD, List.getD_eq_getElem?_getD, List.getElem?_append_right (by omega), show (q - l.length * 4) / 4 = q / 4 - l.length by omega, show (q - l.length * 4) % 4 = q % 4 by omega]
theorem pcells_one (p : M.Pc) : pcells [p] = [.int .i64 p.1, .int .i64 p.2.1, .int .i64 p.2.2.1, .int .i64 p.2.2.2] := by
  simp [pcells, M.pf, List.range_succ]
theorem pcells_set {l : List M.Pc} {i j : Nat} (x : Int) (hi : i < l.length) (hj : j < 4) : (pcells l).set (i * 4 + j) (.int .i64 x) = pcells (l.set i (M.setP (l.getD i M.pz) j x)) := by
  refine pcells_ext (by rw [List.length_set, pcells_len, List.length_set]) fun q hq => ?_
  rw [List.length_set] at hq
  by_cases h : q = i * 4 + j
  · subst h
    rw [List.getElem?_set_self (by rw [pcells_len]; omega), show (i * 4 + j) / 4 = i by omega, show (i * 4 + j) % 4 = j by omega, List.getD_eq_getElem?_getD, List.getElem?_set_self hi]
    show some (Value.int _ _) = some (.int .i64 (M.pf (M.setP _ j x) j))
    rw [M.pf_set _ _ hj hj, if_pos rfl]
  · rw [List.getElem?_set_ne (Ne.symm h), pcells_get l hq]
    by_cases h2 : q / 4 = i
    · rw [h2]
      have e : (l.set i (M.setP (l.getD i M.pz) j x)).getD i M.pz = M.setP (l.getD i M.pz) j x := by rw [List.getD_eq_getElem?_getD, List.getElem?_set_self hi]; rfl
      rw [e]
      show some (Value.int _ _) = some (.int .i64 (M.pf (M.setP _ j x) (q % 4)))
      rw [M.pf_set _ _ hj (by omega), if_neg (by omega)]
    · rw [List.getD_eq_getElem?_getD, List.getD_eq_getElem?_getD, List.getElem?_set_ne (Ne.symm h2)]
/-- A slice of places that is read. -/
def Pls (w : World) (a : Option Addr) (n : Nat) (l : List M.Pc) : Prop :=
  l.length = n ∧ n ≤ maxLen ∧ (n = 0 ∨ ∃ b off, a = some ⟨b, off, none⟩ ∧ b < w.heap.size ∧ ∀ i, i < n → w.cell? ⟨b, off + i * 4, none⟩ = some (.int .i64 (l.getD i M.pz).1) ∧ w.cell? ⟨b, off + i * 4 + 1, none⟩ = some (.int .i64 (l.getD i M.pz).2.1) ∧ w.cell? ⟨b, off + i * 4 + 2, none⟩ = some (.int .i64 (l.getD i M.pz).2.2.1) ∧ w.cell? ⟨b, off + i * 4 + 3, none⟩ = some (.int .i64 (l.getD i M.pz).2.2.2))
theorem Pls.below {w w' : World} {a : Option Addr} {n : Nat} {l : List M.Pc} (h : Pls w a n l) (hb : Below w.heap.size w w') : Pls w' a n l := by
  obtain ⟨h1, h2, h3⟩ := h
  refine ⟨h1, h2, h3.imp id ?_⟩
  rintro ⟨b, off, rfl, hlt, hc⟩
  refine ⟨b, off, rfl, Nat.lt_of_lt_of_le hlt hb.size, fun i hi => ?_⟩
  obtain ⟨c0, c1, c2, c3⟩ := hc i hi
  exact ⟨(hb.cell (p := ⟨b, _, none⟩) hlt).trans c0, (hb.cell (p := ⟨b, _, none⟩) hlt).trans c1, (hb.cell (p := ⟨b, _, none⟩) hlt).trans c2, (hb.cell (p := ⟨b, _, none⟩) hlt).trans c3⟩
theorem Pls.at {w : World} {a : Option Addr} {n : Nat} {l : List M.Pc} (h : Pls w a n l) (i : Nat) (hi : i < n) : ∃ b off p0 p1 p2 p3, a = some ⟨b, off, none⟩ ∧ b < w.heap.size ∧ l.getD i M.pz = (p0, p1, p2, p3) ∧ w.cell? ⟨b, off + i * 4, none⟩ = some (.int .i64 p0) ∧ w.cell? ⟨b, off + i * 4 + 1, none⟩ = some (.int .i64 p1) ∧ w.cell? ⟨b, off + i * 4 + 2, none⟩ = some (.int .i64 p2) ∧ w.cell? ⟨b, off + i * 4 + 3, none⟩ = some (.int .i64 p3) := by
  obtain ⟨h1, h2, h3⟩ := h
  rcases h3 with h3 | ⟨b, off, rfl, hlt, hc⟩
  · omega
  · obtain ⟨c0, c1, c2, c3⟩ := hc i hi
    exact ⟨b, off, _, _, _, _, rfl, hlt, rfl, c0, c1, c2, c3⟩
/-- A slice that the call owns, in blocks from B on, holding the places l. -/
def OwnPl (w : World) (B : Nat) (v : Value) (l : List M.Pc) : Prop := w.ownsRow B 39 4 v l.length (pcells l)
theorem OwnPl.lt {w : World} {B : Nat} {v : Value} {l : List M.Pc} (h : OwnPl w B v l) {k : Nat} (hk : v.ownBlock = some k) : B ≤ k ∧ k < w.heap.size := World.ownsRow.lt h k hk
theorem OwnPl.keepB {w w' : World} {B : Nat} {v : Value} {l : List M.Pc} (h : OwnPl w B v l) (hk : ∀ k, v.ownBlock = some k → w'.heap[k]? = w.heap[k]?) : OwnPl w' B v l := by
  obtain ⟨h1, h2⟩ := h
  refine ⟨h1, ?_⟩
  rcases h2 with h2 | ⟨g, cap, cur, hv, hg, hh, r⟩
  · exact .inl h2
  · exact .inr ⟨g, cap, cur, hv, hg, by rw [hk g (by subst hv; rfl)]; exact hh, r⟩
theorem OwnPl.keep {w w' : World} {B : Nat} {v : Value} {l : List M.Pc} (h : OwnPl w B v l) (hk : ∀ k, B ≤ k → k < w.heap.size → w'.heap[k]? = w.heap[k]?) : OwnPl w' B v l :=
  h.keepB fun k hv => hk k (h.lt hv).1 (h.lt hv).2
theorem OwnPl.below {w w' : World} {B : Nat} {v : Value} {l : List M.Pc} (h : OwnPl w B v l) (hb : Below w.heap.size w w') : OwnPl w' B v l := h.keep (fun k _ h2 => hb.block k h2)
theorem OwnPl.mono {w : World} {B B' : Nat} {v : Value} {l : List M.Pc} (h : OwnPl w B v l) (hb : B' ≤ B) : OwnPl w B' v l := World.ownsRow.mono h hb
theorem OwnPl.form {w : World} {B : Nat} {v : Value} {l : List M.Pc} (h : OwnPl w B v l) : ∃ a cap, v = .slice a l.length cap ∧ l.length ≤ cap ∧ cap ≤ maxLen ∧ (0 < l.length → ∃ g, a = some ⟨g, 0, none⟩ ∧ B ≤ g ∧ g < w.heap.size) := by
  have h' := h
  obtain ⟨h1, h2⟩ := h
  rcases h2 with ⟨hv, h0⟩ | ⟨g, cap, cur, hv, hg, hh, hn, hc, r⟩
  · rw [h0]; exact ⟨none, 0, hv, Nat.le_refl _, Nat.zero_le _, fun h => by omega⟩
  · subst hv
    exact ⟨_, cap, rfl, hn, hc, fun _ => ⟨g, rfl, hg, (OwnPl.lt h' rfl).2⟩⟩
theorem OwnPl.len {w : World} {B n cap : Nat} {a : Option Addr} {l : List M.Pc} (h : OwnPl w B (.slice a n cap) l) : n = l.length := by
  obtain ⟨a', c, hv, _⟩ := h.form
  injection hv
theorem ownPl_nil (w : World) (B : Nat) : OwnPl w B (.slice none 0 0) [] := World.ownsRow_nil w B _ 4
theorem OwnPl.pls {w : World} {B n cap : Nat} {a : Option Addr} {l : List M.Pc} (h : OwnPl w B (.slice a n cap) l) : Pls w a n l := by
  have e := h.len
  obtain ⟨a', c', hv, hc, hm, hg⟩ := h.form
  injection hv with e1 e2 e3
  subst e1 e3
  refine ⟨e.symm, by omega, ?_⟩
  by_cases h0 : n = 0
  · exact .inl h0
  · obtain ⟨g, rfl, hB, hlt⟩ := hg (by omega)
    refine .inr ⟨g, 0, rfl, hlt, fun i hi => ?_⟩
    have hcl := World.ownsRow.cells h (g := g) rfl
    obtain ⟨r0, r1, r2, r3⟩ := pcells_at l (i := i) (by omega)
    have ad : ∀ j, (⟨g, 0, none⟩ : Addr).add j = ⟨g, 0 + j, none⟩ := fun j => by unfold Addr.add; split <;> simp_all
    have c0 := hcl _ _ r0
    have c1 := hcl _ _ r1
    have c2 := hcl _ _ r2
    have c3 := hcl _ _ r3
    rw [ad] at c0 c1 c2 c3
    exact ⟨c0, c1, c2, c3⟩
theorem OwnPl.frozenAt {w : World} {B g n cap : Nat} {l : List M.Pc} (h : OwnPl w B (.slice (some ⟨g, 0, none⟩) n cap) l) (j : Nat) : w.frozen? ⟨g, j, none⟩ = false := by
  have e := h.len
  subst e
  exact World.ownsRow.frozenAt h j
theorem OwnPl.setF {w : World} {B g n cap : Nat} {l : List M.Pc} (h : OwnPl w B (.slice (some ⟨g, 0, none⟩) n cap) l) {i j : Nat} (x : Int) (hi : i < n) (hj : j < 4) : OwnPl (w.setCell ⟨g, i * 4 + j, none⟩ (.int .i64 x)) B (.slice (some ⟨g, 0, none⟩) n cap) (M.stF l i j x) := by
  have e := h.len
  subst e
  have := (World.ownsRow.stored h (i * 4 + j) (.int .i64 x)).1
  rw [pcells_set x hi hj] at this
  show World.ownsRow _ _ _ _ _ (M.stF l i j x).length _
  rw [M.stF_len]
  exact this
theorem replicate_get (n i : Nat) : (List.replicate n M.pz).getD i M.pz = M.pz := by
  rw [List.getD_eq_getElem?_getD, List.getElem?_replicate]
  split <;> rfl
/-- A new list of zero places. -/
theorem ownPl_made (w : World) (B n : Nat) (hB : B ≤ w.heap.size) (hn : n ≤ maxLen) : OwnPl (w.alloc (.cells (madeCells #[.int .i64 0, .int .i64 0, .int .i64 0, .int .i64 0] (n * 4)) 39)) B (.slice (some ⟨w.heap.size, 0, none⟩) n n) (List.replicate n M.pz) := by
  have hs : (madeCells #[Value.int .i64 0, .int .i64 0, .int .i64 0, .int .i64 0] (n * 4)).size = n * 4 := size_madeCells _ _
  refine ⟨by rw [pcells_len], .inr ⟨w.heap.size, n, _, by simp, hB, heap_alloc_new w _, by simp, hn, hs, ?_⟩⟩
  refine pcells_ext (by simp [hs]) fun q hq => ?_
  simp only [List.length_replicate] at hq
  rw [List.getElem?_take, if_pos (by simpa using hq), Array.getElem?_toList, replicate_get]
  have h4 : q % 4 = 0 ∨ q % 4 = 1 ∨ q % 4 = 2 ∨ q % 4 = 3 := by omega
  have hz : M.pf M.pz (q % 4) = 0 := by rcases h4 with e | e | e | e <;> rw [e] <;> rfl
  rw [hz]
  unfold madeCells
  rw [Array.getElem?_map, Array.getElem?_range, if_pos hq]
  have hs4 : (#[Value.int .i64 0, .int .i64 0, .int .i64 0, .int .i64 0] : Array Value).size = 4 := rfl
  rw [hs4]
  rcases h4 with e | e | e | e <;> rw [Option.map_some] <;> simp [e]
end V
end Go.Proofs.Ytphobmddkphofaa

namespace Go.Proofs.Ytphobmddkphofaa.V
open Go.RowKit

/-- A slice value (address a, length n) whose elements are slices that read as the rows R. -/
def Mat (w : World) (a : Option Addr) (n : Nat) (R : List (List Int)) : Prop :=
  R.length = n ∧ n ≤ maxLen ∧ (n = 0 ∨ ∃ b off, a = some ⟨b, off, none⟩ ∧ b < w.heap.size ∧ ∀ i, i < n → ∃ ra rc, w.cell? ⟨b, off + i, none⟩ = some (.slice ra (R.getD i []).length rc) ∧ Ints .i64 w ra (R.getD i []).length (R.getD i []))

theorem Mat.below {w w' : World} {a : Option Addr} {n : Nat} {R : List (List Int)} (h : Mat w a n R) (hb : Below w.heap.size w w') : Mat w' a n R := by
  obtain ⟨h1, h2, h3⟩ := h
  refine ⟨h1, h2, ?_⟩
  rcases h3 with h3 | ⟨b, off, rfl, hlt, hc⟩
  · exact .inl h3
  · refine .inr ⟨b, off, rfl, by have := hb.size; omega, fun i hi => ?_⟩
    obtain ⟨ra, rc, hr, hI⟩ := hc i hi
    exact ⟨ra, rc, by rw [hb.cell (p := ⟨b, off + i, none⟩) hlt]; exact hr, hI.below hb⟩

/-- One row of a matrix that is read. -/
theorem Mat.at {w : World} {a : Option Addr} {n : Nat} {R : List (List Int)} (h : Mat w a n R) (i : Nat) (hi : i < n) :
    ∃ b off ra rc L l, a = some ⟨b, off, none⟩ ∧ b < w.heap.size ∧ l = R.getD i [] ∧ w.cell? ⟨b, off + i, none⟩ = some (.slice ra L rc) ∧ Ints .i64 w ra L l := by
  obtain ⟨h1, h2, h3⟩ := h
  rcases h3 with h3 | ⟨b, off, rfl, hlt, hc⟩
  · omega
  · obtain ⟨ra, rc, hr, hI⟩ := hc i hi
    exact ⟨b, off, ra, rc, _, _, rfl, hlt, rfl, hr, hI⟩

theorem Ints.at {k : IntKind} {w : World} {a : Option Addr} {n : Nat} {l : List Int} (h : Ints k w a n l) (i : Nat) (hi : i < n) :
    ∃ b off x, a = some ⟨b, off, none⟩ ∧ b < w.heap.size ∧ x = l.getD i 0 ∧ w.cell? ⟨b, off + i, none⟩ = some (.int k x) := by
  obtain ⟨h1, h2, h3⟩ := h
  rcases h3 with h3 | ⟨b, off, rfl, hlt, hc⟩
  · omega
  · exact ⟨b, off, _, rfl, hlt, rfl, hc i hi⟩

/-- One entry of a matrix that is read. -/
theorem Mat.ent {w : World} {a : Option Addr} {n : Nat} {R : List (List Int)} (h : Mat w a n R) (i j : Nat) (hi : i < n) (hj : j < (R.getD i []).length) :
    ∃ b off rb ro L rc x, a = some ⟨b, off, none⟩ ∧ L = (R.getD i []).length ∧ x = (R.getD i []).getD j 0 ∧ w.cell? ⟨b, off + i, none⟩ = some (.slice (some ⟨rb, ro, none⟩) L rc) ∧ w.cell? ⟨rb, ro + j, none⟩ = some (.int .i64 x) := by
  obtain ⟨b, off, ra, rc, L, l, rfl, _, rfl, hc, hI⟩ := h.at i hi
  have hL := hI.1
  obtain ⟨rb, ro, x, rfl, _, hx, hc2⟩ := hI.at j (by omega)
  exact ⟨b, off, rb, ro, L, rc, x, rfl, hL.symm, hx, hc, hc2⟩
/-- A rectangle: n rows of length L. -/
def Rect (R : List (List Int)) (n L : Nat) : Prop := R.length = n ∧ ∀ i, i < n → (R.getD i []).length = L
theorem rect_mk (m n : Nat) (f : Nat → Nat → Int) : Rect (M.mk m n f) m n := ⟨by simp, fun i hi => M.mk_rowlen m n f i hi⟩
theorem rect_mat {R : List (List Int)} (h : M.isMat R = true) : Rect R R.length (M.wid R) := ⟨rfl, fun _ hi => M.isMat_len h hi⟩
theorem Rect.wid {R : List (List Int)} {n L : Nat} (h : Rect R n L) (hn : 0 < n) : M.wid R = L := h.2 0 hn
/-- One row of a rectangle. -/
theorem Mat.rect_at {w : World} {a : Option Addr} {n L : Nat} {R : List (List Int)} (h : Mat w a n R) (hr : Rect R n L) (i : Nat) (hi : i < n) :
    ∃ b off ra rc, a = some ⟨b, off, none⟩ ∧ b < w.heap.size ∧ w.cell? ⟨b, off + i, none⟩ = some (.slice ra L rc) ∧ Ints .i64 w ra L (R.getD i []) := by
  obtain ⟨b, off, ra, rc, L', l, rfl, hb, rfl, hc, hI⟩ := h.at i hi
  have e : L' = L := by rw [← hI.1]; exact hr.2 i hi
  subst e
  exact ⟨b, off, ra, rc, rfl, hb, hc, hI⟩
theorem Mat.rect_first {w : World} {a : Option Addr} {n L : Nat} {R : List (List Int)} (h : Mat w a n R) (hr : Rect R n L) (hn : 0 < n) :
    ∃ b off ra rc, a = some ⟨b, off, none⟩ ∧ b < w.heap.size ∧ w.cell? ⟨b, off, none⟩ = some (.slice ra L rc) := by
  obtain ⟨b, off, ra, rc, rfl, hb, hc, _⟩ := h.rect_at hr 0 hn
  exact ⟨b, off, ra, rc, rfl, hb, by simpa using hc⟩
/-- One entry of a rectangle. -/
theorem Mat.rect_ent {w : World} {a : Option Addr} {n L : Nat} {R : List (List Int)} (h : Mat w a n R) (hr : Rect R n L) (i j : Nat) (hi : i < n) (hj : j < L) :
    ∃ b off rb ro rc x, a = some ⟨b, off, none⟩ ∧ x = M.ent R i j ∧ w.cell? ⟨b, off + i, none⟩ = some (.slice (some ⟨rb, ro, none⟩) L rc) ∧ w.cell? ⟨rb, ro + j, none⟩ = some (.int .i64 x) := by
  obtain ⟨b, off, rb, ro, L', rc, x, rfl, hL, hx, h1, h2⟩ := h.ent i j hi (by rw [hr.2 i hi]; exact hj)
  rw [hr.2 i hi] at hL
  subst hL
  exact ⟨b, off, rb, ro, rc, x, rfl, hx, h1, h2⟩

/-- The first row's length. -/
theorem Mat.first {w : World} {a : Option Addr} {n : Nat} {R : List (List Int)} (h : Mat w a n R) (hi : 0 < n) :
    ∃ b off ra L rc, a = some ⟨b, off, none⟩ ∧ L = M.wid R ∧ w.cell? ⟨b, off, none⟩ = some (.slice ra L rc) := by
  obtain ⟨b, off, ra, rc, L, l, rfl, _, hl, hc, hI⟩ := h.at 0 hi
  exact ⟨b, off, ra, L, rc, rfl, by rw [← hI.1, hl]; rfl, by simpa using hc⟩

/-- A slice of slices that the call owns, in blocks from B on, each in a block of its own, holding the rows R; V are the values of its rows. -/
def OwnV (w : World) (B : Nat) (v : Value) (R : List (List Int)) (V : List Value) : Prop :=
  V.length = R.length ∧ w.ownsRow B 29 1 v R.length V ∧ (∀ i, i < R.length → Own w B (V.getD i (.slice none 0 0)) (R.getD i [])) ∧
  (∀ i, i < R.length → ∀ k, (V.getD i (.slice none 0 0)).ownBlock = some k → v.ownBlock ≠ some k) ∧
  ∀ i j, i < R.length → j < R.length → i ≠ j → ∀ k, (V.getD i (.slice none 0 0)).ownBlock = some k → (V.getD j (.slice none 0 0)).ownBlock ≠ some k

def OwnM (w : World) (B : Nat) (v : Value) (R : List (List Int)) : Prop := ∃ V, OwnV w B v R V

theorem OwnM.keep {w w' : World} {B : Nat} {v : Value} {R : List (List Int)} (h : OwnM w B v R) (hk : ∀ k, B ≤ k → k < w.heap.size → w'.heap[k]? = w.heap[k]?) : OwnM w' B v R := by
  obtain ⟨V, h1, h2, h3, h4, h5⟩ := h
  exact ⟨V, h1, ownsRow_keep h2 (fun k hv => hk k (own_lt h2 hv).1 (own_lt h2 hv).2), fun i hi => (h3 i hi).keep hk, h4, h5⟩
theorem OwnM.below {w w' : World} {B : Nat} {v : Value} {R : List (List Int)} (h : OwnM w B v R) (hb : Below w.heap.size w w') : OwnM w' B v R :=
  h.keep (fun k _ h2 => hb.block k h2)
theorem OwnM.mono {w : World} {B B' : Nat} {v : Value} {R : List (List Int)} (h : OwnM w B v R) (hb : B' ≤ B) : OwnM w B' v R := by
  obtain ⟨V, h1, h2, h3, h4, h5⟩ := h
  exact ⟨V, h1, World.ownsRow.mono h2 hb, fun i hi => (h3 i hi).mono hb, h4, h5⟩

theorem OwnM.form {w : World} {B : Nat} {v : Value} {R : List (List Int)} (h : OwnM w B v R) : ∃ a cap, v = .slice a R.length cap ∧ R.length ≤ maxLen := by
  obtain ⟨V, h1, h2, _⟩ := h
  obtain ⟨a, cap, hv, h3, h4, _⟩ := own_form h2
  exact ⟨a, cap, hv, by omega⟩

theorem OwnM.mat {w : World} {B : Nat} {a : Option Addr} {n cap : Nat} {R : List (List Int)} (h : OwnM w B (.slice a n cap) R) : Mat w a n R := by
  obtain ⟨V, h1, h2, h3, h4, h5⟩ := h
  obtain ⟨a', c', hv, hc, hm, hg⟩ := own_form h2
  injection hv with e1 e2 e3
  subst e1 e2 e3
  refine ⟨rfl, by omega, ?_⟩
  by_cases h0 : R.length = 0
  · exact .inl h0
  · obtain ⟨g, rfl, hB, hlt⟩ := hg (by omega)
    refine .inr ⟨g, 0, rfl, hlt, fun i hi => ?_⟩
    obtain ⟨ra, rc, hv, hI⟩ := (h3 i hi).ints
    refine ⟨ra, rc, ?_, hI⟩
    have := World.ownsRow.cellAt h2 i (by omega)
    rw [Nat.zero_add, this, ← hv]
    simp [h1, hi]

theorem OwnM.lt {w : World} {B n cap g o : Nat} {R : List (List Int)} (h : OwnM w B (.slice (some ⟨g, o, none⟩) n cap) R) (_ : True = True) : g < w.heap.size := by
  obtain ⟨V, h1, h2, _⟩ := h
  exact (own_lt h2 (k := g) rfl).2
theorem OwnM.ge {w : World} {B n cap g o : Nat} {R : List (List Int)} (h : OwnM w B (.slice (some ⟨g, o, none⟩) n cap) R) : B ≤ g := by
  obtain ⟨V, h1, h2, _⟩ := h
  exact (own_lt h2 (k := g) rfl).1
theorem OwnM.len {w : World} {B n cap : Nat} {a : Option Addr} {R : List (List Int)} (h : OwnM w B (.slice a n cap) R) : n = R.length := by
  obtain ⟨a', c', hv, _⟩ := h.form
  injection hv
theorem OwnM.outer {w : World} {B n cap g : Nat} {R : List (List Int)} (h : OwnM w B (.slice (some ⟨g, 0, none⟩) n cap) R) (i : Nat) (hi : i < n) : ∃ v, w.cell? ⟨g, i, none⟩ = some v := by
  have e := h.len
  subst e
  obtain ⟨V, h1, h2, _⟩ := h
  rw [World.ownsRow.cellAt h2 i (by omega)]
  exact ⟨V[i]'(by omega), by simp [h1, hi]⟩
theorem OwnM.outerFz {w : World} {B n cap g : Nat} {R : List (List Int)} (h : OwnM w B (.slice (some ⟨g, 0, none⟩) n cap) R) (i : Nat) : w.frozen? ⟨g, i, none⟩ = false := by
  have e := h.len
  subst e
  obtain ⟨V, h1, h2, _⟩ := h
  exact World.ownsRow.frozenAt h2 i

theorem ownM_nil (w : World) (B : Nat) : OwnM w B (.slice none 0 0) [] :=
  ⟨[], rfl, World.ownsRow_nil _ _ _ _, (fun i hi => absurd hi (Nat.not_lt_zero i)), (fun i hi => absurd hi (Nat.not_lt_zero i)), (fun i j hi => absurd hi (Nat.not_lt_zero i))⟩
theorem ownM_lit0 (w : World) (B : Nat) (hB : B ≤ w.heap.size) : OwnM (w.alloc (.cells #[] 29)) B (.slice (some ⟨w.heap.size, 0, none⟩) 0 0) [] :=
  ⟨[], rfl, World.ownsRow_lit w #[] 0 hB (by decide) rfl, (fun i hi => absurd hi (Nat.not_lt_zero i)), (fun i hi => absurd hi (Nat.not_lt_zero i)), (fun i j hi => absurd hi (Nat.not_lt_zero i))⟩

theorem own_nil (w : World) (B : Nat) : Own w B (.slice none 0 0) [] := World.ownsRow_nil _ _ _ _

theorem ownM_made (w : World) (B n : Nat) (hB : B ≤ w.heap.size) (hn : n ≤ maxLen) : OwnM (w.alloc (.cells (madeCells #[.slice none 0 0] n) 29)) B (.slice (some ⟨w.heap.size, 0, none⟩) n n) (List.replicate n []) := by
  have h := World.rowIs_made w (.slice none 0 0) n 29
  obtain ⟨c, hb, hs, hc⟩ := h
  refine ⟨List.replicate n (.slice none 0 0), by simp, ⟨by simp, .inr ⟨w.heap.size, n, c, by simp, hB, hb, by simp, hn, by simp [hs], ?_⟩⟩, ?_, ?_, ?_⟩
  · apply List.ext_getElem
    · simp [hs]
    · intro i h1 h2
      simp only [List.length_replicate] at h2
      have := hc i h2
      simp [List.getElem_take]
      rw [Array.getElem?_eq_getElem (by omega)] at this
      exact Option.some.inj this
  · intro i hi
    simp only [List.length_replicate] at hi
    have e1 : (List.replicate n (Value.slice none 0 0)).getD i (.slice none 0 0) = .slice none 0 0 := by simp [hi]
    have e2 : (List.replicate n ([] : List Int)).getD i [] = [] := by simp [hi]
    rw [e1, e2]
    exact own_nil _ _
  · intro i hi k hk
    simp only [List.length_replicate] at hi
    have e1 : (List.replicate n (Value.slice none 0 0)).getD i (.slice none 0 0) = .slice none 0 0 := by simp [hi]
    rw [e1] at hk
    cases hk
  · intro i j hi hj _ k hk
    simp only [List.length_replicate] at hi
    have e1 : (List.replicate n (Value.slice none 0 0)).getD i (.slice none 0 0) = .slice none 0 0 := by simp [hi]
    rw [e1] at hk
    cases hk

theorem getD_set {α : Type} (l : List α) (i j : Nat) (x d : α) (h : i < l.length) : (l.set i x).getD j d = if j = i then x else l.getD j d := by
  simp only [List.getD_eq_getElem?_getD, List.getElem?_set]
  by_cases e : i = j
  · subst e; simp [h]
  · rw [if_neg e, if_neg (by omega)]

/-- A row of its own is stored into an owned matrix: v keeps its block, and the row lies in blocks that are newer. -/
theorem OwnM.setRow {w w1 : World} {B g n cap : Nat} {R : List (List Int)} {rv : Value} {l : List Int} (h : OwnM w B (.slice (some ⟨g, 0, none⟩) n cap) R) (hb : Below w.heap.size w w1) (hB : B ≤ w.heap.size) (ho : Own w1 w.heap.size rv l) (i : Nat) (hi : i < n) :
    OwnM (w1.setCell ⟨g, i, none⟩ rv) B (.slice (some ⟨g, 0, none⟩) n cap) (R.set i l) := by
  have hlt := h
  obtain ⟨V, h1, h2, h3, h4, h5⟩ := h
  obtain ⟨a', c', hv, hc, hm, hg⟩ := own_form h2
  injection hv with e1 e2 e3
  subst e2 e3
  have hgl := own_lt h2 (k := g) rfl
  have hk : ∀ k, k < w.heap.size → k ≠ g → (w1.setCell ⟨g, i, none⟩ rv).heap[k]? = w.heap[k]? := fun k hk hne => by
    rw [Below.heap_setCell _ _ _ _ hne]; exact hb.block k hk
  have hw1 : w1.ownsRow B 29 1 (.slice (some ⟨g, 0, none⟩) R.length cap) R.length V := ownsRow_keep h2 (fun k hv => hb.block k (own_lt h2 hv).2)
  refine ⟨V.set i rv, by simpa using h1, ?_, ?_, ?_, ?_⟩
  · have := (World.ownsRow.stored hw1 i rv).1
    simpa using this
  · intro j hj
    simp only [List.length_set] at hj
    rw [getD_set _ _ _ _ _ (by omega), getD_set _ _ _ _ _ (by omega)]
    by_cases e : j = i
    · rw [if_pos e, if_pos e]
      exact (ownsRow_keep ho (fun k hv => Below.heap_setCell _ _ _ _ (by have := (own_lt ho hv).1; show k ≠ g; omega)) : Own _ _ _ _).mono hB
    · rw [if_neg e, if_neg e]
      exact ownsRow_keep (h3 j hj) (fun k hv => hk k (own_lt (h3 j hj) hv).2 (fun e => h4 j hj k hv (by rw [e]; rfl)))
  · intro j hj k hk'
    simp only [List.length_set] at hj
    rw [getD_set _ _ _ _ _ (by omega)] at hk'
    by_cases e : j = i
    · rw [if_pos e] at hk'
      have := (own_lt ho hk').1
      intro e2
      simp only [Value.ownBlock, Option.some.injEq] at e2
      omega
    · rw [if_neg e] at hk'
      exact h4 j hj k hk'
  · intro j t hj ht hne k hk'
    simp only [List.length_set] at hj ht
    rw [getD_set _ _ _ _ _ (by omega)] at hk'
    rw [getD_set _ _ _ _ _ (by omega)]
    by_cases e : j = i
    · rw [if_pos e] at hk'
      have e' : ¬ t = i := by omega
      rw [if_neg e']
      intro e2
      have := (own_lt ho hk').1
      have := (own_lt (h3 t ht) e2).2
      omega
    · rw [if_neg e] at hk'
      by_cases e' : t = i
      · rw [if_pos e']
        intro e2
        have := (own_lt ho e2).1
        have := (own_lt (h3 j hj) hk').2
        omega
      · rw [if_neg e']
        exact h5 j t hj ht hne k hk'

/-- What is needed to read and to write the entry at i, j of an owned matrix. -/
theorem OwnM.at {w : World} {B n cap : Nat} {a : Option Addr} {R : List (List Int)} (h : OwnM w B (.slice a n cap) R) (i j : Nat) (hi : i < n) (hj : j < (R.getD i []).length) :
    ∃ g q L c x, a = some ⟨g, 0, none⟩ ∧ B ≤ g ∧ B ≤ q ∧ L = (R.getD i []).length ∧ x = (R.getD i []).getD j 0 ∧ w.cell? ⟨g, i, none⟩ = some (.slice (some ⟨q, 0, none⟩) L c) ∧ w.cell? ⟨q, j, none⟩ = some (.int .i64 x) ∧ w.frozen? ⟨q, j, none⟩ = false ∧
      ∀ y, OwnM (w.setCell ⟨q, j, none⟩ (.int .i64 y)) B (.slice a n cap) (R.set i ((R.getD i []).set j y)) := by
  obtain ⟨V, h1, h2, h3, h4, h5⟩ := h
  obtain ⟨a', c', hv, hc, hm, hg⟩ := own_form h2
  injection hv with e1 e2 e3
  subst e1 e2 e3
  obtain ⟨g, rfl, hBg, hlt⟩ := hg (by omega)
  have hrow := h3 i hi
  obtain ⟨ra, rc, hrv, hrc, hrm, hrg⟩ := own_form hrow
  obtain ⟨q, rfl, hBq, hqlt⟩ := hrg (by omega)
  have hcell := World.ownsRow.cellAt h2 i (by omega)
  have hVi : V[i]? = some (V.getD i (.slice none 0 0)) := by simp [h1, hi]
  have hrow' := hrow
  rw [hrv] at hrow'
  have hcell2 := World.ownsRow.cellAt hrow' j (by omega)
  refine ⟨g, q, _, rc, _, rfl, hBg, hBq, rfl, rfl, ?_, ?_, World.ownsRow.frozenAt hrow' j, fun y => ?_⟩
  · rw [hcell, hVi, hrv]
  · rw [hcell2]
    generalize R.getD i [] = l at hj
    simp [hj]
  · have hqg : q ≠ g := fun e => h4 i hi q (by rw [hrv]; rfl) (by rw [e]; rfl)
    refine ⟨V, by simpa using h1, ?_, ?_, ?_, ?_⟩
    · rw [List.length_set]
      exact ownsRow_keep h2 (fun k hv => Below.heap_setCell _ _ _ _ (by
        simp only [Value.ownBlock, Option.some.injEq] at hv; show k ≠ q; omega))
    · intro t ht
      simp only [List.length_set] at ht
      rw [getD_set _ _ _ _ _ (by omega)]
      by_cases e : t = i
      · subst e
        rw [if_pos rfl, hrv]
        exact Own.set hrow' j y
      · rw [if_neg e]
        refine ownsRow_keep (h3 t ht) (fun k hv => Below.heap_setCell _ _ _ _ ?_)
        show k ≠ q
        intro e2
        subst e2
        exact h5 t i ht hi e k hv (by rw [hrv]; rfl)
    · intro t ht
      simp only [List.length_set] at ht
      exact h4 t ht
    · intro t s ht hs
      simp only [List.length_set] at ht hs
      exact h5 t s ht hs

/-- A row of its own is appended to an owned matrix. -/
theorem OwnV.snoc {w w1 w2 : World} {B q : Nat} {v v' rv : Value} {R : List (List Int)} {V : List Value} {l : List Int} (h : OwnV w B v R V) (hb : Below w.heap.size w w1) (hB : B ≤ w.heap.size) (ho : Own w1 w.heap.size rv l)
    (hw2 : w2.ownsRow B 29 1 v' (R.length + 1) (V ++ [rv])) (hg : ∀ k, k < w1.heap.size → v.ownBlock ≠ some k → w2.heap[k]? = w1.heap[k]?)
    (hvb : v'.ownBlock = v.ownBlock ∨ v'.ownBlock = some q) (hq : w1.heap.size ≤ q) : OwnM w2 B v' (R ++ [l]) := by
  obtain ⟨h1, h2, h3, h4, h5⟩ := h
  have eV : ∀ j, j < R.length → (V ++ [rv]).getD j (.slice none 0 0) = V.getD j (.slice none 0 0) := fun j hj => by
    simp [List.getD_eq_getElem?_getD, List.getElem?_append_left, h1, hj]
  have eV1 : (V ++ [rv]).getD R.length (.slice none 0 0) = rv := by
    simp [List.getD_eq_getElem?_getD, ← h1]
  have eR : ∀ j, j < R.length → (R ++ [l]).getD j [] = R.getD j [] := fun j hj => by
    simp [List.getD_eq_getElem?_getD, List.getElem?_append_left, hj]
  have eR1 : (R ++ [l]).getD R.length [] = l := by
    simp [List.getD_eq_getElem?_getD]
  have hold : ∀ j, j < R.length → ∀ k, (V.getD j (.slice none 0 0)).ownBlock = some k → k < w.heap.size := fun j hj k hk => (own_lt (h3 j hj) hk).2
  have hvn : ∀ k, k < w1.heap.size → v.ownBlock ≠ some k → v'.ownBlock ≠ some k := fun k hk hne => by
    rcases hvb with e | e
    · rw [e]; exact hne
    · rw [e]; intro e2; simp only [Option.some.injEq] at e2; omega
  have hvold : ∀ k, v.ownBlock = some k → k < w.heap.size := fun k hk => (own_lt h2 hk).2
  have hs := hb.size
  refine ⟨V ++ [rv], by simp [h1], by simpa using hw2, ?_, ?_, ?_⟩
  · intro j hj
    simp only [List.length_append, List.length_singleton] at hj
    by_cases e : j < R.length
    · rw [eV j e, eR j e]
      exact ownsRow_keep (h3 j e) (fun k hv => by
        have := hold j e k hv
        rw [hg k (by omega) (h4 j e k hv)]; exact hb.block k this)
    · obtain rfl : j = R.length := by omega
      rw [eV1, eR1]
      refine (ownsRow_keep ho (fun k hv => hg k (own_lt ho hv).2 (fun e2 => ?_)) : Own _ _ _ _).mono hB
      have := (own_lt ho hv).1
      have := hvold k e2
      omega
  · intro j hj k hk
    simp only [List.length_append, List.length_singleton] at hj
    by_cases e : j < R.length
    · rw [eV j e] at hk
      have := hold j e k hk
      exact hvn k (by omega) (h4 j e k hk)
    · obtain rfl : j = R.length := by omega
      rw [eV1] at hk
      have := own_lt ho hk
      exact hvn k this.2 (fun e2 => by have := hvold k e2; omega)
  · intro i j hi hj hne k hk
    simp only [List.length_append, List.length_singleton] at hi hj
    by_cases e : i < R.length
    · rw [eV i e] at hk
      by_cases e2 : j < R.length
      · rw [eV j e2]; exact h5 i j e e2 hne k hk
      · obtain rfl : j = R.length := by omega
        rw [eV1]
        intro e3
        have := hold i e k hk
        have := (own_lt ho e3).1
        omega
    · obtain rfl : i = R.length := by omega
      rw [eV1] at hk
      have e2 : j < R.length := by omega
      rw [eV j e2]
      intro e3
      have := hold j e2 k e3
      have := (own_lt ho hk).1
      omega
end Go.Proofs.Ytphobmddkphofaa.V

namespace Go.Proofs.Ytphobmddkphofaa.V
open Go.RowKit

set_option maxRecDepth 100000 in
set_option maxHeartbeats 400000 in
theorem eqInts (a : Option Addr) (n cap : Nat) (l : List Int) (a' : Option Addr) (n' cap' : Nat) (l' : List Int) (w : World) (h : Ints .i64 w a n l) (h' : Ints .i64 w a' n' l') (heq : l = l') :
    Calls Try.prog 65 #[.slice a n cap, .slice a' n' cap'] w fun e w' => e = .returned (.bool true) ∧ ∃ q, w' = w.drewN q := by
  subst heq
  obtain ⟨hl, hm, hr⟩ := h
  obtain ⟨hl', hm', hr'⟩ := h'
  obtain rfl : n = n' := by omega
  unfold maxLen at hm
  clear hm'
  have HL := Lib.hid hl
  clear hl hl'
  go_enter Try.func65, Try.ntmps65
  go_wp2
  go_loopw [5] (fun i wr => ∃ k : Nat, k ≤ n ∧ i = .int .i64 k ∧ ∃ q, wr = w.drewN q) (fun i _ => n - (intOf i).toNat)
  case atStart => exact ⟨0, Nat.zero_le _, rfl, 0, rfl⟩
  case round =>
    obtain ⟨k, hk, rfl, q, rfl⟩ := hrel
    by_cases hlt : k < n
    · rcases hr with h0 | ⟨b, off, rfl, hbl, hc⟩
      · omega
      rcases hr' with h0 | ⟨b', off', rfl, hbl', hc'⟩
      · omega
      have hck := hc k hlt
      have hck' := hc' k hlt
      obtain ⟨x, hx⟩ : ∃ x, x = l.getD k 0 := ⟨_, rfl⟩
      rw [← hx] at hck hck'
      clear hc hx hc'
      have hki : (k : Int) < (n : Int) := by omega
      go_wp2
      go_quiet (fail)
      go_wp2
      go_roundw
      case rel => exact ⟨k + 1, by omega, by go_num, _, rfl⟩
      case measure => simp [intOf]; omega
    · have hkn : k = n := by omega
      subst hkn
      clear hr hr'
      go_wp2
      go_ret
      exact ⟨rfl, q, rfl⟩

set_option maxRecDepth 100000 in
set_option maxHeartbeats 400000 in
theorem copyInts (a : Option Addr) (n cap : Nat) (l : List Int) (w : World) (h : Ints .i64 w a n l) (hs : n ≤ 1048576) :
    Calls Try.prog 64 #[.slice a n cap] w fun e w' => e = .returned (.slice (some ⟨w.heap.size, 0, none⟩) n n) ∧ Own w' w.heap.size (.slice (some ⟨w.heap.size, 0, none⟩) n n) l ∧ Below w.heap.size w w' := by
  obtain ⟨hl, hm, hr⟩ := h
  have hm2 := hm
  unfold maxLen at hm
  have HL := Lib.hid hl
  clear hl
  have hmk := run_make_row' (P := Try.prog) 29 2 (.int .i64 0) 8 Try.underlying29 info64 rfl .i64 .i64 n (by omega) (by omega)
  go_enter Try.func64, Try.ntmps64
  go_wp2
  clear hmk
  go_loopw [4] (fun i wr => ∃ k : Nat, k ≤ n ∧ i = .int .i64 k ∧ Own wr w.heap.size (.slice (some ⟨w.heap.size, 0, none⟩) n n) ((List.range n).map fun j => if j < k then l.getD j 0 else 0) ∧ Below w.heap.size w wr) (fun i _ => n - (intOf i).toNat)
  case atStart => exact ⟨0, Nat.zero_le _, rfl, by simpa using own_made w _ n (Nat.le_refl _) hm2, b_alloc _ _⟩
  case round =>
    obtain ⟨k, hk, rfl, hrow, hb⟩ := hrel
    by_cases hlt : k < n
    · rcases hr with h0 | ⟨b, off, rfl, hbl, hc⟩
      · omega
      have hck := hc k hlt
      obtain ⟨x, hx⟩ : ∃ x, x = l.getD k 0 := ⟨_, rfl⟩
      rw [← hx] at hck
      have hck' : wr.cell? ⟨b, off + k, none⟩ = some (.int .i64 x) := by rw [hb.cell (p := ⟨b, off + k, none⟩) hbl]; exact hck
      have hst : ∃ v, wr.cell? ⟨w.heap.size, k, none⟩ = some v := ⟨_, hrow.cellAt k hlt⟩
      obtain ⟨v, hst⟩ := hst
      have hfz := hrow.frozenAt k
      have HR := Lib.hid hrow
      have HB := Lib.hid hb
      have HX := Lib.hid hx
      clear hc hx hck hrow hb
      go_wp2
      go_roundw
      case rel =>
        refine ⟨k + 1, by omega, by go_num, ?_, HB.out.setCell (Nat.le_refl _) _⟩
        have := Own.set HR.out k x
        rw [M.map_set] at this
        refine (congrArg (Own _ _ _) (List.map_congr_left fun j hj => ?_)).mp this
        by_cases e : j = k
        · subst e; rw [if_pos rfl, if_pos (by omega), HX.out]
        · rw [if_neg e]
          by_cases e2 : j < k
          · rw [if_pos e2, if_pos (by omega)]
          · rw [if_neg e2, if_neg (by omega)]
      case measure => simp [intOf]; omega
    · have hkn : k = n := by omega
      subst hkn
      have HR := Lib.hid hrow
      have HB := Lib.hid hb
      clear hr hrow hb
      go_wp2
      go_ret
      refine ⟨rfl, ?_, HB.out⟩
      refine (congrArg (Own _ _ _) ?_).mp HR.out
      have hl := HL.out
      apply List.ext_getElem
      · simp [hl]
      · intro i h1 h2
        simp [show i < k by omega, h2]

/-- What is left of a size. -/
def SzPost (n : Nat) (left : Int) (w : World) (e : Ending) (w' : World) : Prop := ∃ x : Int, e = .returned (.int .i64 x) ∧ (x < 0 ∨ (0 ≤ x ∧ x + n = left)) ∧ w = w'

set_option maxRecDepth 100000 in
set_option maxHeartbeats 400000 in
theorem szInts (a : Option Addr) (n cap : Nat) (left : Int) (w : World) (hm : n ≤ maxLen) (h1 : 0 ≤ left) (h2 : left ≤ 1048576) :
    Calls Try.prog 129 #[.slice a n cap, .int .i64 left] w (SzPost n left w) := by
  unfold maxLen at hm
  by_cases hlt : left < n
  · go_enter Try.func129, Try.ntmps129
    go_wp2
    go_ret
    exact ⟨_, rfl, .inl (by omega), rfl⟩
  · go_enter Try.func129, Try.ntmps129
    go_wp2
    go_ret
    exact ⟨_, rfl, .inr ⟨by omega, by omega⟩, rfl⟩

/-- What is left of a size: nothing, or all the sizes fit. -/
def SzMPost (n : Nat) (R : List (List Int)) (left : Int) (w : World) (e : Ending) (w' : World) : Prop := ∃ x : Int, e = .returned (.int .i64 x) ∧ (x < 0 ∨ (0 ≤ x ∧ x ≤ left ∧ (n : Int) ≤ left ∧ (M.pre R R.length : Int) ≤ left)) ∧ w = w'

set_option maxRecDepth 100000 in
set_option maxHeartbeats 400000 in
theorem szIntss (a : Option Addr) (n cap : Nat) (R : List (List Int)) (left : Int) (w : World) (h : Mat w a n R) (h1 : 0 ≤ left) (h2 : left ≤ 1048576) :
    Calls Try.prog 69 #[.slice a n cap, .int .i64 left] w (SzMPost n R left w) := by
  have HM := Lib.hid h
  obtain ⟨hl, hm, -⟩ := h
  unfold maxLen at hm
  have HL := Lib.hid hl
  clear hl
  by_cases hlt : left < n
  · go_enter Try.func69, Try.ntmps69
    go_wp2
    go_ret
    exact ⟨_, rfl, .inl (by omega), rfl⟩
  · go_enter Try.func69, Try.ntmps69
    go_wp2
    go_loop [1, 5] (fun x i => ∃ (k : Nat) (y : Int), k ≤ n ∧ i = .int .i64 k ∧ x = .int .i64 y ∧ 0 ≤ y ∧ (M.pre R k : Int) + n + y ≤ left) (fun _ i => n - (intOf i).toNat)
    case atStart => exact ⟨0, left - n, Nat.zero_le _, rfl, rfl, by omega, by rw [M.pre_zero]; omega⟩
    case round =>
      obtain ⟨k, y, hk, rfl, rfl, hy, hp⟩ := hrel
      by_cases hkn : k < n
      · obtain ⟨b, off, ra, rc, L, l, rfl, hbl, hll, hc, hI⟩ := HM.out.at k hkn
        have hps := M.pre_succ R k (by have := HL.out; omega)
        have hLl : L = l.length := hI.1.symm
        rw [← hll, ← hLl] at hps
        have HP := Lib.hid hps
        have hLm := hI.2.1
        clear hI hll hps hLl
        go_wp2_with fail
        refine (szInts _ _ _ _ _ hLm hy (by omega)).mono ?_
        rintro e w' ⟨z, rfl, hz, rfl⟩
        rcases hz with hz | ⟨hz1, hz2⟩
        · go_wp2
          go_ret
          exact ⟨_, rfl, .inl (by omega), rfl⟩
        · go_wp2
          go_round
          case rel => exact ⟨k + 1, z, by omega, by go_num, rfl, hz1, by rw [HP.out]; omega⟩
          case measure => simp [intOf]; omega
      · obtain rfl : k = n := by omega
        go_wp2
        go_ret
        exact ⟨_, rfl, .inr ⟨hy, by omega, by omega, by rw [HL.out]; omega⟩, rfl⟩

end Go.Proofs.Ytphobmddkphofaa.V

namespace Go.Proofs.Ytphobmddkphofaa.V
open Go.RowKit

/-- Only blocks of S may have changed, and no others were added. -/
structure Chg (S : Nat → Prop) (w w' : World) : Prop where
  os : w'.os = w.os
  tape : w'.tape = w.tape
  output : w'.output = w.output
  size : w'.heap.size = w.heap.size
  other : ∀ k, ¬ S k → w'.heap[k]? = w.heap[k]?

theorem Chg.refl (S : Nat → Prop) (w : World) : Chg S w w := ⟨rfl, rfl, rfl, rfl, fun _ _ => rfl⟩
theorem Chg.trans {S : Nat → Prop} {a b c : World} (h : Chg S a b) (k : Chg S b c) : Chg S a c :=
  ⟨k.os.trans h.os, k.tape.trans h.tape, k.output.trans h.output, k.size.trans h.size, fun i hi => (k.other i hi).trans (h.other i hi)⟩
theorem Chg.mono {S S' : Nat → Prop} {a b : World} (h : Chg S a b) (hs : ∀ k, S k → S' k) : Chg S' a b :=
  ⟨h.os, h.tape, h.output, h.size, fun k hk => h.other k (fun hh => hk (hs k hh))⟩
theorem Chg.below {S : Nat → Prop} {a b : World} {B : Nat} (h : Chg S a b) (hs : ∀ k, S k → B ≤ k) : Below B a b :=
  ⟨h.os, h.tape, h.output, Nat.le_of_eq h.size.symm, fun k hk => h.other k (fun hh => by have := hs k hh; omega)⟩
theorem Chg.set {S : Nat → Prop} {a b : World} (h : Chg S a b) {g i : Nat} (hg : S g) (v : Value) : Chg S a (b.setCell ⟨g, i, none⟩ v) :=
  ⟨h.os, h.tape, h.output, by have := h.size; simpa [World.setCell] using this, fun k hk => (Below.heap_setCell _ _ _ _ (by show k ≠ g; intro e; subst e; exact hk hg)).trans (h.other k hk)⟩
theorem Own.chg {S : Nat → Prop} {w w' : World} {B : Nat} {v : Value} {l : List Int} (h : Own w B v l) (hc : Chg S w w') (hs : ∀ k, v.ownBlock = some k → ¬ S k) : Own w' B v l :=
  ownsRow_keep h fun k hk => hc.other k (hs k hk)

/-- The blocks from lo up to hi are as they were. -/
def Same (lo hi : Nat) (w w' : World) : Prop := ∀ k, lo ≤ k → k < hi → w'.heap[k]? = w.heap[k]?
theorem Same.refl (lo hi : Nat) (w : World) : Same lo hi w w := fun _ _ _ => rfl
theorem Same.below {lo hi b : Nat} {a w w' : World} (h : Same lo hi a w) (hb : Below b w w') (hh : hi ≤ b) : Same lo hi a w' :=
  fun k h1 h2 => (hb.block k (by omega)).trans (h k h1 h2)
theorem Same.chg {S : Nat → Prop} {lo hi : Nat} {a w w' : World} (h : Same lo hi a w) (hc : Chg S w w') (hs : ∀ k, lo ≤ k → k < hi → ¬ S k) : Same lo hi a w' :=
  fun k h1 h2 => (hc.other k (hs k h1 h2)).trans (h k h1 h2)

/-- One row of an owned matrix is rewritten. -/
theorem OwnV.row {w w' : World} {B : Nat} {v : Value} {R : List (List Int)} {V : List Value} {l : List Int} (h : OwnV w B v R V) (i : Nat) (hi : i < R.length) (ho : Own w' B (V.getD i (.slice none 0 0)) l)
    (hc : Chg (fun k => (V.getD i (.slice none 0 0)).ownBlock = some k) w w') : OwnV w' B v (R.set i l) V := by
  obtain ⟨h1, h2, h3, h4, h5⟩ := h
  refine ⟨by simpa using h1, ?_, ?_, ?_, ?_⟩
  · rw [List.length_set]
    exact ownsRow_keep h2 fun k hk => hc.other k (fun e => h4 i hi k e hk)
  · intro j hj
    simp only [List.length_set] at hj
    rw [getD_set _ _ _ _ _ hi]
    by_cases e : j = i
    · subst e; rw [if_pos rfl]; exact ho
    · rw [if_neg e]
      exact (h3 j hj).chg hc (fun k hk e2 => h5 j i hj hi e k hk e2)
  · intro j hj
    simp only [List.length_set] at hj
    exact h4 j hj
  · intro j t hj ht
    simp only [List.length_set] at hj ht
    exact h5 j t hj ht

set_option maxRecDepth 100000 in
set_option maxHeartbeats 400000 in
theorem markInts (a : Option Addr) (n cap B : Nat) (l : List Int) (m : Int) (w : World) (h : Own w B (.slice a n cap) l) (hn : n ≤ 1048576) (h1 : 0 ≤ m) (h2 : m ≤ 40000000) :
    Calls Try.prog 66 #[.slice a n cap, .int .i64 m] w fun e w' => e = .returned (.int .i64 (m + n)) ∧ Own w' B (.slice a n cap) (M.iota m n) ∧ Chg (fun k => (Value.slice a n cap).ownBlock = some k) w w' := by
  have HO := Lib.hid h
  have HL := Lib.hid h.len
  have hgg := own_form h
  obtain ⟨a', c', hv, -, -, hg⟩ := hgg
  injection hv with e1 e2 e3
  subst e1 e3
  rw [← e2] at hg
  clear h e2
  go_enter Try.func66, Try.ntmps66
  go_wp2
  go_loopw [1, 5] (fun x i wr => ∃ k : Nat, k ≤ n ∧ i = .int .i64 k ∧ x = .int .i64 (m + k) ∧ Own wr B (.slice a n cap) ((List.range n).map fun j => if j < k then m + (j : Int) else l.getD j 0) ∧ Chg (fun k => (Value.slice a n cap).ownBlock = some k) w wr) (fun _ i _ => n - (intOf i).toNat)
  case atStart =>
    refine ⟨0, Nat.zero_le _, rfl, by simp, ?_, Chg.refl _ _⟩
    refine (congrArg (Own _ _ _) ?_).mp HO.out
    have hl := HL.out
    apply List.ext_getElem
    · simp [hl]
    · intro i h1 h2
      simp [h1]
  case round =>
    obtain ⟨k, hk, rfl, rfl, hrow, hb⟩ := hrel
    by_cases hlt : k < n
    · obtain ⟨g, rfl, hBg, hgl⟩ := hg (by omega)
      have hst : ∃ v, wr.cell? ⟨g, k, none⟩ = some v := ⟨_, hrow.cellAt k hlt⟩
      obtain ⟨v, hst⟩ := hst
      have hfz := hrow.frozenAt k
      have HR := Lib.hid hrow
      have HB := Lib.hid hb
      clear hrow hb hg
      have hb1 : 0 ≤ m + (k : Int) := by omega
      have hb2 : m + (k : Int) ≤ 50000000 := by omega
      go_wp2
      go_roundw
      case rel =>
        refine ⟨k + 1, by omega, by go_num, vi (by omega), ?_, HB.out.set rfl _⟩
        have := Own.set HR.out k (m + k)
        rw [M.map_set] at this
        refine (congrArg (Own _ _ _) (List.map_congr_left fun j hj => ?_)).mp this
        by_cases e : j = k
        · subst e; rw [if_pos rfl, if_pos (by omega)]
        · rw [if_neg e]
          by_cases e2 : j < k
          · rw [if_pos e2, if_pos (by omega)]
          · rw [if_neg e2, if_neg (by omega)]
      case measure => simp [intOf]; omega
    · have hkn : k = n := by omega
      subst hkn
      have HR := Lib.hid hrow
      have HB := Lib.hid hb
      clear hrow hb hg
      go_wp2
      go_ret
      refine ⟨rfl, (congrArg (Own _ _ _) ?_).mp HR.out, HB.out⟩
      unfold M.iota
      exact List.map_congr_left fun j hj => by rw [if_pos (List.mem_range.1 hj)]

set_option maxRecDepth 100000 in
set_option maxHeartbeats 400000 in
theorem heldInts (a : Option Addr) (n cap : Nat) (m : Int) (w : World) (h : Ints .i64 w a n (M.iota m n)) (hn : n ≤ 1048576) (h1 : 0 ≤ m) (h2 : m ≤ 40000000) :
    Calls Try.prog 71 #[.slice a n cap, .int .i64 m] w fun e w' => e = .returned (.int .i64 (m + n)) ∧ w = w' := by
  have HI := Lib.hid h
  clear h
  go_enter Try.func71, Try.ntmps71
  go_wp2
  go_loop [1, 5] (fun x i => ∃ k : Nat, k ≤ n ∧ i = .int .i64 k ∧ x = .int .i64 (m + k)) (fun _ i => n - (intOf i).toNat)
  case atStart => exact ⟨0, Nat.zero_le _, rfl, by simp⟩
  case round =>
    obtain ⟨k, hk, rfl, rfl⟩ := hrel
    by_cases hlt : k < n
    · obtain ⟨b, off, x, rfl, hbl, hx, hc⟩ := HI.out.at k hlt
      rw [M.iota_getD m n k hlt] at hx
      subst hx
      have hb1 : 0 ≤ m + (k : Int) := by omega
      have hb2 : m + (k : Int) ≤ 50000000 := by omega
      go_wp2
      go_round
      case rel => exact ⟨k + 1, by omega, by go_num, vi (by omega)⟩
      case measure => simp [intOf]; omega
    · have hkn : k = n := by omega
      subst hkn
      go_wp2
      go_ret
      exact ⟨rfl, rfl⟩

set_option maxRecDepth 100000 in
set_option maxHeartbeats 400000 in
theorem markIntss (a : Option Addr) (n cap B : Nat) (R : List (List Int)) (m : Int) (w0 w : World) (h0 : OwnM w0 B (.slice a n cap) R) (hb0 : Same B w0.heap.size w0 w) (hn : n ≤ 1048576) (hp : M.pre R R.length ≤ 1048576) (h1 : 0 ≤ m) (h2 : m + M.pre R R.length ≤ 40000000) :
    Calls Try.prog 60 #[.slice a n cap, .int .i64 m] w fun e w' => e = .returned (.int .i64 (m + M.pre R R.length)) ∧ OwnM w' B (.slice a n cap) (M.marks m R) ∧ Chg (fun k => B ≤ k ∧ k < w0.heap.size) w w' := by
  obtain ⟨V, hV0⟩ := h0
  have hV : OwnV w B (.slice a n cap) R V := by
    obtain ⟨h1, h2, h3, h4, h5⟩ := hV0
    exact ⟨h1, ownsRow_keep h2 (fun k hv => hb0 k (own_lt h2 hv).1 (own_lt h2 hv).2), fun i hi => (h3 i hi).keep hb0, h4, h5⟩
  have hlt : ∀ i, i < n → ∀ k, (V.getD i (.slice none 0 0)).ownBlock = some k → B ≤ k ∧ k < w0.heap.size := by
    obtain ⟨e1, e2, e3, e4, e5⟩ := hV0
    have hl := OwnM.len ⟨V, e1, e2, e3, e4, e5⟩
    exact fun i hi k hk => own_lt (e3 i (by omega)) hk
  have HT := Lib.hid hlt
  have HL := Lib.hid (OwnM.len ⟨V, hV⟩)
  have hgg := own_form hV.2.1
  obtain ⟨a', c', hv, -, -, hg⟩ := hgg
  injection hv with e1 e2 e3
  subst e1 e3
  rw [← e2] at hg
  have HV := Lib.hid hV
  clear hV hlt hV0 e2 hb0
  go_enter Try.func60, Try.ntmps60
  go_wp2
  go_loopw [1, 5] (fun x i wr => ∃ (k : Nat) (y : Int), k ≤ n ∧ i = .int .i64 k ∧ x = .int .i64 y ∧ y = m + M.pre R k ∧ OwnV wr B (.slice a n cap) (M.marked m R k) V ∧ Chg (fun k => B ≤ k ∧ k < w0.heap.size) w wr) (fun _ i _ => n - (intOf i).toNat)
  case atStart => exact ⟨0, m, Nat.zero_le _, rfl, rfl, by rw [M.pre_zero]; omega, by rw [M.marked_zero]; exact HV.out, Chg.refl _ _⟩
  case round =>
    obtain ⟨k, y, hk, rfl, rfl, hy, hO, hb⟩ := hrel
    have HO := Lib.hid hO
    have HB := Lib.hid hb
    by_cases hlt : k < n
    · have hkR : k < R.length := by have := HL.out; omega
      have hps := M.pre_succ R k hkR
      have hpm := M.pre_mono R (show k + 1 ≤ R.length by omega)
      have hle := M.len_le_pre R k hkR
      obtain ⟨g, rfl, hBg, hgl⟩ := hg (by omega)
      have hrow := HO.out.2.2.1 k (by simpa using hkR)
      obtain ⟨ra, rc, hrv, hrc, hrm, hrg⟩ := own_form hrow
      have hcell : wr.cell? ⟨g, k, none⟩ = some (V.getD k (.slice none 0 0)) := by
        have e : n = (M.marked m R k).length := by have := HL.out; simpa using this
        have h2 := HO.out.2.1
        rw [← e] at h2
        rw [World.ownsRow.cellAt h2 k (by omega)]
        have := HO.out.1
        simp [show k < V.length by omega]
      rw [M.marked_rowlen m R k k hkR] at hrv hrc
      rw [hrv] at hcell hrow
      rw [M.marked_at m R k k hkR, if_neg (Nat.lt_irrefl _)] at hrow
      have y1 : 0 ≤ y := by omega
      have y2 : y ≤ 40000000 := by omega
      generalize hLn : (R.getD k []).length = L at *
      have hLs : L ≤ 1048576 := by omega
      have HY := Lib.hid hy
      have HP := Lib.hid hps
      have HRV := Lib.hid hrv
      have HRW := Lib.hid hrow
      have HLn := Lib.hid hLn
      have HTk := Lib.hid (HT.out k hlt)
      clear hO hb hg hps hpm hle hrow hrv hrg hrc hy hLn
      go_wp2_with fail
      refine (markInts _ _ _ B _ _ _ HRW.out hLs y1 y2).mono ?_
      rintro e w1 ⟨rfl, ho1, hc1⟩
      have hN : OwnV w1 B (.slice (some ⟨g, 0, none⟩) n cap) (M.marked m R (k + 1)) V := by
        have := HO.out.row k (by simpa using hkR) (l := M.iota y L) (by rw [HRV.out]; exact ho1) (by rw [HRV.out]; exact hc1)
        rw [HY.out, ← HLn.out, M.marked_set m R k hkR] at this
        exact this
      have HN := Lib.hid hN
      have HB1 := Lib.hid (HB.out.trans (hc1.mono (fun j hj => HTk.out j (by rw [HRV.out]; exact hj))))
      clear ho1 hc1 hN
      go_wp2
      go_roundw
      case rel => exact ⟨k + 1, y + L, by omega, by go_num, rfl, by rw [HY.out, HP.out]; omega, HN.out, HB1.out⟩
      case measure => simp [intOf]; omega
    · have hkn : k = n := by omega
      subst hkn
      have HY := Lib.hid hy
      clear hO hb hg hy
      go_wp2
      go_ret
      have e := HL.out
      refine ⟨by rw [HY.out, ← e]; rfl, ⟨V, ?_⟩, HB.out⟩
      unfold M.marks
      rw [← e]
      exact HO.out

set_option maxRecDepth 100000 in
set_option maxHeartbeats 400000 in
theorem heldIntss (a : Option Addr) (n cap : Nat) (R : List (List Int)) (m : Int) (w : World) (h : Mat w a n (M.marks m R)) (hp : M.pre R R.length ≤ 1048576) (h1 : 0 ≤ m) (h2 : m + M.pre R R.length ≤ 40000000) :
    Calls Try.prog 61 #[.slice a n cap, .int .i64 m] w fun e w' => e = .returned (.int .i64 (m + M.pre R R.length)) ∧ w = w' := by
  have HL : Hid (n = R.length) := by have := h.1; unfold M.marks at this; show _ = _; simpa using this.symm
  have hm := h.2.1
  have HI := Lib.hid h
  clear h
  unfold maxLen at hm
  go_enter Try.func61, Try.ntmps61
  go_wp2
  go_loop [1, 5] (fun x i => ∃ (k : Nat) (y : Int), k ≤ n ∧ i = .int .i64 k ∧ x = .int .i64 y ∧ y = m + M.pre R k) (fun _ i => n - (intOf i).toNat)
  case atStart => exact ⟨0, m, Nat.zero_le _, rfl, rfl, by rw [M.pre_zero]; omega⟩
  case round =>
    obtain ⟨k, y, hk, rfl, rfl, hy⟩ := hrel
    by_cases hlt : k < n
    · have hkR : k < R.length := by have := HL.out; omega
      have hps := M.pre_succ R k hkR
      have hpm := M.pre_mono R (show k + 1 ≤ R.length by omega)
      have hle := M.len_le_pre R k hkR
      obtain ⟨b, off, ra, rc, L, l, rfl, hbl, hll, hc, hI⟩ := HI.out.at k hlt
      unfold M.marks at hll
      rw [M.marked_at m R _ k hkR, if_pos hkR] at hll
      have hLe : L = (R.getD k []).length := by have := hI.1; rw [hll] at this; simpa using this.symm
      rw [← hLe] at hps hle hll
      rw [hll, ← hy] at hI
      have y1 : 0 ≤ y := by omega
      have y2 : y ≤ 40000000 := by omega
      have hLs : L ≤ 1048576 := by omega
      have HY := Lib.hid hy
      have HP := Lib.hid hps
      have HII := Lib.hid hI
      have hyL : 0 ≤ y + (L : Int) := by omega
      clear hI hll hps hpm hle hLe hy
      go_wp2_with fail
      refine (heldInts _ _ _ _ _ HII.out hLs y1 y2).mono ?_
      rintro e w' ⟨rfl, rfl⟩
      go_wp2
      go_round
      case rel => exact ⟨k + 1, y + L, by omega, by go_num, rfl, by rw [HY.out, HP.out]; omega⟩
      case measure => simp [intOf]; omega
    · have hkn : k = n := by omega
      subst hkn
      have HY := Lib.hid hy
      clear hy
      go_wp2
      go_ret
      have e := HL.out
      exact ⟨by rw [HY.out, ← e]; rfl, rfl⟩

/-- The same, said for the exact laws: the number is named, and what changed lies in the blocks of the marked slice. -/
theorem markM (a : Option Addr) (n cap B : Nat) (R : List (List Int)) (m : Int) (w0 w : World) (h0 : OwnM w0 B (.slice a n cap) R) (hb0 : Same B w0.heap.size w0 w) (hn : n ≤ 1048576) (hp : M.pre R R.length ≤ 1048576) (h1 : 0 ≤ m) (h2 : m + M.pre R R.length ≤ 40000000) :
    Calls Try.prog 60 #[.slice a n cap, .int .i64 m] w fun e w' => ∃ y : Int, e = .returned (.int .i64 y) ∧ 0 ≤ y ∧ Hid (y = m + M.pre R R.length) ∧ OwnM w' B (.slice a n cap) (M.marks m R) ∧ Chg (fun k => B ≤ k ∧ k < w0.heap.size) w w' := by
  refine (markIntss _ _ _ _ _ _ _ _ h0 hb0 hn hp h1 h2).mono ?_
  rintro e w' ⟨rfl, ho, hc⟩
  exact ⟨_, rfl, by omega, rfl, ho, hc⟩
theorem heldM (a : Option Addr) (n cap : Nat) (R : List (List Int)) (m y : Int) (w : World) (h : Mat w a n (M.marks m R)) (hp : M.pre R R.length ≤ 1048576) (h1 : 0 ≤ m) (h2 : m + M.pre R R.length ≤ 40000000) (hy : y = m + M.pre R R.length) :
    Calls Try.prog 61 #[.slice a n cap, .int .i64 m] w fun e w' => e = .returned (.int .i64 y) ∧ w = w' := by
  subst hy
  exact heldIntss _ _ _ _ _ _ h hp h1 h2
theorem markV (a : Option Addr) (n cap B : Nat) (l : List Int) (m : Int) (w0 w : World) (h0 : Own w0 B (.slice a n cap) l) (hb0 : Same B w0.heap.size w0 w) (hn : n ≤ 1048576) (h1 : 0 ≤ m) (h2 : m ≤ 40000000) :
    Calls Try.prog 66 #[.slice a n cap, .int .i64 m] w fun e w' => ∃ y : Int, e = .returned (.int .i64 y) ∧ 0 ≤ y ∧ Hid (y = m + n) ∧ Own w' B (.slice a n cap) (M.iota m n) ∧ Chg (fun k => B ≤ k ∧ k < w0.heap.size) w w' := by
  refine (markInts _ _ _ B l _ _ (h0.keep hb0) hn h1 h2).mono ?_
  rintro e w' ⟨rfl, ho, hc⟩
  exact ⟨_, rfl, by omega, rfl, ho, hc.mono (fun k hk => own_lt h0 hk)⟩
theorem heldV (a : Option Addr) (n cap : Nat) (m y : Int) (w : World) (h : Ints .i64 w a n (M.iota m n)) (hn : n ≤ 1048576) (h1 : 0 ≤ m) (h2 : m ≤ 40000000) (hy : y = m + n) :
    Calls Try.prog 71 #[.slice a n cap, .int .i64 m] w fun e w' => e = .returned (.int .i64 y) ∧ w = w' := by
  subst hy
  exact heldInts _ _ _ _ _ h hn h1 h2
end Go.Proofs.Ytphobmddkphofaa.V

namespace Go.Proofs.Ytphobmddkphofaa
namespace M
/-- The first k places of l, then zeros. -/
def cpK (l : List Pc) (n k : Nat) : List Pc := (List.range n).map fun i => if i < k then l.getD i pz else pz
theorem cpK_zero (l : List Pc) (n : Nat) : cpK l n 0 = List.replicate n pz := by
  unfold cpK
  apply List.ext_getElem
  · simp
  · intro i h1 h2
    simp
theorem cpK_all (l : List Pc) : cpK l l.length l.length = l := by
  unfold cpK
  apply List.ext_getElem
  · simp
  · intro i h1 h2
    simp at h1
    simp [h1]
theorem cpK_len (l : List Pc) (n k : Nat) : (cpK l n k).length = n := by simp [cpK]
theorem cpK_set (l : List Pc) {n k : Nat} (hk : k < n) : (cpK l n k).set k (l.getD k pz) = cpK l n (k + 1) := by
  unfold cpK
  apply List.ext_getElem
  · simp
  · intro i h1 h2
    simp only [List.length_set, List.length_map, List.length_range] at h1
    rw [List.getElem_set]
    by_cases e : k = i
    · subst e; simp
    · rw [if_neg e]
      simp only [List.getElem_map, List.getElem_range]
      by_cases h : i < k
      · rw [if_pos h, if_pos (by omega)]
      · rw [if_neg h, if_neg (by omega)]
/-- Marks from m on. -/
def mkP (m : Int) (i : Nat) : Pc := (m + 4 * i, m + 4 * i + 1, m + 4 * i + 2, m + 4 * i + 3)
def iop (m : Int) (n : Nat) : List Pc := (List.range n).map (mkP m)
def mkK (m : Int) (l : List Pc) (n k : Nat) : List Pc := (List.range n).map fun i => if i < k then mkP m i else l.getD i pz
theorem iop_len (m : Int) (n : Nat) : (iop m n).length = n := by simp [iop]
theorem iop_get (m : Int) {n i : Nat} (h : i < n) : (iop m n).getD i pz = mkP m i := by simp [iop, h]
theorem mkK_zero (m : Int) (l : List Pc) : mkK m l l.length 0 = l := by
  unfold mkK
  apply List.ext_getElem
  · simp
  · intro i h1 h2
    simp at h1
    simp [h1]
theorem mkK_all (m : Int) (l : List Pc) (n : Nat) : mkK m l n n = iop m n := by
  unfold mkK iop
  apply List.map_congr_left
  intro i hi
  rw [if_pos (List.mem_range.1 hi)]
theorem mkK_len (m : Int) (l : List Pc) (n k : Nat) : (mkK m l n k).length = n := by simp [mkK]
theorem mkK_set (m : Int) (l : List Pc) {n k : Nat} (hk : k < n) : (mkK m l n k).set k (mkP m k) = mkK m l n (k + 1) := by
  unfold mkK
  apply List.ext_getElem
  · simp
  · intro i h1 h2
    simp only [List.length_set, List.length_map, List.length_range] at h1
    rw [List.getElem_set]
    by_cases e : k = i
    · subst e; simp
    · rw [if_neg e]
      simp only [List.getElem_map, List.getElem_range]
      by_cases h : i < k
      · rw [if_pos h, if_pos (by omega)]
      · rw [if_neg h, if_neg (by omega)]
theorem quad {l : List Pc} {i : Nat} (hi : i < l.length) (x0 x1 x2 x3 : Int) : stF (stF (stF (stF l i 0 x0) i 1 x1) i 2 x2) i 3 x3 = l.set i (x0, x1, x2, x3) := by
  simp [stF, List.getD_eq_getElem?_getD, hi, setP]
end M
namespace V
set_option maxRecDepth 100000
open Go.RowKit
theorem OwnPl.setQ {w : World} {B g n cap : Nat} {l : List M.Pc} (h : OwnPl w B (.slice (some ⟨g, 0, none⟩) n cap) l) {i : Nat} (hi : i < n) (x0 x1 x2 x3 : Int) :
    OwnPl ((((w.setCell ⟨g, i * 4, none⟩ (.int .i64 x0)).setCell ⟨g, i * 4 + 1, none⟩ (.int .i64 x1)).setCell ⟨g, i * 4 + 2, none⟩ (.int .i64 x2)).setCell ⟨g, i * 4 + 3, none⟩ (.int .i64 x3)) B (.slice (some ⟨g, 0, none⟩) n cap) (l.set i (x0, x1, x2, x3)) := by
  have hl := h.len
  have := (((h.setF x0 hi (j := 0) (by omega)).setF x1 hi (j := 1) (by omega)).setF x2 hi (j := 2) (by omega)).setF x3 hi (j := 3) (by omega)
  rw [M.quad (by omega)] at this
  exact this
/-- What a store into the place i asks. -/
theorem OwnPl.room {w : World} {B g n cap : Nat} {l : List M.Pc} (h : OwnPl w B (.slice (some ⟨g, 0, none⟩) n cap) l) {i : Nat} (hi : i < n) :
    (∃ v, w.cell? ⟨g, i * 4, none⟩ = some v) ∧ (∃ v, w.cell? ⟨g, i * 4 + 1, none⟩ = some v) ∧ (∃ v, w.cell? ⟨g, i * 4 + 2, none⟩ = some v) ∧ (∃ v, w.cell? ⟨g, i * 4 + 3, none⟩ = some v) ∧ w.frozen? ⟨g, i * 4, none⟩ = false ∧ w.frozen? ⟨g, i * 4 + 1, none⟩ = false ∧ w.frozen? ⟨g, i * 4 + 2, none⟩ = false ∧ w.frozen? ⟨g, i * 4 + 3, none⟩ = false := by
  obtain ⟨b, off, p0, p1, p2, p3, hb, -, -, c0, c1, c2, c3⟩ := h.pls.at i hi
  injection hb with hb
  injection hb with e1 e2
  subst e1 e2
  rw [Nat.zero_add] at c0 c1 c2 c3
  exact ⟨⟨_, c0⟩, ⟨_, c1⟩, ⟨_, c2⟩, ⟨_, c3⟩, h.frozenAt _, h.frozenAt _, h.frozenAt _, h.frozenAt _⟩
theorem run_makeP (n : Nat) (hn : n ≤ 1048576) (w : World) : (Instr.makeSlice 24 (.int .i64 (n : Int)) (.int .i64 (n : Int))).run Try.prog w = .ok (.slice (some ⟨w.heap.size, 0, none⟩) n n) (w.alloc (.cells (madeCells #[.int .i64 0, .int .i64 0, .int .i64 0, .int .i64 0] (n * 4)) 39)) := by
  obtain ⟨i, hi, hzz⟩ := Option.map_eq_some_iff.1 infoP
  simp only [Prod.mk.injEq] at hzz
  obtain ⟨hz, hs, hb⟩ := hzz
  have hr := run_make (P := Try.prog) w 24 39 i (.agg #[.int .i64 0, .int .i64 0, .int .i64 0, .int .i64 0]) Try.underlying24 hi hz .i64 .i64 n n (by omega) (Int.le_refl _) (by rw [hb]; omega) (by omega)
  simp only [Int.toNat_natCast, hs] at hr
  exact hr
set_option maxRecDepth 100000 in
set_option maxHeartbeats 400000 in
theorem szPl_t (a : Option Addr) (n cap : Nat) (w : World) (hn : n ≤ 1048576) : Calls Try.prog 116 #[.slice a n cap, .int .i64 1048576] w fun e w' => e = .returned (.int .i64 (1048576 - n)) ∧ w = w' := by
  go_enter Try.func116, Try.ntmps116
  go_wp2
  go_ret
  exact ⟨rfl, rfl⟩
set_option maxRecDepth 100000 in
set_option maxHeartbeats 400000 in
theorem szPl_f (a : Option Addr) (n cap : Nat) (w : World) (hn : 1048576 < n) (hm : n ≤ maxLen) : Calls Try.prog 116 #[.slice a n cap, .int .i64 1048576] w fun e w' => e = .returned (.int .i64 (-1)) ∧ w = w' := by
  unfold maxLen at hm
  go_enter Try.func116, Try.ntmps116
  go_wp2
  go_ret
  exact ⟨rfl, rfl⟩
set_option maxRecDepth 100000 in
set_option maxHeartbeats 400000 in
theorem szGr_t (x : Int) (a : Option Addr) (n cap : Nat) (w : World) (hn : n ≤ 1048576) : Calls Try.prog 49 #[.agg #[.int .i64 x, .slice a n cap], .int .i64 1048576] w fun e w' => e = .returned (.int .i64 (1048576 - n)) ∧ Below w.heap.size w w' := by
  go_enter Try.func49, Try.ntmps49
  go_wp2_with (go_at_call 116; refine (szPl_t _ _ _ _ hn).mono ?_; rintro e w' ⟨rfl, rfl⟩)
  go_ret
  exact ⟨rfl, b_alloc _ _⟩
set_option maxRecDepth 100000 in
set_option maxHeartbeats 400000 in
theorem szGr_f (x : Int) (a : Option Addr) (n cap : Nat) (w : World) (hn : 1048576 < n) (hm : n ≤ maxLen) : Calls Try.prog 49 #[.agg #[.int .i64 x, .slice a n cap], .int .i64 1048576] w fun e w' => e = .returned (.int .i64 (-1)) ∧ Below w.heap.size w w' := by
  go_enter Try.func49, Try.ntmps49
  go_wp2_with (go_at_call 116; refine (szPl_f _ _ _ _ hn hm).mono ?_; rintro e w' ⟨rfl, rfl⟩)
  go_ret
  exact ⟨rfl, b_alloc _ _⟩
set_option maxRecDepth 100000 in
set_option maxHeartbeats 1000000 in
theorem toPlace (p0 p1 p2 p3 : Int) (w : World) :
    Calls Try.prog 52 #[.agg #[.int .i64 p0, .int .i64 p1, .int .i64 p2, .int .i64 p3]] w fun e w' => e = .returned (.agg #[.int .i64 p0, .int .i64 p1, .int .i64 p2, .int .i64 p3]) ∧ Below w.heap.size w w' := by
  go_enter Try.func52, Try.ntmps52
  go_wp2
  exact bodyPost_ret (v := .agg #[.int .i64 p0, .int .i64 p1, .int .i64 p2, .int .i64 p3]) (by simp [results, Try.results52, go_sem]) rfl ⟨rfl, (b_alloc2 _ _ _).alloc (by simp; omega) _⟩
set_option maxRecDepth 100000 in
set_option maxHeartbeats 1000000 in
theorem eqPlace (p0 p1 p2 p3 : Int) (w : World) :
    Calls Try.prog 149 #[.agg #[.int .i64 p0, .int .i64 p1, .int .i64 p2, .int .i64 p3], .agg #[.int .i64 p0, .int .i64 p1, .int .i64 p2, .int .i64 p3]] w fun e w' => e = .returned (.bool true) ∧ Below w.heap.size w w' := by
  go_enter Try.func149, Try.ntmps149
  go_wp2
  go_ret
  exact ⟨rfl, b_alloc2 _ _ _⟩
set_option maxRecDepth 100000 in
set_option maxHeartbeats 2000000 in
theorem toPlaces (a : Option Addr) (n cap : Nat) (l : List M.Pc) (w : World) (h : Pls w a n l) (hn : n ≤ 1048576) :
    Calls Try.prog 118 #[.slice a n cap] w fun e w' => ∃ b, e = .returned (.slice b n n) ∧ OwnPl w' w.heap.size (.slice b n n) l ∧ Below w.heap.size w w' := by
  have HI := Lib.hid h
  have HL : Hid (l.length = n) := h.1
  have hmk := run_makeP n hn
  have HO0 : Hid (OwnPl (w.alloc (.cells (madeCells #[.int .i64 0, .int .i64 0, .int .i64 0, .int .i64 0] (n * 4)) 39)) w.heap.size (.slice (some ⟨w.heap.size, 0, none⟩) n n) (M.cpK l n 0)) := by
    rw [M.cpK_zero]; exact ownPl_made w _ n (Nat.le_refl _) (by unfold maxLen; omega)
  have HB0 : Hid (Below w.heap.size w (w.alloc (.cells (madeCells #[.int .i64 0, .int .i64 0, .int .i64 0, .int .i64 0] (n * 4)) 39))) := b_alloc w _
  have HTo : Hid (∀ p0 p1 p2 p3 w, Calls Try.prog 52 #[.agg #[.int .i64 p0, .int .i64 p1, .int .i64 p2, .int .i64 p3]] w fun e w' => e = .returned (.agg #[.int .i64 p0, .int .i64 p1, .int .i64 p2, .int .i64 p3]) ∧ Below w.heap.size w w') := toPlace
  clear h
  go_enter Try.func118, Try.ntmps118
  go_wp2
  go_loopw [4] (fun kv wr => ∃ k : Nat, k ≤ n ∧ kv = .int .i64 k ∧ Hid (OwnPl wr w.heap.size (.slice (some ⟨w.heap.size, 0, none⟩) n n) (M.cpK l n k)) ∧ Hid (Below w.heap.size w wr)) (fun kv _ => n - (intOf kv).toNat)
  case atStart => exact ⟨0, Nat.zero_le _, rfl, HO0, HB0⟩
  case round =>
    obtain ⟨k, hk, rfl, HO, HB⟩ := hrel
    obtain ⟨wo, rfl⟩ : ∃ x, x = wr := ⟨_, rfl⟩
    clear HO0 HB0
    by_cases hkl : k < n
    · have hki : (k : Int) < (n : Int) := by omega
      obtain ⟨b, off, p0, p1, p2, p3, rfl, -, hp, c0, c1, c2, c3⟩ := (HI.out.below HB.out).at k hkl
      have HS := M.cpK_set l hkl
      rw [hp] at HS
      have HSh := Lib.hid HS
      clear HS hp
      go_wp2_with fail
      refine (HTo.out p0 p1 p2 p3 _).mono ?_
      rintro e w2 ⟨rfl, hb2⟩
      have hO2 := HO.out.below hb2
      obtain ⟨⟨v0, d0⟩, ⟨v1, d1⟩, ⟨v2, d2⟩, ⟨v3, d3⟩, f0, f1, f2, f3⟩ := hO2.room hkl
      have HN := Lib.hid (hO2.setQ hkl p0 p1 p2 p3)
      have HB2 := Lib.hid (((((HB.out.trans (hb2.mono HB.out.size)).setCell (p := ⟨w.heap.size, k * 4, none⟩) (Nat.le_refl _) (.int .i64 p0)).setCell (p := ⟨w.heap.size, k * 4 + 1, none⟩) (Nat.le_refl _) (.int .i64 p1)).setCell (p := ⟨w.heap.size, k * 4 + 2, none⟩) (Nat.le_refl _) (.int .i64 p2)).setCell (p := ⟨w.heap.size, k * 4 + 3, none⟩) (Nat.le_refl _) (.int .i64 p3))
      rw [HSh.out] at HN
      clear hO2 hb2
      go_wp2
      go_roundw
      case rel => exact ⟨k + 1, by omega, by go_num, HN, HB2⟩
      case measure => simp [intOf]; omega
    · obtain rfl : k = n := by omega
      have hO := HO.out
      rw [show M.cpK l k k = l by rw [← HL.out]; exact M.cpK_all l] at hO
      have HO := Lib.hid hO
      clear hO
      go_wp2
      go_ret
      exact ⟨_, rfl, HO.out, HB.out⟩
end V
end Go.Proofs.Ytphobmddkphofaa

namespace Go.Proofs.Ytphobmddkphofaa
namespace V
set_option maxRecDepth 100000
open Go.RowKit
theorem b_al3g (w : World) (x y z : Obj) : Below w.heap.size w (((w.alloc x).alloc y).alloc z) := (b_alloc2 w x y).trans ((b_alloc _ z).mono (by simp; omega))
set_option maxRecDepth 100000 in
set_option maxHeartbeats 2000000 in
theorem toGraph (x : Int) (a : Option Addr) (n cap : Nat) (l : List M.Pc) (w : World) (h : Pls w a n l) (hn : n ≤ 1048576) :
    Calls Try.prog 51 #[.agg #[.int .i64 x, .slice a n cap]] w fun e w' => ∃ b, e = .returned (.agg #[.int .i64 x, .slice b n n]) ∧ OwnPl w' w.heap.size (.slice b n n) l ∧ Below w.heap.size w w' := by
  have HI := Lib.hid h
  have HT : Hid (∀ W, Below w.heap.size w W → Calls Try.prog 118 #[.slice a n cap] W fun e w' => ∃ b, e = .returned (.slice b n n) ∧ OwnPl w' W.heap.size (.slice b n n) l ∧ Below W.heap.size W w') := fun W hW => toPlaces a n cap l W (h.below hW) hn
  clear h
  go_enter Try.func51, Try.ntmps51
  go_wp2_with fail
  refine (HT.out _ (b_al3g _ _ _ _)).mono ?_
  rintro e w2 ⟨b, rfl, ho2, hb2⟩
  obtain ⟨hcr, hfr⟩ := bcell hb2
  have hzz := hb2.size
  simp at hzz
  have h10 : w2.cell? ⟨w.heap.size + 1, 0, none⟩ = some (.int .i64 0) := by rw [hcr _ _ (by simp)]; simp [go_sem]
  have h11 : w2.cell? ⟨w.heap.size + 1, 1, none⟩ = some (.slice none 0 0) := by rw [hcr _ _ (by simp)]; simp [go_sem]
  have h20 : w2.cell? ⟨w.heap.size + 1 + 1, 0, none⟩ = some (.int .i64 x) := by rw [hcr _ _ (by simp)]; simp [go_sem]
  have h21 : w2.cell? ⟨w.heap.size + 1 + 1, 1, none⟩ = some (.slice none 0 0) := by rw [hcr _ _ (by simp)]; simp [go_sem]
  have k10 : w2.frozen? ⟨w.heap.size + 1, 0, none⟩ = false := by rw [hfr _ _ (by simp)]; simp [go_sem]
  have k11 : w2.frozen? ⟨w.heap.size + 1, 1, none⟩ = false := by rw [hfr _ _ (by simp)]; simp [go_sem]
  have k21 : w2.frozen? ⟨w.heap.size + 1 + 1, 1, none⟩ = false := by rw [hfr _ _ (by simp)]; simp [go_sem]
  have HO2 := Lib.hid ho2
  have hba : Below w.heap.size w w2 := (b_al3g _ _ _ _).trans (hb2.mono (by simp; omega))
  have z1 : w.heap.size + 1 < w2.heap.size := by omega
  have z2 : w.heap.size + 1 + 1 < w2.heap.size := by omega
  have HBa := Lib.hid hba
  have HBz := Lib.hid hzz
  have HOw : Hid (OwnPl (((w2.setCell ⟨w.heap.size + 1 + 1, 1, none⟩ (.slice b n n)).setCell ⟨w.heap.size + 1, 0, none⟩ (.int .i64 x)).setCell ⟨w.heap.size + 1, 1, none⟩ (.slice b n n)) w.heap.size (.slice b n n) l) := by
    refine (ho2.keepB fun k hk => ?_).mono (by simp; omega)
    have := (ho2.lt hk).1
    simp at this
    rw [Below.heap_setCell _ _ _ _ (by show k ≠ w.heap.size + 1; omega), Below.heap_setCell _ _ _ _ (by show k ≠ w.heap.size + 1; omega), Below.heap_setCell _ _ _ _ (by show k ≠ w.heap.size + 1 + 1; omega)]
  clear ho2 hb2 hcr hfr hba
  go_wp2
  exact bodyPost_ret (v := .agg #[.int .i64 x, .slice b n n]) (by simp [results, Try.results51, go_sem, z1, z2, h10, h11, h20, h21]) rfl ⟨b, rfl, HOw.out, ((HBa.out.setCell (by show _ ≤ w.heap.size + 1 + 1; omega) _).setCell (by show _ ≤ w.heap.size + 1; omega) _).setCell (by show _ ≤ w.heap.size + 1; omega) _⟩
set_option maxRecDepth 100000 in
set_option maxHeartbeats 2000000 in
theorem eqPlaces (a : Option Addr) (n cap : Nat) (a' : Option Addr) (n' cap' : Nat) (l : List M.Pc) (w : World) (h : Pls w a n l) (h' : Pls w a' n' l) :
    Calls Try.prog 120 #[.slice a n cap, .slice a' n' cap'] w fun e w' => e = .returned (.bool true) ∧ Below w.heap.size w w' := by
  obtain rfl : n' = n := by rw [← h.1, ← h'.1]
  have HI := Lib.hid h
  have HI' := Lib.hid h'
  have hm := h.2.1
  unfold maxLen at hm
  have HEq : Hid (∀ p0 p1 p2 p3 w, Calls Try.prog 149 #[.agg #[.int .i64 p0, .int .i64 p1, .int .i64 p2, .int .i64 p3], .agg #[.int .i64 p0, .int .i64 p1, .int .i64 p2, .int .i64 p3]] w fun e w' => e = .returned (.bool true) ∧ Below w.heap.size w w') := eqPlace
  clear h h'
  go_enter Try.func120, Try.ntmps120
  go_wp2
  go_loopw [5] (fun kv wr => ∃ k : Nat, k ≤ n' ∧ kv = .int .i64 k ∧ Hid (Below w.heap.size w wr)) (fun kv _ => n' - (intOf kv).toNat)
  case atStart => exact ⟨0, Nat.zero_le _, rfl, Below.refl _ _⟩
  case round =>
    obtain ⟨k, hk, rfl, HB⟩ := hrel
    obtain ⟨wo, rfl⟩ : ∃ x, x = wr := ⟨_, rfl⟩
    by_cases hkl : k < n'
    · have hki : (k : Int) < (n' : Int) := by omega
      obtain ⟨b, off, p0, p1, p2, p3, rfl, -, hp, c0, c1, c2, c3⟩ := (HI.out.below HB.out).at k hkl
      obtain ⟨b', off', q0, q1, q2, q3, rfl, -, hq, d0, d1, d2, d3⟩ := (HI'.out.below HB.out).at k hkl
      rw [hp] at hq
      injection hq with e0 hq
      injection hq with e1 hq
      injection hq with e2 e3
      subst e0 e1 e2 e3
      clear hp
      go_wp2
      go_region_with (first | (go_at_call 149; refine (HEq.out p0 p1 p2 p3 _).mono ?_; rintro e w2 ⟨rfl, hb2⟩))
      all_goals
        have HB2 : Hid (Below w.heap.size w w2) := (HB.out.trans ((b_draws wo 1).mono HB.out.size)).trans (hb2.mono (by have := HB.out.size; simpa using this))
        go_wp2
        go_roundw
        case rel => exact ⟨k + 1, by omega, by go_num, HB2⟩
        case measure => simp [intOf]; omega
    · obtain rfl : k = n' := by omega
      go_wp2
      go_ret
      exact ⟨rfl, HB.out⟩
set_option maxRecDepth 100000 in
set_option maxHeartbeats 4000000 in
theorem markPlaces (a : Option Addr) (n cap B : Nat) (l : List M.Pc) (m : Int) (w0 w : World) (h0 : OwnPl w0 B (.slice a n cap) l) (hb0 : Same B w0.heap.size w0 w) (hn : n ≤ 1048576) (h1 : 0 ≤ m) (h2 : m ≤ 40000000) :
    Calls Try.prog 121 #[.slice a n cap, .int .i64 m] w fun e w' => ∃ y : Int, e = .returned (.int .i64 y) ∧ 0 ≤ y ∧ Hid (y = m + 4 * n) ∧ OwnPl w' B (.slice a n cap) (M.iop m n) ∧ Chg (fun k => B ≤ k ∧ k < w0.heap.size) w w' := by
  have h := h0.keep hb0
  have HO := Lib.hid h
  have HL : Hid (n = l.length) := h.len
  have hgg := h0.form
  obtain ⟨a', c', hv, -, -, hg⟩ := hgg
  injection hv with e1 e2 e3
  subst e1 e3
  rw [← e2] at hg
  have HG := Lib.hid hg
  have HO0 : Hid (OwnPl w B (.slice a n cap) (M.mkK m l n 0)) := by
    show OwnPl _ _ _ _
    have := M.mkK_zero m l
    rw [← HL.out] at this
    rw [this]; exact h
  clear h h0 hb0 hg e2
  go_enter Try.func121, Try.ntmps121
  go_wp2
  go_loopw [1, 5] (fun x i wr => ∃ (k : Nat) (y : Int), k ≤ n ∧ i = .int .i64 k ∧ x = .int .i64 y ∧ y = m + 4 * k ∧ Hid (OwnPl wr B (.slice a n cap) (M.mkK m l n k)) ∧ Hid (Chg (fun k => B ≤ k ∧ k < w0.heap.size) w wr)) (fun _ i _ => n - (intOf i).toNat)
  case atStart => exact ⟨0, m, Nat.zero_le _, rfl, rfl, by simp, HO0, Chg.refl _ _⟩
  case round =>
    obtain ⟨k, y, hk, rfl, rfl, hy, hO, HC⟩ := hrel
    clear HO0
    by_cases hkl : k < n
    · obtain ⟨g, rfl, hBg, hgl⟩ := HG.out (by omega)
      have hki : (k : Int) < (n : Int) := by omega
      obtain ⟨⟨v0, d0⟩, ⟨v1, d1⟩, ⟨v2, d2⟩, ⟨v3, d3⟩, f0, f1, f2, f3⟩ := hO.out.room hkl
      have HN := Lib.hid (hO.out.setQ hkl y (y + 1) (y + 1 + 1) (y + 1 + 1 + 1))
      rw [show (y, y + 1, y + 1 + 1, y + 1 + 1 + 1) = M.mkP m k by unfold M.mkP; rw [hy]; ext <;> simp <;> omega, M.mkK_set m l hkl] at HN
      have HC2 : Hid (Chg (fun k => B ≤ k ∧ k < w0.heap.size) w ((((wr.setCell ⟨g, k * 4, none⟩ (.int .i64 y)).setCell ⟨g, k * 4 + 1, none⟩ (.int .i64 (y + 1))).setCell ⟨g, k * 4 + 2, none⟩ (.int .i64 (y + 1 + 1))).setCell ⟨g, k * 4 + 3, none⟩ (.int .i64 (y + 1 + 1 + 1)))) := (((HC.out.set ⟨hBg, hgl⟩ _).set ⟨hBg, hgl⟩ _).set ⟨hBg, hgl⟩ _).set ⟨hBg, hgl⟩ _
      have HY := Lib.hid hy
      have hy0 : 0 ≤ y := by omega
      have hy1 : y ≤ 50000000 := by omega
      clear hy hO
      go_wp2
      go_roundw
      case rel => exact ⟨k + 1, y + 1 + 1 + 1 + 1, by omega, by go_num, by first | rfl | go_num, by have := HY.out; omega, HN, HC2⟩
      case measure => simp [intOf]; omega
    · obtain rfl : k = n := by omega
      have HNo : Hid (OwnPl wr B (.slice a k cap) (M.iop m k)) := by
        have := hO.out
        rw [M.mkK_all] at this
        exact this
      have HY := Lib.hid hy
      go_wp2
      go_ret
      exact ⟨y, rfl, by omega, HY.out, HNo.out, HC.out⟩
set_option maxRecDepth 100000 in
set_option maxHeartbeats 4000000 in
theorem heldPlaces (a : Option Addr) (n cap : Nat) (m : Int) (y : Int) (w : World) (h : Pls w a n (M.iop m n)) (hn : n ≤ 1048576) (h1 : 0 ≤ m) (h2 : m ≤ 40000000) (hy : y = m + 4 * n) :
    Calls Try.prog 122 #[.slice a n cap, .int .i64 m] w fun e w' => e = .returned (.int .i64 y) ∧ w = w' := by
  have HI := Lib.hid h
  clear h
  go_enter Try.func122, Try.ntmps122
  go_wp2
  go_loopw [1, 5] (fun x i wr => ∃ (k : Nat) (z : Int), k ≤ n ∧ i = .int .i64 k ∧ x = .int .i64 z ∧ z = m + 4 * k ∧ wr = w) (fun _ i _ => n - (intOf i).toNat)
  case atStart => exact ⟨0, m, Nat.zero_le _, rfl, rfl, by simp, rfl⟩
  case round =>
    obtain ⟨k, z, hk, rfl, rfl, hz, rfl⟩ := hrel
    by_cases hkl : k < n
    · have hki : (k : Int) < (n : Int) := by omega
      obtain ⟨b, off, p0, p1, p2, p3, rfl, -, hp, c0, c1, c2, c3⟩ := HI.out.at k hkl
      rw [M.iop_get m hkl] at hp
      unfold M.mkP at hp
      injection hp with e0 hp
      injection hp with e1 hp
      injection hp with e2 e3
      obtain rfl : p0 = z := by omega
      obtain rfl : p1 = p0 + 1 := by omega
      obtain rfl : p2 = p0 + 1 + 1 := by omega
      obtain rfl : p3 = p0 + 1 + 1 + 1 := by omega
      have HZ := Lib.hid hz
      have hz0 : 0 ≤ p0 := by omega
      have hz1 : p0 ≤ 50000000 := by omega
      clear e0 e1 e2 e3 hz
      go_wp2
      go_roundw
      case rel => exact ⟨k + 1, p0 + 1 + 1 + 1 + 1, by omega, by go_num, by first | rfl | go_num, by have := HZ.out; omega, by first | rfl | trivial⟩
      case measure => simp [intOf]; omega
    · obtain rfl : k = n := by omega
      obtain rfl : z = y := by omega
      go_wp2
      go_ret
      exact ⟨rfl, rfl⟩
set_option maxRecDepth 100000 in
set_option maxHeartbeats 1000000 in
theorem eqGraph (x : Int) (a : Option Addr) (n cap : Nat) (a' : Option Addr) (n' cap' : Nat) (l : List M.Pc) (w : World) (h : Pls w a n l) (h' : Pls w a' n' l) :
    Calls Try.prog 54 #[.agg #[.int .i64 x, .slice a n cap], .agg #[.int .i64 x, .slice a' n' cap']] w fun e w' => e = .returned (.bool true) ∧ Below w.heap.size w w' := by
  have HT : Hid (∀ W, Below w.heap.size w W → Calls Try.prog 120 #[.slice a n cap, .slice a' n' cap'] W fun e w' => e = .returned (.bool true) ∧ Below W.heap.size W w') := fun W hW => eqPlaces a n cap a' n' cap' l W (h.below hW) (h'.below hW)
  clear h h'
  go_enter Try.func54, Try.ntmps54
  go_wp2_with fail
  refine (HT.out _ (b_alloc2 _ _ _)).mono ?_
  rintro e w2 ⟨rfl, hb2⟩
  have HB := Lib.hid ((b_alloc2 w _ _).trans (hb2.mono (by simp; omega)))
  clear hb2
  go_wp2
  go_ret
  exact ⟨rfl, HB.out⟩
set_option maxRecDepth 100000 in
set_option maxHeartbeats 1000000 in
theorem markGraph (x : Int) (a : Option Addr) (n cap B : Nat) (l : List M.Pc) (m : Int) (w0 w : World) (h0 : OwnPl w0 B (.slice a n cap) l) (hb0 : Same B w0.heap.size w0 w) (hw : w0.heap.size ≤ w.heap.size) (hn : n ≤ 1048576) (h1 : 0 ≤ m) (h2 : m ≤ 40000000) :
    Calls Try.prog 55 #[.agg #[.int .i64 x, .slice a n cap], .int .i64 m] w fun e w' => ∃ y : Int, e = .returned (.int .i64 y) ∧ 0 ≤ y ∧ Hid (y = m + 4 * n) ∧ OwnPl w' B (.slice a n cap) (M.iop m n) ∧ (∀ k, k < w.heap.size → ¬ (B ≤ k ∧ k < w0.heap.size) → w'.heap[k]? = w.heap[k]?) ∧ w.heap.size ≤ w'.heap.size ∧ (B ≤ w.heap.size → Below B w w') := by
  have hs : Same B w0.heap.size w0 (w.alloc (.cells #[.int .i64 x, .slice a n cap] 26)) := fun k q1 q2 => by
    rw [Below.heap_alloc w _ _ (by omega)]; exact hb0 k q1 q2
  have HT := Lib.hid (markPlaces a n cap B l m w0 (w.alloc (.cells #[.int .i64 x, .slice a n cap] 26)) h0 hs hn h1 h2)
  clear h0 hb0 hs
  go_enter Try.func55, Try.ntmps55
  go_wp2_with fail
  refine (HT.out).mono ?_
  rintro e w2 ⟨y, rfl, hy, HY, ho, hc⟩
  have HO := Lib.hid ho
  have HCh : Hid (∀ k, k < w.heap.size → ¬ (B ≤ k ∧ k < w0.heap.size) → w2.heap[k]? = w.heap[k]?) := fun k q1 q2 => (hc.other k q2).trans (Below.heap_alloc w _ _ q1)
  have hsz : w.heap.size ≤ w2.heap.size := by have := hc.size; simp at this; omega
  have HBl : Hid (B ≤ w.heap.size → Below B w w2) := fun q => ((Below.refl B w).alloc q _).trans (hc.below fun k hk => hk.1)
  have HT := True.intro
  clear ho hc HT
  go_wp2
  go_ret
  exact ⟨y, rfl, hy, HY, HO.out, HCh.out, hsz, HBl.out⟩
set_option maxRecDepth 100000 in
set_option maxHeartbeats 1000000 in
theorem heldGraph (x : Int) (a : Option Addr) (n cap : Nat) (m : Int) (y : Int) (w : World) (h : Pls w a n (M.iop m n)) (hn : n ≤ 1048576) (h1 : 0 ≤ m) (h2 : m ≤ 40000000) (hy : y = m + 4 * n) :
    Calls Try.prog 56 #[.agg #[.int .i64 x, .slice a n cap], .int .i64 m] w fun e w' => e = .returned (.int .i64 y) ∧ Below w.heap.size w w' := by
  have HT := Lib.hid (heldPlaces a n cap m y (w.alloc (.cells #[.int .i64 x, .slice a n cap] 26)) (h.below (b_alloc w _)) hn h1 h2 hy)
  have hy0 : 0 ≤ y := by omega
  clear h hy
  go_enter Try.func56, Try.ntmps56
  go_wp2_with fail
  refine (HT.out).mono ?_
  rintro e w2 ⟨rfl, rfl⟩
  go_wp2
  go_ret
  exact ⟨rfl, b_alloc _ _⟩
end V
end Go.Proofs.Ytphobmddkphofaa

namespace Go.Proofs.Ytphobmddkphofaa.V
open Go.RowKit

theorem retB {a b : Bool} (h : a = b) : Ending.returned (.bool a) = .returned (.bool b) := by rw [h]
theorem retI {a b : Int} {k : IntKind} (h : a = b) : Ending.returned (.int k a) = .returned (.int k b) := by rw [h]
theorem retI2 {a b c d : Int} {k l : IntKind} (h : a = c) (h' : b = d) : Ending.returned (.tuple #[.int k a, .int l b]) = .returned (.tuple #[.int k c, .int l d]) := by rw [h, h']
theorem retP {a b : Int} {p : Int × Int} {k l : IntKind} (h : p = (a, b)) : Ending.returned (.tuple #[.int k a, .int l b]) = .returned (.tuple #[.int k p.1, .int l p.2]) := by rw [h]

set_option maxRecDepth 100000 in
set_option maxHeartbeats 400000 in
theorem sIn (a b c : Int) (w : World) : Calls Try.prog 89 #[.int .i64 a, .int .i64 b, .int .i64 c] w fun e w' => e = .returned (.bool (decide (b ≤ a) && decide (a ≤ c))) ∧ w = w' := by
  go_enter Try.func89, Try.ntmps89
  go_wp2
  all_goals
    go_ret
    refine ⟨retB ?_, rfl⟩
    grind

set_option maxRecDepth 100000 in
set_option maxHeartbeats 400000 in
theorem sFinite (a : Int) (w : World) : Calls Try.prog 168 #[.int .i64 a] w fun e w' => e = .returned (.bool (M.isFin a)) ∧ w = w' := by
  go_enter Try.func168, Try.ntmps168
  go_wp2_with (first | (go_at_call 89; refine (sIn _ _ _ _).mono ?_; rintro e w' ⟨rfl, rfl⟩))
  all_goals
    go_ret
    exact ⟨retB (by unfold M.isFin; grind), rfl⟩

set_option maxRecDepth 100000 in
set_option maxHeartbeats 400000 in
theorem sIsValue (a : Int) (w : World) : Calls Try.prog 148 #[.int .i64 a] w fun e w' => e = .returned (.bool (M.isVal a)) ∧ w = w' := by
  go_enter Try.func148, Try.ntmps148
  go_wp2_with (first | (go_at_call 168; refine (sFinite _ _).mono ?_; rintro e w' ⟨rfl, rfl⟩))
  all_goals
    go_ret
    refine ⟨retB ?_, rfl⟩
    unfold M.isVal
    grind

end Go.Proofs.Ytphobmddkphofaa.V

namespace Go.Proofs.Ytphobmddkphofaa
namespace M
def inB (x lo hi : Int) : Bool := decide (lo ≤ x) && decide (x ≤ hi)
/-- A place whose events are at most m. -/
def plW (m : Int) (p : Pc) : Bool := inB p.1 0 m && (inB p.2.1 0 m && (inB p.2.2.1 0 1000 && inB p.2.2.2 0 5))
def isGr (e : Int) (l : List Pc) : Bool := inB e 1 10 && (decide (l.length ≤ 30) && l.all (plW (e - 1)))
theorem all_at {p : Pc → Bool} {l : List Pc} (h : l.all p = true) {i : Nat} (hi : i < l.length) : p (l.getD i pz) = true := by
  rw [List.getD_eq_getElem?_getD, List.getElem?_eq_getElem hi]
  exact List.all_eq_true.1 h _ (List.getElem_mem hi)
theorem all_of {p : Pc → Bool} {l : List Pc} (h : ∀ i, i < l.length → p (l.getD i pz) = true) : l.all p = true := by
  rw [List.all_eq_true]
  intro x hx
  obtain ⟨i, hi, rfl⟩ := List.mem_iff_getElem.1 hx
  have := h i hi
  rw [List.getD_eq_getElem?_getD, List.getElem?_eq_getElem hi] at this
  exact this
theorem all_no {p : Pc → Bool} {l : List Pc} {i : Nat} (hi : i < l.length) (h : p (l.getD i pz) = false) : l.all p = false := by
  cases e : l.all p with
  | false => rfl
  | true => rw [all_at e hi] at h; cases h
end M
namespace V
set_option maxRecDepth 100000
open Go.RowKit
set_option maxRecDepth 100000 in
set_option maxHeartbeats 400000 in
theorem sPlace (p0 p1 p2 p3 x : Int) (w : World) :
    Calls Try.prog 117 #[.agg #[.int .i64 p0, .int .i64 p1, .int .i64 p2, .int .i64 p3], .int .i64 x] w fun e w' => e = .returned (.bool (M.plW (wrap64 (x - 1)) (p0, p1, p2, p3))) ∧ Below w.heap.size w w' := by
  obtain ⟨m, hm⟩ : ∃ m, m = wrap64 (x - 1) := ⟨_, rfl⟩
  have hm2 : wrap64 (x - 1) = m := hm.symm
  rw [hm2]
  show Calls _ _ _ _ fun e w' => e = .returned (.bool ((decide (0 ≤ p0) && decide (p0 ≤ m)) && ((decide (0 ≤ p1) && decide (p1 ≤ m)) && ((decide (0 ≤ p2) && decide (p2 ≤ 1000)) && (decide (0 ≤ p3) && decide (p3 ≤ 5)))))) ∧ Below w.heap.size w w'
  clear hm
  cases h0 : (decide (0 ≤ p0) && decide (p0 ≤ m)) with
  | false =>
    go_enter Try.func117, Try.ntmps117
    go_wp2_with (first | (go_at_call 89; refine (sIn _ _ _ _).mono ?_; rintro e w' ⟨rfl, rfl⟩))
    go_ret
    exact ⟨rfl, b_alloc _ _⟩
  | true =>
    cases h1 : (decide (0 ≤ p1) && decide (p1 ≤ m)) with
    | false =>
      go_enter Try.func117, Try.ntmps117
      go_wp2_with (first | (go_at_call 89; refine (sIn _ _ _ _).mono ?_; rintro e w' ⟨rfl, rfl⟩))
      go_ret
      exact ⟨rfl, b_alloc _ _⟩
    | true =>
      cases h2 : (decide (0 ≤ p2) && decide (p2 ≤ 1000)) with
      | false =>
        go_enter Try.func117, Try.ntmps117
        go_wp2_with (first | (go_at_call 89; refine (sIn _ _ _ _).mono ?_; rintro e w' ⟨rfl, rfl⟩))
        go_ret
        exact ⟨rfl, b_alloc _ _⟩
      | true =>
        cases h3 : (decide (0 ≤ p3) && decide (p3 ≤ 5)) with
        | false =>
          go_enter Try.func117, Try.ntmps117
          go_wp2_with (first | (go_at_call 89; refine (sIn _ _ _ _).mono ?_; rintro e w' ⟨rfl, rfl⟩))
          go_ret
          exact ⟨rfl, b_alloc _ _⟩
        | true =>
          go_enter Try.func117, Try.ntmps117
          go_wp2_with (first | (go_at_call 89; refine (sIn _ _ _ _).mono ?_; rintro e w' ⟨rfl, rfl⟩))
          go_ret
          exact ⟨rfl, b_alloc _ _⟩
set_option maxRecDepth 100000 in
set_option maxHeartbeats 400000 in
theorem isUpTo (x m : Int) (w : World) : Calls Try.prog 84 #[.int .i64 x, .int .i64 m] w fun e w' => e = .returned (.bool (M.inB x 0 m)) ∧ w = w' := by
  unfold M.inB
  by_cases h : 0 ≤ x
  · rw [decide_eq_true h, Bool.true_and]
    go_enter Try.func84, Try.ntmps84
    go_wp2
    go_ret
    exact ⟨rfl, rfl⟩
  · rw [decide_eq_false h, Bool.false_and]
    go_enter Try.func84, Try.ntmps84
    go_wp2
    go_ret
    exact ⟨rfl, rfl⟩
set_option maxRecDepth 100000 in
set_option maxHeartbeats 400000 in
theorem hasEvent (x : Int) (a : Option Addr) (n cap : Nat) (y : Int) (w : World) : Calls Try.prog 106 #[.agg #[.int .i64 x, .slice a n cap], .int .i64 y] w fun e w' => e = .returned (.bool (M.inB y 0 (wrap64 (x - 1)))) ∧ Below w.heap.size w w' := by
  obtain ⟨m, hm⟩ : ∃ m, m = wrap64 (x - 1) := ⟨_, rfl⟩
  have hm2 : wrap64 (x - 1) = m := hm.symm
  rw [hm2]
  clear hm
  go_enter Try.func106, Try.ntmps106
  go_wp2_with (go_at_call 84; refine (isUpTo y m _).mono ?_; rintro e w' ⟨rfl, rfl⟩)
  go_ret
  exact ⟨rfl, b_alloc _ _⟩
end V
end Go.Proofs.Ytphobmddkphofaa
