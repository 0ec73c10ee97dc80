/- Texts laid together: Help, Rows0, Own, Gra, Mat0, Mat1. -/
import Derived.Test.YtlofnadpgnbmdaaGreatRows
import Derived.Test.YtlofnadpgnbmdaaGreatQa1
import Derived.WalkKit
import Derived.ProofKit
import Derived.WalkSmall
import Derived.Deep.QuietTactic
import Derived.BigQuiet
import Derived.BigRegion
import Derived.Deep.Draws
import Derived.Lib.Hide
import Derived.OpenShut
import Derived.Deep.OwnRows
import Derived.Maps.AppendAt
import Derived.Deep.Onto
import Derived.Deep.AppendLies
import Derived.IntWalk
set_option linter.unusedSimpArgs false
set_option linter.unusedVariables false
set_option linter.unusedSectionVars false
namespace Go.Proofs.YtlofnadpgnbmdaaGreat.V
open Go.RowKit

theorem b_alloc (w : World) (o : Obj) : Below w.heap.size w (w.alloc o) := (Below.refl _ _).alloc (Nat.le_refl _) _
theorem b_draws (w : World) (n : Nat) : Below w.heap.size w (w.drewN n) := below_drewN (Below.refl _ _) n
theorem b_alloc_draws (w : World) (o : Obj) (n : Nat) : Below w.heap.size w ((w.alloc o).drewN n) := below_drewN (b_alloc w o) n

theorem b_ads (w : World) (o : Obj) (n : Nat) (i j : Nat) (u v : Value) : Below w.heap.size w ((((w.alloc o).drewN n).setCell ⟨w.heap.size, i, none⟩ u).setCell ⟨w.heap.size, j, none⟩ v) :=
  ((b_alloc_draws w o n).setCell (Nat.le_refl _) u).setCell (Nat.le_refl _) v
theorem wneg (n g : Int) (a : -1000000000000 ≤ n) (b : n ≤ 1000000000000) : wrap64 (-n.tdiv g) = -n.tdiv g := by
  have := M.tdiv_bdL n g 1000000000000 a b
  exact IntWalk.wrap64_in _ (by omega)
theorem wneg2 (d g : Int) (a : d ≤ 0) : -d / g = -d.tdiv g := by
  rw [← Int.neg_tdiv, Int.tdiv_eq_ediv_of_nonneg (by omega)]
theorem bcell {W w1 : World} (hb : Below W.heap.size W w1) : (∀ b o, b < W.heap.size → w1.cell? ⟨b, o, none⟩ = W.cell? ⟨b, o, none⟩) ∧ (∀ b o, b < W.heap.size → w1.frozen? ⟨b, o, none⟩ = W.frozen? ⟨b, o, none⟩) :=
  ⟨fun b o h => hb.cell (p := ⟨b, o, none⟩) h, fun b o h => hb.frozen (p := ⟨b, o, none⟩) h⟩
theorem b_alloc2 (w : World) (o o' : Obj) : Below w.heap.size w ((w.alloc o).alloc o') := (b_alloc w o).alloc (by simp) _
theorem bel2 {w w1 : World} {o o' : Obj} (hb : Below ((w.alloc o).alloc o').heap.size ((w.alloc o).alloc o') w1) : Below w.heap.size w w1 :=
  (b_alloc2 w o o').trans (hb.mono (by simp; omega))
theorem bel3 {w w1 w2 : World} {o o' : Obj} (hb : Below ((w.alloc o).alloc o').heap.size ((w.alloc o).alloc o') w1) (hb2 : Below w1.heap.size w1 w2) : Below w.heap.size w w2 :=
  (bel2 hb).trans (hb2.mono (bel2 hb).size)
theorem bel1 {w w1 : World} {o : Obj} (hb : Below (w.alloc o).heap.size (w.alloc o) w1) : Below w.heap.size w w1 :=
  (b_alloc w o).trans (hb.mono (by simp))
theorem bel1s {w w1 : World} {o : Obj} {i j : Nat} {u v : Value} (hb : Below (w.alloc o).heap.size (w.alloc o) w1) : Below w.heap.size w ((w1.setCell ⟨w.heap.size, i, none⟩ u).setCell ⟨w.heap.size, j, none⟩ v) :=
  ((bel1 hb).setCell (Nat.le_refl _) u).setCell (Nat.le_refl _) v
theorem bnext {w w1 w2 : World} (h : Below w.heap.size w w1) (hb : Below w1.heap.size w1 w2) : Below w.heap.size w w2 := h.trans (hb.mono h.size)
theorem ck {w1 w2 : World} {a : Addr} {v : Value} (h : w1.cell? a = some v) (hb : Below w1.heap.size w1 w2) : w2.cell? a = some v := by
  have hl : a.block < w1.heap.size := by
    by_cases hl : a.block < w1.heap.size
    · exact hl
    · exfalso
      have e : w1.heap[a.block]? = none := by simp; omega
      simp [World.cell?, e] at h
  rw [hb.cell hl]; exact h
theorem sb {w w1 w2 : World} {A B C D : Prop} (h : A ∧ B ∧ C ∧ D ∧ Below w.heap.size w w1) (hb : Below w1.heap.size w1 w2) : Below w.heap.size w w2 := bnext h.2.2.2.2 hb
theorem sd {w w1 : World} {A B C D : Prop} (h : A ∧ B ∧ C ∧ D ∧ Below w.heap.size w w1) : Below w.heap.size w w1.drew := h.2.2.2.2.drew
theorem kA {w1 w2 : World} {a : Addr} {v : Value} {B : Prop} (h : w1.cell? a = some v ∧ B) (hb : Below w1.heap.size w1 w2) : w2.cell? a = some v := ck h.1 hb
theorem kB {w1 w2 : World} {a : Addr} {v : Value} {A B : Prop} (h : A ∧ w1.cell? a = some v ∧ B) (hb : Below w1.heap.size w1 w2) : w2.cell? a = some v := ck h.2.1 hb
theorem kC {w1 w2 : World} {a : Addr} {v : Value} {A B C : Prop} (h : A ∧ B ∧ w1.cell? a = some v ∧ C) (hb : Below w1.heap.size w1 w2) : w2.cell? a = some v := ck h.2.2.1 hb
theorem kD {w1 w2 : World} {a : Addr} {v : Value} {A B C D : Prop} (h : A ∧ B ∧ C ∧ w1.cell? a = some v ∧ D) (hb : Below w1.heap.size w1 w2) : w2.cell? a = some v := ck h.2.2.2.1 hb
theorem s5 {w w1 : World} {A B C D : Prop} (h : A ∧ B ∧ C ∧ D ∧ Below w.heap.size w w1) : Below w.heap.size w w1 := h.2.2.2.2
theorem vi {a b : Int} {k : IntKind} (h : a = b) : Value.int k a = .int k b := by rw [h]
/-- A call that leaves the world alone, as a region's step. -/
theorem st_of {P : Program} {f : FuncId} {args : Array Value} {w : World} {v : Value} (h : Calls P f args w fun e w' => e = .returned v ∧ w = w') : Calls P f args w fun e w' => e = .returned v ∧ w' = w := by
  refine h.mono ?_
  rintro e w' ⟨he, hw⟩
  exact ⟨he, hw.symm⟩
/-- A quiet call in a world that has drawn before. -/
theorem q_more {P : Program} {f : FuncId} {args : Array Value} {w : World} {a n : Nat} {v : Value} (h : Calls P f args (w.drewN (a + n)) fun e w' => e = .returned v ∧ ∃ q, w' = (w.drewN (a + n)).drewN q) :
    Calls P f args (w.drewN (a + n)) fun e w' => e = .returned v ∧ ∃ m, w' = w.drewN (a + m) := by
  refine h.mono ?_
  rintro e w' ⟨he, q, hq⟩
  exact ⟨he, n + q, by rw [hq, World.drewN_drewN, Nat.add_assoc]⟩
theorem q_more_s {P : Program} {f : FuncId} {args : Array Value} {w : World} {a n : Nat} {v : Value} (h : Calls P f args (w.drewN (a + n)) fun e w' => e = .returned v ∧ w.drewN (a + n) = w') :
    Calls P f args (w.drewN (a + n)) fun e w' => e = .returned v ∧ ∃ m, w' = w.drewN (a + m) := by
  refine h.mono ?_
  rintro e w' ⟨he, hq⟩
  exact ⟨he, n, hq.symm⟩
theorem q_one_s {P : Program} {f : FuncId} {args : Array Value} {w : World} {n : Nat} {v : Value} (h : Calls P f args (w.drewN n) fun e w' => e = .returned v ∧ w.drewN n = w') :
    Calls P f args (w.drewN n) fun e w' => e = .returned v ∧ ∃ m, w' = w.drewN m := by
  refine h.mono ?_
  rintro e w' ⟨he, hq⟩
  exact ⟨he, n, hq.symm⟩
end Go.Proofs.YtlofnadpgnbmdaaGreat.V

namespace Go.Proofs.YtlofnadpgnbmdaaGreat.V
open Go.RowKit

/-- What the walk is told of a slice of integers that came in (the shell's own words). -/
def IsRow (k : IntKind) (w : World) (a : Option Addr) (len cap : Nat) (zs : List Int) : Prop :=
  (a = none ∧ len = 0 ∧ cap = 0 ∧ zs = []) ∨
  ∃ x, a = some x ∧ len ≤ cap ∧ cap ≤ maxLen ∧ zs.length = cap ∧ (∀ i, i < zs.length → w.cell? (x.add i) = some (.int k (zs.getD i 0))) ∧ ∀ n ∈ zs, (Lit.int k n).wf = true

/-- A slice value (address a, length n) whose elements are the list l. -/
def Ints (k : IntKind) (w : World) (a : Option Addr) (n : Nat) (l : List Int) : Prop :=
  l.length = n ∧ n ≤ maxLen ∧ (n = 0 ∨ ∃ b off, a = some ⟨b, off, none⟩ ∧ b < w.heap.size ∧ ∀ i, i < n → w.cell? ⟨b, off + i, none⟩ = some (.int k (l.getD i 0)))

theorem cell_lt {w : World} {a : Addr} {v : Value} (h : w.cell? a = some v) : a.block < w.heap.size := by
  by_cases hl : a.block < w.heap.size
  · exact hl
  · exfalso
    have e : w.heap[a.block]? = none := by simp; omega
    simp [World.cell?, e] at h

theorem IsRow.ints {k : IntKind} {w : World} {a : Option Addr} {len cap : Nat} {zs : List Int} (h : IsRow k w a len cap zs) : Ints k w a len (zs.take len) := by
  rcases h with ⟨rfl, rfl, rfl, rfl⟩ | ⟨x, rfl, hl, hm, hz, hcell, _⟩
  · exact ⟨rfl, Nat.zero_le _, .inl rfl⟩
  · refine ⟨by simp; omega, by omega, ?_⟩
    by_cases h0 : len = 0
    · exact .inl h0
    · obtain ⟨b, off, rfl, hc⟩ := ints_at hcell (by omega)
      refine .inr ⟨b, off, rfl, cell_lt (hc 0 (by omega)), fun i hi => ?_⟩
      rw [hc i (by omega)]
      simp [hi]

theorem Ints.below {k : IntKind} {w w' : World} {a : Option Addr} {n : Nat} {l : List Int} (h : Ints k w a n l) (hb : Below w.heap.size w w') : Ints k w' a n l := by
  obtain ⟨h1, h2, h3⟩ := h
  refine ⟨h1, h2, ?_⟩
  rcases h3 with h3 | ⟨b, off, rfl, hlt, hc⟩
  · exact .inl h3
  · exact .inr ⟨b, off, rfl, by have := hb.size; omega, fun i hi => by rw [hb.cell (p := ⟨b, off + i, none⟩) hlt]; exact hc i hi⟩

end Go.Proofs.YtlofnadpgnbmdaaGreat.V

namespace Go.Proofs.YtlofnadpgnbmdaaGreat.V
open Go.RowKit

theorem info64 : (Tryz.prog.info? 2).map (fun i => (i.zero, i.size, i.bytes)) = some (some (.int .i64 0), 1, 8) := by kernel_rfl
theorem infoS64 : (Tryz.prog.info? 43).map (fun i => (i.zero, i.size, i.bytes)) = some (some (.slice none 0 0), 1, 24) := by kernel_rfl

/-- A slice that the call owns, in blocks from B on, holding the integers l. -/
def Own (w : World) (B : Nat) (v : Value) (l : List Int) : Prop := w.ownsRow B 2 1 v l.length (l.map (Value.int .i64))

theorem own_lt {w : World} {B : Nat} {T : TypeId} {v : Value} {n : Nat} {xs : List Value} (h : w.ownsRow B T 1 v n xs) {k : Nat} (hk : v.ownBlock = some k) : B ≤ k ∧ k < w.heap.size := World.ownsRow.lt h k hk

theorem ownsRow_keep {w w' : World} {B : Nat} {T : TypeId} {v : Value} {n : Nat} {xs : List Value} (h : w.ownsRow B T 1 v n xs) (hk : ∀ k, v.ownBlock = some k → w'.heap[k]? = w.heap[k]?) : w'.ownsRow B T 1 v n xs := by
  obtain ⟨h1, h2⟩ := h
  refine ⟨h1, ?_⟩
  rcases h2 with h2 | ⟨g, cap, cur, hv, hg, hh, r⟩
  · exact .inl h2
  · exact .inr ⟨g, cap, cur, hv, hg, by rw [hk g (by subst hv; rfl)]; exact hh, r⟩
theorem Own.keep {w w' : World} {B : Nat} {v : Value} {l : List Int} (h : Own w B v l) (hk : ∀ k, B ≤ k → k < w.heap.size → w'.heap[k]? = w.heap[k]?) : Own w' B v l :=
  ownsRow_keep h fun k hv => hk k (own_lt h hv).1 (own_lt h hv).2
theorem Own.below {w w' : World} {B : Nat} {v : Value} {l : List Int} (h : Own w B v l) (hb : Below w.heap.size w w') : Own w' B v l :=
  h.keep (fun k _ h2 => hb.block k h2)
theorem Own.mono {w : World} {B B' : Nat} {v : Value} {l : List Int} (h : Own w B v l) (hb : B' ≤ B) : Own w B' v l := World.ownsRow.mono h hb

/-- The form of an owned slice. -/
theorem own_form {w : World} {B : Nat} {T : TypeId} {v : Value} {n : Nat} {xs : List Value} (h : w.ownsRow B T 1 v n xs) : ∃ a cap, v = .slice a n cap ∧ n ≤ cap ∧ cap ≤ maxLen ∧ (0 < n → ∃ g, a = some ⟨g, 0, none⟩ ∧ B ≤ g ∧ g < w.heap.size) := by
  have h' := h
  obtain ⟨h1, h2⟩ := h
  rcases h2 with ⟨hv, h0⟩ | ⟨g, cap, cur, hv, hg, hh, hn, hc, r⟩
  · subst h0; exact ⟨none, 0, hv, Nat.le_refl _, Nat.zero_le _, fun h => by omega⟩
  · subst hv
    exact ⟨_, cap, rfl, hn, hc, fun _ => ⟨g, rfl, hg, (own_lt h' rfl).2⟩⟩

/-- What an owned slice is: a slice of the integers l. -/
theorem Own.ints {w : World} {B : Nat} {v : Value} {l : List Int} (h : Own w B v l) : ∃ a cap, v = .slice a l.length cap ∧ Ints .i64 w a l.length l := by
  have h' := h
  obtain ⟨h1, h2⟩ := h
  rcases h2 with ⟨hv, h0⟩ | ⟨g, cap, cur, hv, hg, hh, hn, hc, r⟩
  · refine ⟨none, 0, by rw [h0]; exact hv, rfl, by omega, .inl h0⟩
  · subst hv
    refine ⟨some ⟨g, 0, none⟩, cap, rfl, rfl, by omega, ?_⟩
    by_cases h0 : l.length = 0
    · exact .inl h0
    · refine .inr ⟨g, 0, rfl, (own_lt h' rfl).2, fun i hi => ?_⟩
      have := World.ownsRow.cellAt h' i (by omega)
      rw [Nat.zero_add, this]
      simp [hi]

theorem Own.ints' {w : World} {B : Nat} {a : Option Addr} {n cap : Nat} {l : List Int} (h : Own w B (.slice a n cap) l) : Ints .i64 w a n l := by
  obtain ⟨a', c', hv, hI⟩ := h.ints
  injection hv with e1 e2 e3
  subst e1 e2
  exact hI

theorem own_lit0 (w : World) (B : Nat) (hB : B ≤ w.heap.size) : Own (w.alloc (.cells #[] 2)) B (.slice (some ⟨w.heap.size, 0, none⟩) 0 0) [] :=
  World.ownsRow_lit w #[] 0 hB (by decide) rfl

theorem own_made (w : World) (B n : Nat) (hB : B ≤ w.heap.size) (hn : n ≤ maxLen) : Own (w.alloc (.cells (madeCells #[.int .i64 0] n) 2)) B (.slice (some ⟨w.heap.size, 0, none⟩) n n) ((List.range n).map fun _ => 0) := by
  have h := World.rowIs_made w (.int .i64 0) n 2
  obtain ⟨c, hb, hs, hc⟩ := h
  refine ⟨by simp, .inr ⟨w.heap.size, n, c, by simp, hB, hb, by simp, hn, by simp [hs], ?_⟩⟩
  apply List.ext_getElem
  · simp [hs]
  · intro i h1 h2
    simp only [List.length_map, List.length_range] at h2
    have := hc i h2
    simp [List.getElem_take]
    rw [Array.getElem?_eq_getElem (by omega)] at this
    exact Option.some.inj this

theorem Own.len {w : World} {B n cap : Nat} {a : Option Addr} {l : List Int} (h : Own w B (.slice a n cap) l) : n = l.length := by
  obtain ⟨a', c, hv, _⟩ := own_form h
  injection hv
theorem Own.frozenAt {w : World} {B g n cap : Nat} {l : List Int} (h : Own w B (.slice (some ⟨g, 0, none⟩) n cap) l) (j : Nat) : w.frozen? ⟨g, j, none⟩ = false := by
  have e := h.len
  subst e
  exact World.ownsRow.frozenAt h j
theorem Own.cellAt {w : World} {B g n cap : Nat} {l : List Int} (h : Own w B (.slice (some ⟨g, 0, none⟩) n cap) l) (j : Nat) (hj : j < n) : w.cell? ⟨g, j, none⟩ = some (.int .i64 (l.getD j 0)) := by
  have e := h.len
  subst e
  rw [World.ownsRow.cellAt h j (by omega)]
  simp [hj]

/-- A store into an owned slice. -/
theorem Own.set {w : World} {B g n cap : Nat} {l : List Int} (h : Own w B (.slice (some ⟨g, 0, none⟩) n cap) l) (i : Nat) (x : Int) : Own (w.setCell ⟨g, i, none⟩ (.int .i64 x)) B (.slice (some ⟨g, 0, none⟩) n cap) (l.set i x) := by
  have hn : n = l.length := by
    obtain ⟨a, c, hv, _⟩ := own_form h
    injection hv
  subst hn
  have := (World.ownsRow.stored h i (.int .i64 x)).1
  unfold Own
  simpa [List.map_set] using this
end Go.Proofs.YtlofnadpgnbmdaaGreat.V

namespace Go.Proofs.YtlofnadpgnbmdaaGreat
namespace M
/-- From, To, Delay, Tokens. -/
abbrev Pc := Int × Int × Int × Int
def pz : Pc := (0, 0, 0, 0)
def pf (p : Pc) (j : Nat) : Int := if j = 0 then p.1 else if j = 1 then p.2.1 else if j = 2 then p.2.2.1 else p.2.2.2
def setP (p : Pc) (j : Nat) (x : Int) : Pc := if j = 0 then (x, p.2.1, p.2.2.1, p.2.2.2) else if j = 1 then (p.1, x, p.2.2.1, p.2.2.2) else if j = 2 then (p.1, p.2.1, x, p.2.2.2) else (p.1, p.2.1, p.2.2.1, x)
theorem pf_set (p : Pc) (x : Int) {j k : Nat} (hj : j < 4) (hk : k < 4) : pf (setP p j x) k = if k = j then x else pf p k := by
  have h1 : j = 0 ∨ j = 1 ∨ j = 2 ∨ j = 3 := by omega
  have h2 : k = 0 ∨ k = 1 ∨ k = 2 ∨ k = 3 := by omega
  rcases h1 with rfl | rfl | rfl | rfl <;> rcases h2 with rfl | rfl | rfl | rfl <;> rfl
/-- One number of a place is changed. -/
def stF (l : List Pc) (i j : Nat) (x : Int) : List Pc := l.set i (setP (l.getD i pz) j x)
theorem stF_len (l : List Pc) (i j : Nat) (x : Int) : (stF l i j x).length = l.length := by simp [stF]
end M
namespace V
set_option maxRecDepth 100000
open Go.RowKit
theorem infoP : (Tryz.prog.info? 71).map (fun i => (i.zero, i.size, i.bytes)) = some (some (.agg #[.int .i64 0, .int .i64 0, .int .i64 0, .int .i64 0]), 4, 32) := by kernel_rfl
/-- A place by value. -/
def pV (p : M.Pc) : Value := .agg #[.int .i64 p.1, .int .i64 p.2.1, .int .i64 p.2.2.1, .int .i64 p.2.2.2]
/-- Four cells a place. -/
def pcells (l : List M.Pc) : List Value := (List.range (l.length * 4)).map fun q => Value.int .i64 (M.pf (l.getD (q / 4) M.pz) (q % 4))
theorem pcells_len (l : List M.Pc) : (pcells l).length = l.length * 4 := by simp [pcells]
theorem pcells_get (l : List M.Pc) {q : Nat} (hq : q < l.length * 4) : (pcells l)[q]? = some (.int .i64 (M.pf (l.getD (q / 4) M.pz) (q % 4))) := by
  unfold pcells
  rw [List.getElem?_map, List.getElem?_range hq]
  rfl
theorem pcells_at (l : List M.Pc) {i : Nat} (hi : i < l.length) : (pcells l)[i * 4]? = some (.int .i64 (l.getD i M.pz).1) ∧ (pcells l)[i * 4 + 1]? = some (.int .i64 (l.getD i M.pz).2.1) ∧ (pcells l)[i * 4 + 2]? = some (.int .i64 (l.getD i M.pz).2.2.1) ∧ (pcells l)[i * 4 + 3]? = some (.int .i64 (l.getD i M.pz).2.2.2) := by
  refine ⟨?_, ?_, ?_, ?_⟩
  · rw [pcells_get l (by omega), show i * 4 / 4 = i by omega, show i * 4 % 4 = 0 by omega]; rfl
  · rw [pcells_get l (by omega), show (i * 4 + 1) / 4 = i by omega, show (i * 4 + 1) % 4 = 1 by omega]; rfl
  · rw [pcells_get l (by omega), show (i * 4 + 2) / 4 = i by omega, show (i * 4 + 2) % 4 = 2 by omega]; rfl
  · rw [pcells_get l (by omega), show (i * 4 + 3) / 4 = i by omega, show (i * 4 + 3) % 4 = 3 by omega]; rfl
theorem pcells_ext {l : List M.Pc} {xs : List Value} (hl : xs.length = l.length * 4) (h : ∀ q, q < l.length * 4 → xs[q]? = some (.int .i64 (M.pf (l.getD (q / 4) M.pz) (q % 4)))) : xs = pcells l := by
  apply List.ext_getElem?
  intro q
  by_cases hq : q < l.length * 4
  · rw [h q hq, pcells_get l hq]
  · rw [List.getElem?_eq_none (by omega), List.getElem?_eq_none (by rw [pcells_len]; omega)]
theorem pcells_app (l k : List M.Pc) : pcells (l ++ k) = pcells l ++ pcells k := by
  refine (pcells_ext (by rw [List.length_append, pcells_len, pcells_len, List.length_append]; omega) fun q hq => ?_).symm
  rw [List.length_append] at hq
  by_cases h : q < l.length * 4
  · rw [List.getElem?_append_left (by rw [pcells_len]; exact h), pcells_get l h, List.getD_eq_getElem?_getD, List.getD_eq_getElem?_getD, List.getElem?_append_left (by omega)]
  · rw [List.getElem?_append_right (by rw [pcells_len]; omega), pcells_len, pcells_get k (by omega), List.getD_eq_getElem?_getD, List.getD_eq_getElem?_getD, List.getElem?_append_right (by omega), show (q - l.length * 4) / 4 = q / 4 - l.length by omega, show (q - l.length * 4) % 4 = q % 4 by omega]
theorem pcells_one (p : M.Pc) : pcells [p] = [.int .i64 p.1, .int .i64 p.2.1, .int .i64 p.2.2.1, .int .i64 p.2.2.2] := by
  simp [pcells, M.pf, List.range_succ]
theorem pcells_set {l : List M.Pc} {i j : Nat} (x : Int) (hi : i < l.length) (hj : j < 4) : (pcells l).set (i * 4 + j) (.int .i64 x) = pcells (l.set i (M.setP (l.getD i M.pz) j x)) := by
  refine pcells_ext (by rw [List.length_set, pcells_len, List.length_set]) fun q hq => ?_
  rw [List.length_set] at hq
  by_cases h : q = i * 4 + j
  · subst h
    rw [List.getElem?_set_self (by rw [pcells_len]; omega), show (i * 4 + j) / 4 = i by omega, show (i * 4 + j) % 4 = j by omega, List.getD_eq_getElem?_getD, List.getElem?_set_self hi]
    show some (Value.int _ _) = some (.int .i64 (M.pf (M.setP _ j x) j))
    rw [M.pf_set _ _ hj hj, if_pos rfl]
  · rw [List.getElem?_set_ne (Ne.symm h), pcells_get l hq]
    by_cases h2 : q / 4 = i
    · rw [h2]
      have e : (l.set i (M.setP (l.getD i M.pz) j x)).getD i M.pz = M.setP (l.getD i M.pz) j x := by rw [List.getD_eq_getElem?_getD, List.getElem?_set_self hi]; rfl
      rw [e]
      show some (Value.int _ _) = some (.int .i64 (M.pf (M.setP _ j x) (q % 4)))
      rw [M.pf_set _ _ hj (by omega), if_neg (by omega)]
    · rw [List.getD_eq_getElem?_getD, List.getD_eq_getElem?_getD, List.getElem?_set_ne (Ne.symm h2)]
/-- A slice of places that is read. -/
def Pls (w : World) (a : Option Addr) (n : Nat) (l : List M.Pc) : Prop :=
  l.length = n ∧ n ≤ maxLen ∧ (n = 0 ∨ ∃ b off, a = some ⟨b, off, none⟩ ∧ b < w.heap.size ∧ ∀ i, i < n → w.cell? ⟨b, off + i * 4, none⟩ = some (.int .i64 (l.getD i M.pz).1) ∧ w.cell? ⟨b, off + i * 4 + 1, none⟩ = some (.int .i64 (l.getD i M.pz).2.1) ∧ w.cell? ⟨b, off + i * 4 + 2, none⟩ = some (.int .i64 (l.getD i M.pz).2.2.1) ∧ w.cell? ⟨b, off + i * 4 + 3, none⟩ = some (.int .i64 (l.getD i M.pz).2.2.2))
theorem Pls.below {w w' : World} {a : Option Addr} {n : Nat} {l : List M.Pc} (h : Pls w a n l) (hb : Below w.heap.size w w') : Pls w' a n l := by
  obtain ⟨h1, h2, h3⟩ := h
  refine ⟨h1, h2, h3.imp id ?_⟩
  rintro ⟨b, off, rfl, hlt, hc⟩
  refine ⟨b, off, rfl, Nat.lt_of_lt_of_le hlt hb.size, fun i hi => ?_⟩
  obtain ⟨c0, c1, c2, c3⟩ := hc i hi
  exact ⟨(hb.cell (p := ⟨b, _, none⟩) hlt).trans c0, (hb.cell (p := ⟨b, _, none⟩) hlt).trans c1, (hb.cell (p := ⟨b, _, none⟩) hlt).trans c2, (hb.cell (p := ⟨b, _, none⟩) hlt).trans c3⟩
theorem Pls.at {w : World} {a : Option Addr} {n : Nat} {l : List M.Pc} (h : Pls w a n l) (i : Nat) (hi : i < n) : ∃ b off p0 p1 p2 p3, a = some ⟨b, off, none⟩ ∧ b < w.heap.size ∧ l.getD i M.pz = (p0, p1, p2, p3) ∧ w.cell? ⟨b, off + i * 4, none⟩ = some (.int .i64 p0) ∧ w.cell? ⟨b, off + i * 4 + 1, none⟩ = some (.int .i64 p1) ∧ w.cell? ⟨b, off + i * 4 + 2, none⟩ = some (.int .i64 p2) ∧ w.cell? ⟨b, off + i * 4 + 3, none⟩ = some (.int .i64 p3) := by
  obtain ⟨h1, h2, h3⟩ := h
  rcases h3 with h3 | ⟨b, off, rfl, hlt, hc⟩
  · omega
  · obtain ⟨c0, c1, c2, c3⟩ := hc i hi
    exact ⟨b, off, _, _, _, _, rfl, hlt, rfl, c0, c1, c2, c3⟩
/-- A slice that the call owns, in blocks from B on, holding the places l. -/
def OwnPl (w : World) (B : Nat) (v : Value) (l : List M.Pc) : Prop := w.ownsRow B 71 4 v l.length (pcells l)
theorem OwnPl.lt {w : World} {B : Nat} {v : Value} {l : List M.Pc} (h : OwnPl w B v l) {k : Nat} (hk : v.ownBlock = some k) : B ≤ k ∧ k < w.heap.size := World.ownsRow.lt h k hk
theorem OwnPl.keepB {w w' : World} {B : Nat} {v : Value} {l : List M.Pc} (h : OwnPl w B v l) (hk : ∀ k, v.ownBlock = some k → w'.heap[k]? = w.heap[k]?) : OwnPl w' B v l := by
  obtain ⟨h1, h2⟩ := h
  refine ⟨h1, ?_⟩
  rcases h2 with h2 | ⟨g, cap, cur, hv, hg, hh, r⟩
  · exact .inl h2
  · exact .inr ⟨g, cap, cur, hv, hg, by rw [hk g (by subst hv; rfl)]; exact hh, r⟩
theorem OwnPl.keep {w w' : World} {B : Nat} {v : Value} {l : List M.Pc} (h : OwnPl w B v l) (hk : ∀ k, B ≤ k → k < w.heap.size → w'.heap[k]? = w.heap[k]?) : OwnPl w' B v l :=
  h.keepB fun k hv => hk k (h.lt hv).1 (h.lt hv).2
theorem OwnPl.below {w w' : World} {B : Nat} {v : Value} {l : List M.Pc} (h : OwnPl w B v l) (hb : Below w.heap.size w w') : OwnPl w' B v l := h.keep (fun k _ h2 => hb.block k h2)
theorem OwnPl.mono {w : World} {B B' : Nat} {v : Value} {l : List M.Pc} (h : OwnPl w B v l) (hb : B' ≤ B) : OwnPl w B' v l := World.ownsRow.mono h hb
theorem OwnPl.form {w : World} {B : Nat} {v : Value} {l : List M.Pc} (h : OwnPl w B v l) : ∃ a cap, v = .slice a l.length cap ∧ l.length ≤ cap ∧ cap ≤ maxLen ∧ (0 < l.length → ∃ g, a = some ⟨g, 0, none⟩ ∧ B ≤ g ∧ g < w.heap.size) := by
  have h' := h
  obtain ⟨h1, h2⟩ := h
  rcases h2 with ⟨hv, h0⟩ | ⟨g, cap, cur, hv, hg, hh, hn, hc, r⟩
  · rw [h0]; exact ⟨none, 0, hv, Nat.le_refl _, Nat.zero_le _, fun h => by omega⟩
  · subst hv
    exact ⟨_, cap, rfl, hn, hc, fun _ => ⟨g, rfl, hg, (OwnPl.lt h' rfl).2⟩⟩
theorem OwnPl.len {w : World} {B n cap : Nat} {a : Option Addr} {l : List M.Pc} (h : OwnPl w B (.slice a n cap) l) : n = l.length := by
  obtain ⟨a', c, hv, _⟩ := h.form
  injection hv
theorem ownPl_nil (w : World) (B : Nat) : OwnPl w B (.slice none 0 0) [] := World.ownsRow_nil w B _ 4
theorem OwnPl.pls {w : World} {B n cap : Nat} {a : Option Addr} {l : List M.Pc} (h : OwnPl w B (.slice a n cap) l) : Pls w a n l := by
  have e := h.len
  obtain ⟨a', c', hv, hc, hm, hg⟩ := h.form
  injection hv with e1 e2 e3
  subst e1 e3
  refine ⟨e.symm, by omega, ?_⟩
  by_cases h0 : n = 0
  · exact .inl h0
  · obtain ⟨g, rfl, hB, hlt⟩ := hg (by omega)
    refine .inr ⟨g, 0, rfl, hlt, fun i hi => ?_⟩
    have hcl := World.ownsRow.cells h (g := g) rfl
    obtain ⟨r0, r1, r2, r3⟩ := pcells_at l (i := i) (by omega)
    have ad : ∀ j, (⟨g, 0, none⟩ : Addr).add j = ⟨g, 0 + j, none⟩ := fun j => by unfold Addr.add; split <;> simp_all
    have c0 := hcl _ _ r0
    have c1 := hcl _ _ r1
    have c2 := hcl _ _ r2
    have c3 := hcl _ _ r3
    rw [ad] at c0 c1 c2 c3
    exact ⟨c0, c1, c2, c3⟩
theorem OwnPl.frozenAt {w : World} {B g n cap : Nat} {l : List M.Pc} (h : OwnPl w B (.slice (some ⟨g, 0, none⟩) n cap) l) (j : Nat) : w.frozen? ⟨g, j, none⟩ = false := by
  have e := h.len
  subst e
  exact World.ownsRow.frozenAt h j
theorem OwnPl.setF {w : World} {B g n cap : Nat} {l : List M.Pc} (h : OwnPl w B (.slice (some ⟨g, 0, none⟩) n cap) l) {i j : Nat} (x : Int) (hi : i < n) (hj : j < 4) : OwnPl (w.setCell ⟨g, i * 4 + j, none⟩ (.int .i64 x)) B (.slice (some ⟨g, 0, none⟩) n cap) (M.stF l i j x) := by
  have e := h.len
  subst e
  have := (World.ownsRow.stored h (i * 4 + j) (.int .i64 x)).1
  rw [pcells_set x hi hj] at this
  show World.ownsRow _ _ _ _ _ (M.stF l i j x).length _
  rw [M.stF_len]
  exact this
theorem replicate_get (n i : Nat) : (List.replicate n M.pz).getD i M.pz = M.pz := by
  rw [List.getD_eq_getElem?_getD, List.getElem?_replicate]
  split <;> rfl
/-- A new list of zero places. -/
theorem ownPl_made (w : World) (B n : Nat) (hB : B ≤ w.heap.size) (hn : n ≤ maxLen) : OwnPl (w.alloc (.cells (madeCells #[.int .i64 0, .int .i64 0, .int .i64 0, .int .i64 0] (n * 4)) 71)) B (.slice (some ⟨w.heap.size, 0, none⟩) n n) (List.replicate n M.pz) := by
  have hs : (madeCells #[Value.int .i64 0, .int .i64 0, .int .i64 0, .int .i64 0] (n * 4)).size = n * 4 := size_madeCells _ _
  refine ⟨by rw [pcells_len], .inr ⟨w.heap.size, n, _, by simp, hB, heap_alloc_new w _, by simp, hn, hs, ?_⟩⟩
  refine pcells_ext (by simp [hs]) fun q hq => ?_
  simp only [List.length_replicate] at hq
  rw [List.getElem?_take, if_pos (by simpa using hq), Array.getElem?_toList, replicate_get]
  have h4 : q % 4 = 0 ∨ q % 4 = 1 ∨ q % 4 = 2 ∨ q % 4 = 3 := by omega
  have hz : M.pf M.pz (q % 4) = 0 := by rcases h4 with e | e | e | e <;> rw [e] <;> rfl
  rw [hz]
  unfold madeCells
  rw [Array.getElem?_map, Array.getElem?_range, if_pos hq]
  have hs4 : (#[Value.int .i64 0, .int .i64 0, .int .i64 0, .int .i64 0] : Array Value).size = 4 := rfl
  rw [hs4]
  rcases h4 with e | e | e | e <;> rw [Option.map_some] <;> simp [e]
end V
end Go.Proofs.YtlofnadpgnbmdaaGreat

namespace Go.Proofs.YtlofnadpgnbmdaaGreat.V
open Go.RowKit

/-- A slice value (address a, length n) whose elements are slices that read as the rows R. -/
def Mat (w : World) (a : Option Addr) (n : Nat) (R : List (List Int)) : Prop :=
  R.length = n ∧ n ≤ maxLen ∧ (n = 0 ∨ ∃ b off, a = some ⟨b, off, none⟩ ∧ b < w.heap.size ∧ ∀ i, i < n → ∃ ra rc, w.cell? ⟨b, off + i, none⟩ = some (.slice ra (R.getD i []).length rc) ∧ Ints .i64 w ra (R.getD i []).length (R.getD i []))

theorem Mat.below {w w' : World} {a : Option Addr} {n : Nat} {R : List (List Int)} (h : Mat w a n R) (hb : Below w.heap.size w w') : Mat w' a n R := by
  obtain ⟨h1, h2, h3⟩ := h
  refine ⟨h1, h2, ?_⟩
  rcases h3 with h3 | ⟨b, off, rfl, hlt, hc⟩
  · exact .inl h3
  · refine .inr ⟨b, off, rfl, by have := hb.size; omega, fun i hi => ?_⟩
    obtain ⟨ra, rc, hr, hI⟩ := hc i hi
    exact ⟨ra, rc, by rw [hb.cell (p := ⟨b, off + i, none⟩) hlt]; exact hr, hI.below hb⟩

/-- One row of a matrix that is read. -/
theorem Mat.at {w : World} {a : Option Addr} {n : Nat} {R : List (List Int)} (h : Mat w a n R) (i : Nat) (hi : i < n) :
    ∃ b off ra rc L l, a = some ⟨b, off, none⟩ ∧ b < w.heap.size ∧ l = R.getD i [] ∧ w.cell? ⟨b, off + i, none⟩ = some (.slice ra L rc) ∧ Ints .i64 w ra L l := by
  obtain ⟨h1, h2, h3⟩ := h
  rcases h3 with h3 | ⟨b, off, rfl, hlt, hc⟩
  · omega
  · obtain ⟨ra, rc, hr, hI⟩ := hc i hi
    exact ⟨b, off, ra, rc, _, _, rfl, hlt, rfl, hr, hI⟩

theorem Ints.at {k : IntKind} {w : World} {a : Option Addr} {n : Nat} {l : List Int} (h : Ints k w a n l) (i : Nat) (hi : i < n) :
    ∃ b off x, a = some ⟨b, off, none⟩ ∧ b < w.heap.size ∧ x = l.getD i 0 ∧ w.cell? ⟨b, off + i, none⟩ = some (.int k x) := by
  obtain ⟨h1, h2, h3⟩ := h
  rcases h3 with h3 | ⟨b, off, rfl, hlt, hc⟩
  · omega
  · exact ⟨b, off, _, rfl, hlt, rfl, hc i hi⟩

/-- One entry of a matrix that is read. -/
theorem Mat.ent {w : World} {a : Option Addr} {n : Nat} {R : List (List Int)} (h : Mat w a n R) (i j : Nat) (hi : i < n) (hj : j < (R.getD i []).length) :
    ∃ b off rb ro L rc x, a = some ⟨b, off, none⟩ ∧ L = (R.getD i []).length ∧ x = (R.getD i []).getD j 0 ∧ w.cell? ⟨b, off + i, none⟩ = some (.slice (some ⟨rb, ro, none⟩) L rc) ∧ w.cell? ⟨rb, ro + j, none⟩ = some (.int .i64 x) := by
  obtain ⟨b, off, ra, rc, L, l, rfl, _, rfl, hc, hI⟩ := h.at i hi
  have hL := hI.1
  obtain ⟨rb, ro, x, rfl, _, hx, hc2⟩ := hI.at j (by omega)
  exact ⟨b, off, rb, ro, L, rc, x, rfl, hL.symm, hx, hc, hc2⟩
/-- A rectangle: n rows of length L. -/
def Rect (R : List (List Int)) (n L : Nat) : Prop := R.length = n ∧ ∀ i, i < n → (R.getD i []).length = L
theorem rect_mk (m n : Nat) (f : Nat → Nat → Int) : Rect (M.mk m n f) m n := ⟨by simp, fun i hi => M.mk_rowlen m n f i hi⟩
theorem rect_mat {R : List (List Int)} (h : M.isMat R = true) : Rect R R.length (M.wid R) := ⟨rfl, fun _ hi => M.isMat_len h hi⟩
theorem Rect.wid {R : List (List Int)} {n L : Nat} (h : Rect R n L) (hn : 0 < n) : M.wid R = L := h.2 0 hn
/-- One row of a rectangle. -/
theorem Mat.rect_at {w : World} {a : Option Addr} {n L : Nat} {R : List (List Int)} (h : Mat w a n R) (hr : Rect R n L) (i : Nat) (hi : i < n) :
    ∃ b off ra rc, a = some ⟨b, off, none⟩ ∧ b < w.heap.size ∧ w.cell? ⟨b, off + i, none⟩ = some (.slice ra L rc) ∧ Ints .i64 w ra L (R.getD i []) := by
  obtain ⟨b, off, ra, rc, L', l, rfl, hb, rfl, hc, hI⟩ := h.at i hi
  have e : L' = L := by rw [← hI.1]; exact hr.2 i hi
  subst e
  exact ⟨b, off, ra, rc, rfl, hb, hc, hI⟩
theorem Mat.rect_first {w : World} {a : Option Addr} {n L : Nat} {R : List (List Int)} (h : Mat w a n R) (hr : Rect R n L) (hn : 0 < n) :
    ∃ b off ra rc, a = some ⟨b, off, none⟩ ∧ b < w.heap.size ∧ w.cell? ⟨b, off, none⟩ = some (.slice ra L rc) := by
  obtain ⟨b, off, ra, rc, rfl, hb, hc, _⟩ := h.rect_at hr 0 hn
  exact ⟨b, off, ra, rc, rfl, hb, by simpa using hc⟩
/-- One entry of a rectangle. -/
theorem Mat.rect_ent {w : World} {a : Option Addr} {n L : Nat} {R : List (List Int)} (h : Mat w a n R) (hr : Rect R n L) (i j : Nat) (hi : i < n) (hj : j < L) :
    ∃ b off rb ro rc x, a = some ⟨b, off, none⟩ ∧ x = M.ent R i j ∧ w.cell? ⟨b, off + i, none⟩ = some (.slice (some ⟨rb, ro, none⟩) L rc) ∧ w.cell? ⟨rb, ro + j, none⟩ = some (.int .i64 x) := by
  obtain ⟨b, off, rb, ro, L', rc, x, rfl, hL, hx, h1, h2⟩ := h.ent i j hi (by rw [hr.2 i hi]; exact hj)
  rw [hr.2 i hi] at hL
  subst hL
  exact ⟨b, off, rb, ro, rc, x, rfl, hx, h1, h2⟩

/-- The first row's length. -/
theorem Mat.first {w : World} {a : Option Addr} {n : Nat} {R : List (List Int)} (h : Mat w a n R) (hi : 0 < n) :
    ∃ b off ra L rc, a = some ⟨b, off, none⟩ ∧ L = M.wid R ∧ w.cell? ⟨b, off, none⟩ = some (.slice ra L rc) := by
  obtain ⟨b, off, ra, rc, L, l, rfl, _, hl, hc, hI⟩ := h.at 0 hi
  exact ⟨b, off, ra, L, rc, rfl, by rw [← hI.1, hl]; rfl, by simpa using hc⟩

/-- A slice of slices that the call owns, in blocks from B on, each in a block of its own, holding the rows R; V are the values of its rows. -/
def OwnV (w : World) (B : Nat) (v : Value) (R : List (List Int)) (V : List Value) : Prop :=
  V.length = R.length ∧ w.ownsRow B 43 1 v R.length V ∧ (∀ i, i < R.length → Own w B (V.getD i (.slice none 0 0)) (R.getD i [])) ∧
  (∀ i, i < R.length → ∀ k, (V.getD i (.slice none 0 0)).ownBlock = some k → v.ownBlock ≠ some k) ∧
  ∀ i j, i < R.length → j < R.length → i ≠ j → ∀ k, (V.getD i (.slice none 0 0)).ownBlock = some k → (V.getD j (.slice none 0 0)).ownBlock ≠ some k

def OwnM (w : World) (B : Nat) (v : Value) (R : List (List Int)) : Prop := ∃ V, OwnV w B v R V

theorem OwnM.keep {w w' : World} {B : Nat} {v : Value} {R : List (List Int)} (h : OwnM w B v R) (hk : ∀ k, B ≤ k → k < w.heap.size → w'.heap[k]? = w.heap[k]?) : OwnM w' B v R := by
  obtain ⟨V, h1, h2, h3, h4, h5⟩ := h
  exact ⟨V, h1, ownsRow_keep h2 (fun k hv => hk k (own_lt h2 hv).1 (own_lt h2 hv).2), fun i hi => (h3 i hi).keep hk, h4, h5⟩
theorem OwnM.below {w w' : World} {B : Nat} {v : Value} {R : List (List Int)} (h : OwnM w B v R) (hb : Below w.heap.size w w') : OwnM w' B v R :=
  h.keep (fun k _ h2 => hb.block k h2)
theorem OwnM.mono {w : World} {B B' : Nat} {v : Value} {R : List (List Int)} (h : OwnM w B v R) (hb : B' ≤ B) : OwnM w B' v R := by
  obtain ⟨V, h1, h2, h3, h4, h5⟩ := h
  exact ⟨V, h1, World.ownsRow.mono h2 hb, fun i hi => (h3 i hi).mono hb, h4, h5⟩

theorem OwnM.form {w : World} {B : Nat} {v : Value} {R : List (List Int)} (h : OwnM w B v R) : ∃ a cap, v = .slice a R.length cap ∧ R.length ≤ maxLen := by
  obtain ⟨V, h1, h2, _⟩ := h
  obtain ⟨a, cap, hv, h3, h4, _⟩ := own_form h2
  exact ⟨a, cap, hv, by omega⟩

theorem OwnM.mat {w : World} {B : Nat} {a : Option Addr} {n cap : Nat} {R : List (List Int)} (h : OwnM w B (.slice a n cap) R) : Mat w a n R := by
  obtain ⟨V, h1, h2, h3, h4, h5⟩ := h
  obtain ⟨a', c', hv, hc, hm, hg⟩ := own_form h2
  injection hv with e1 e2 e3
  subst e1 e2 e3
  refine ⟨rfl, by omega, ?_⟩
  by_cases h0 : R.length = 0
  · exact .inl h0
  · obtain ⟨g, rfl, hB, hlt⟩ := hg (by omega)
    refine .inr ⟨g, 0, rfl, hlt, fun i hi => ?_⟩
    obtain ⟨ra, rc, hv, hI⟩ := (h3 i hi).ints
    refine ⟨ra, rc, ?_, hI⟩
    have := World.ownsRow.cellAt h2 i (by omega)
    rw [Nat.zero_add, this, ← hv]
    simp [h1, hi]

theorem OwnM.lt {w : World} {B n cap g o : Nat} {R : List (List Int)} (h : OwnM w B (.slice (some ⟨g, o, none⟩) n cap) R) (_ : True = True) : g < w.heap.size := by
  obtain ⟨V, h1, h2, _⟩ := h
  exact (own_lt h2 (k := g) rfl).2
theorem OwnM.ge {w : World} {B n cap g o : Nat} {R : List (List Int)} (h : OwnM w B (.slice (some ⟨g, o, none⟩) n cap) R) : B ≤ g := by
  obtain ⟨V, h1, h2, _⟩ := h
  exact (own_lt h2 (k := g) rfl).1
theorem OwnM.len {w : World} {B n cap : Nat} {a : Option Addr} {R : List (List Int)} (h : OwnM w B (.slice a n cap) R) : n = R.length := by
  obtain ⟨a', c', hv, _⟩ := h.form
  injection hv
theorem OwnM.outer {w : World} {B n cap g : Nat} {R : List (List Int)} (h : OwnM w B (.slice (some ⟨g, 0, none⟩) n cap) R) (i : Nat) (hi : i < n) : ∃ v, w.cell? ⟨g, i, none⟩ = some v := by
  have e := h.len
  subst e
  obtain ⟨V, h1, h2, _⟩ := h
  rw [World.ownsRow.cellAt h2 i (by omega)]
  exact ⟨V[i]'(by omega), by simp [h1, hi]⟩
theorem OwnM.outerFz {w : World} {B n cap g : Nat} {R : List (List Int)} (h : OwnM w B (.slice (some ⟨g, 0, none⟩) n cap) R) (i : Nat) : w.frozen? ⟨g, i, none⟩ = false := by
  have e := h.len
  subst e
  obtain ⟨V, h1, h2, _⟩ := h
  exact World.ownsRow.frozenAt h2 i

theorem ownM_nil (w : World) (B : Nat) : OwnM w B (.slice none 0 0) [] :=
  ⟨[], rfl, World.ownsRow_nil _ _ _ _, (fun i hi => absurd hi (Nat.not_lt_zero i)), (fun i hi => absurd hi (Nat.not_lt_zero i)), (fun i j hi => absurd hi (Nat.not_lt_zero i))⟩
theorem ownM_lit0 (w : World) (B : Nat) (hB : B ≤ w.heap.size) : OwnM (w.alloc (.cells #[] 43)) B (.slice (some ⟨w.heap.size, 0, none⟩) 0 0) [] :=
  ⟨[], rfl, World.ownsRow_lit w #[] 0 hB (by decide) rfl, (fun i hi => absurd hi (Nat.not_lt_zero i)), (fun i hi => absurd hi (Nat.not_lt_zero i)), (fun i j hi => absurd hi (Nat.not_lt_zero i))⟩

theorem own_nil (w : World) (B : Nat) : Own w B (.slice none 0 0) [] := World.ownsRow_nil _ _ _ _

theorem ownM_made (w : World) (B n : Nat) (hB : B ≤ w.heap.size) (hn : n ≤ maxLen) : OwnM (w.alloc (.cells (madeCells #[.slice none 0 0] n) 43)) B (.slice (some ⟨w.heap.size, 0, none⟩) n n) (List.replicate n []) := by
  have h := World.rowIs_made w (.slice none 0 0) n 43
  obtain ⟨c, hb, hs, hc⟩ := h
  refine ⟨List.replicate n (.slice none 0 0), by simp, ⟨by simp, .inr ⟨w.heap.size, n, c, by simp, hB, hb, by simp, hn, by simp [hs], ?_⟩⟩, ?_, ?_, ?_⟩
  · apply List.ext_getElem
    · simp [hs]
    · intro i h1 h2
      simp only [List.length_replicate] at h2
      have := hc i h2
      simp [List.getElem_take]
      rw [Array.getElem?_eq_getElem (by omega)] at this
      exact Option.some.inj this
  · intro i hi
    simp only [List.length_replicate] at hi
    have e1 : (List.replicate n (Value.slice none 0 0)).getD i (.slice none 0 0) = .slice none 0 0 := by simp [hi]
    have e2 : (List.replicate n ([] : List Int)).getD i [] = [] := by simp [hi]
    rw [e1, e2]
    exact own_nil _ _
  · intro i hi k hk
    simp only [List.length_replicate] at hi
    have e1 : (List.replicate n (Value.slice none 0 0)).getD i (.slice none 0 0) = .slice none 0 0 := by simp [hi]
    rw [e1] at hk
    cases hk
  · intro i j hi hj _ k hk
    simp only [List.length_replicate] at hi
    have e1 : (List.replicate n (Value.slice none 0 0)).getD i (.slice none 0 0) = .slice none 0 0 := by simp [hi]
    rw [e1] at hk
    cases hk

theorem getD_set {α : Type} (l : List α) (i j : Nat) (x d : α) (h : i < l.length) : (l.set i x).getD j d = if j = i then x else l.getD j d := by
  simp only [List.getD_eq_getElem?_getD, List.getElem?_set]
  by_cases e : i = j
  · subst e; simp [h]
  · rw [if_neg e, if_neg (by omega)]

/-- A row of its own is stored into an owned matrix: v keeps its block, and the row lies in blocks that are newer. -/
theorem OwnM.setRow {w w1 : World} {B g n cap : Nat} {R : List (List Int)} {rv : Value} {l : List Int} (h : OwnM w B (.slice (some ⟨g, 0, none⟩) n cap) R) (hb : Below w.heap.size w w1) (hB : B ≤ w.heap.size) (ho : Own w1 w.heap.size rv l) (i : Nat) (hi : i < n) :
    OwnM (w1.setCell ⟨g, i, none⟩ rv) B (.slice (some ⟨g, 0, none⟩) n cap) (R.set i l) := by
  have hlt := h
  obtain ⟨V, h1, h2, h3, h4, h5⟩ := h
  obtain ⟨a', c', hv, hc, hm, hg⟩ := own_form h2
  injection hv with e1 e2 e3
  subst e2 e3
  have hgl := own_lt h2 (k := g) rfl
  have hk : ∀ k, k < w.heap.size → k ≠ g → (w1.setCell ⟨g, i, none⟩ rv).heap[k]? = w.heap[k]? := fun k hk hne => by
    rw [Below.heap_setCell _ _ _ _ hne]; exact hb.block k hk
  have hw1 : w1.ownsRow B 43 1 (.slice (some ⟨g, 0, none⟩) R.length cap) R.length V := ownsRow_keep h2 (fun k hv => hb.block k (own_lt h2 hv).2)
  refine ⟨V.set i rv, by simpa using h1, ?_, ?_, ?_, ?_⟩
  · have := (World.ownsRow.stored hw1 i rv).1
    simpa using this
  · intro j hj
    simp only [List.length_set] at hj
    rw [getD_set _ _ _ _ _ (by omega), getD_set _ _ _ _ _ (by omega)]
    by_cases e : j = i
    · rw [if_pos e, if_pos e]
      exact (ownsRow_keep ho (fun k hv => Below.heap_setCell _ _ _ _ (by have := (own_lt ho hv).1; show k ≠ g; omega)) : Own _ _ _ _).mono hB
    · rw [if_neg e, if_neg e]
      exact ownsRow_keep (h3 j hj) (fun k hv => hk k (own_lt (h3 j hj) hv).2 (fun e => h4 j hj k hv (by rw [e]; rfl)))
  · intro j hj k hk'
    simp only [List.length_set] at hj
    rw [getD_set _ _ _ _ _ (by omega)] at hk'
    by_cases e : j = i
    · rw [if_pos e] at hk'
      have := (own_lt ho hk').1
      intro e2
      simp only [Value.ownBlock, Option.some.injEq] at e2
      omega
    · rw [if_neg e] at hk'
      exact h4 j hj k hk'
  · intro j t hj ht hne k hk'
    simp only [List.length_set] at hj ht
    rw [getD_set _ _ _ _ _ (by omega)] at hk'
    rw [getD_set _ _ _ _ _ (by omega)]
    by_cases e : j = i
    · rw [if_pos e] at hk'
      have e' : ¬ t = i := by omega
      rw [if_neg e']
      intro e2
      have := (own_lt ho hk').1
      have := (own_lt (h3 t ht) e2).2
      omega
    · rw [if_neg e] at hk'
      by_cases e' : t = i
      · rw [if_pos e']
        intro e2
        have := (own_lt ho e2).1
        have := (own_lt (h3 j hj) hk').2
        omega
      · rw [if_neg e']
        exact h5 j t hj ht hne k hk'

/-- What is needed to read and to write the entry at i, j of an owned matrix. -/
theorem OwnM.at {w : World} {B n cap : Nat} {a : Option Addr} {R : List (List Int)} (h : OwnM w B (.slice a n cap) R) (i j : Nat) (hi : i < n) (hj : j < (R.getD i []).length) :
    ∃ g q L c x, a = some ⟨g, 0, none⟩ ∧ B ≤ g ∧ B ≤ q ∧ L = (R.getD i []).length ∧ x = (R.getD i []).getD j 0 ∧ w.cell? ⟨g, i, none⟩ = some (.slice (some ⟨q, 0, none⟩) L c) ∧ w.cell? ⟨q, j, none⟩ = some (.int .i64 x) ∧ w.frozen? ⟨q, j, none⟩ = false ∧
      ∀ y, OwnM (w.setCell ⟨q, j, none⟩ (.int .i64 y)) B (.slice a n cap) (R.set i ((R.getD i []).set j y)) := by
  obtain ⟨V, h1, h2, h3, h4, h5⟩ := h
  obtain ⟨a', c', hv, hc, hm, hg⟩ := own_form h2
  injection hv with e1 e2 e3
  subst e1 e2 e3
  obtain ⟨g, rfl, hBg, hlt⟩ := hg (by omega)
  have hrow := h3 i hi
  obtain ⟨ra, rc, hrv, hrc, hrm, hrg⟩ := own_form hrow
  obtain ⟨q, rfl, hBq, hqlt⟩ := hrg (by omega)
  have hcell := World.ownsRow.cellAt h2 i (by omega)
  have hVi : V[i]? = some (V.getD i (.slice none 0 0)) := by simp [h1, hi]
  have hrow' := hrow
  rw [hrv] at hrow'
  have hcell2 := World.ownsRow.cellAt hrow' j (by omega)
  refine ⟨g, q, _, rc, _, rfl, hBg, hBq, rfl, rfl, ?_, ?_, World.ownsRow.frozenAt hrow' j, fun y => ?_⟩
  · rw [hcell, hVi, hrv]
  · rw [hcell2]
    generalize R.getD i [] = l at hj
    simp [hj]
  · have hqg : q ≠ g := fun e => h4 i hi q (by rw [hrv]; rfl) (by rw [e]; rfl)
    refine ⟨V, by simpa using h1, ?_, ?_, ?_, ?_⟩
    · rw [List.length_set]
      exact ownsRow_keep h2 (fun k hv => Below.heap_setCell _ _ _ _ (by
        simp only [Value.ownBlock, Option.some.injEq] at hv; show k ≠ q; omega))
    · intro t ht
      simp only [List.length_set] at ht
      rw [getD_set _ _ _ _ _ (by omega)]
      by_cases e : t = i
      · subst e
        rw [if_pos rfl, hrv]
        exact Own.set hrow' j y
      · rw [if_neg e]
        refine ownsRow_keep (h3 t ht) (fun k hv => Below.heap_setCell _ _ _ _ ?_)
        show k ≠ q
        intro e2
        subst e2
        exact h5 t i ht hi e k hv (by rw [hrv]; rfl)
    · intro t ht
      simp only [List.length_set] at ht
      exact h4 t ht
    · intro t s ht hs
      simp only [List.length_set] at ht hs
      exact h5 t s ht hs

/-- A row of its own is appended to an owned matrix. -/
theorem OwnV.snoc {w w1 w2 : World} {B q : Nat} {v v' rv : Value} {R : List (List Int)} {V : List Value} {l : List Int} (h : OwnV w B v R V) (hb : Below w.heap.size w w1) (hB : B ≤ w.heap.size) (ho : Own w1 w.heap.size rv l)
    (hw2 : w2.ownsRow B 43 1 v' (R.length + 1) (V ++ [rv])) (hg : ∀ k, k < w1.heap.size → v.ownBlock ≠ some k → w2.heap[k]? = w1.heap[k]?)
    (hvb : v'.ownBlock = v.ownBlock ∨ v'.ownBlock = some q) (hq : w1.heap.size ≤ q) : OwnM w2 B v' (R ++ [l]) := by
  obtain ⟨h1, h2, h3, h4, h5⟩ := h
  have eV : ∀ j, j < R.length → (V ++ [rv]).getD j (.slice none 0 0) = V.getD j (.slice none 0 0) := fun j hj => by
    simp [List.getD_eq_getElem?_getD, List.getElem?_append_left, h1, hj]
  have eV1 : (V ++ [rv]).getD R.length (.slice none 0 0) = rv := by
    simp [List.getD_eq_getElem?_getD, ← h1]
  have eR : ∀ j, j < R.length → (R ++ [l]).getD j [] = R.getD j [] := fun j hj => by
    simp [List.getD_eq_getElem?_getD, List.getElem?_append_left, hj]
  have eR1 : (R ++ [l]).getD R.length [] = l := by
    simp [List.getD_eq_getElem?_getD]
  have hold : ∀ j, j < R.length → ∀ k, (V.getD j (.slice none 0 0)).ownBlock = some k → k < w.heap.size := fun j hj k hk => (own_lt (h3 j hj) hk).2
  have hvn : ∀ k, k < w1.heap.size → v.ownBlock ≠ some k → v'.ownBlock ≠ some k := fun k hk hne => by
    rcases hvb with e | e
    · rw [e]; exact hne
    · rw [e]; intro e2; simp only [Option.some.injEq] at e2; omega
  have hvold : ∀ k, v.ownBlock = some k → k < w.heap.size := fun k hk => (own_lt h2 hk).2
  have hs := hb.size
  refine ⟨V ++ [rv], by simp [h1], by simpa using hw2, ?_, ?_, ?_⟩
  · intro j hj
    simp only [List.length_append, List.length_singleton] at hj
    by_cases e : j < R.length
    · rw [eV j e, eR j e]
      exact ownsRow_keep (h3 j e) (fun k hv => by
        have := hold j e k hv
        rw [hg k (by omega) (h4 j e k hv)]; exact hb.block k this)
    · obtain rfl : j = R.length := by omega
      rw [eV1, eR1]
      refine (ownsRow_keep ho (fun k hv => hg k (own_lt ho hv).2 (fun e2 => ?_)) : Own _ _ _ _).mono hB
      have := (own_lt ho hv).1
      have := hvold k e2
      omega
  · intro j hj k hk
    simp only [List.length_append, List.length_singleton] at hj
    by_cases e : j < R.length
    · rw [eV j e] at hk
      have := hold j e k hk
      exact hvn k (by omega) (h4 j e k hk)
    · obtain rfl : j = R.length := by omega
      rw [eV1] at hk
      have := own_lt ho hk
      exact hvn k this.2 (fun e2 => by have := hvold k e2; omega)
  · intro i j hi hj hne k hk
    simp only [List.length_append, List.length_singleton] at hi hj
    by_cases e : i < R.length
    · rw [eV i e] at hk
      by_cases e2 : j < R.length
      · rw [eV j e2]; exact h5 i j e e2 hne k hk
      · obtain rfl : j = R.length := by omega
        rw [eV1]
        intro e3
        have := hold i e k hk
        have := (own_lt ho e3).1
        omega
    · obtain rfl : i = R.length := by omega
      rw [eV1] at hk
      have e2 : j < R.length := by omega
      rw [eV j e2]
      intro e3
      have := hold j e2 k e3
      have := (own_lt ho hk).1
      omega
end Go.Proofs.YtlofnadpgnbmdaaGreat.V

namespace Go.Proofs.YtlofnadpgnbmdaaGreat.V
open Go.RowKit

set_option maxRecDepth 100000 in
set_option maxHeartbeats 400000 in
theorem eqInts (a : Option Addr) (n cap : Nat) (l : List Int) (a' : Option Addr) (n' cap' : Nat) (l' : List Int) (w : World) (h : Ints .i64 w a n l) (h' : Ints .i64 w a' n' l') (heq : l = l') :
    Calls Tryz.prog 38 #[.slice a n cap, .slice a' n' cap'] w fun e w' => e = .returned (.bool true) ∧ ∃ q, w' = w.drewN q := by
  subst heq
  obtain ⟨hl, hm, hr⟩ := h
  obtain ⟨hl', hm', hr'⟩ := h'
  obtain rfl : n = n' := by omega
  unfold maxLen at hm
  clear hm'
  have HL := Lib.hid hl
  clear hl hl'
  go_enter Tryz.func38, Tryz.ntmps38
  go_wp2
  go_loopw [5] (fun i wr => ∃ k : Nat, k ≤ n ∧ i = .int .i64 k ∧ ∃ q, wr = w.drewN q) (fun i _ => n - (intOf i).toNat)
  case atStart => exact ⟨0, Nat.zero_le _, rfl, 0, rfl⟩
  case round =>
    obtain ⟨k, hk, rfl, q, rfl⟩ := hrel
    by_cases hlt : k < n
    · rcases hr with h0 | ⟨b, off, rfl, hbl, hc⟩
      · omega
      rcases hr' with h0 | ⟨b', off', rfl, hbl', hc'⟩
      · omega
      have hck := hc k hlt
      have hck' := hc' k hlt
      obtain ⟨x, hx⟩ : ∃ x, x = l.getD k 0 := ⟨_, rfl⟩
      rw [← hx] at hck hck'
      clear hc hx hc'
      have hki : (k : Int) < (n : Int) := by omega
      go_wp2
      go_quiet (fail)
      go_wp2
      go_roundw
      case rel => exact ⟨k + 1, by omega, by go_num, _, rfl⟩
      case measure => simp [intOf]; omega
    · have hkn : k = n := by omega
      subst hkn
      clear hr hr'
      go_wp2
      go_ret
      exact ⟨rfl, q, rfl⟩

/-- What is left of a size. -/
def SzPost (n : Nat) (left : Int) (w : World) (e : Ending) (w' : World) : Prop := ∃ x : Int, e = .returned (.int .i64 x) ∧ (x < 0 ∨ (0 ≤ x ∧ x + n = left)) ∧ w = w'

/-- What is left of a size: nothing, or all the sizes fit. -/
def SzMPost (n : Nat) (R : List (List Int)) (left : Int) (w : World) (e : Ending) (w' : World) : Prop := ∃ x : Int, e = .returned (.int .i64 x) ∧ (x < 0 ∨ (0 ≤ x ∧ x ≤ left ∧ (n : Int) ≤ left ∧ (M.pre R R.length : Int) ≤ left)) ∧ w = w'

end Go.Proofs.YtlofnadpgnbmdaaGreat.V
