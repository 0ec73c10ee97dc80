/- Texts laid together: Help, Rows0, Own, Mat0, Mat1, Mat2, Mark, Ply, Shp. -/
import Derived.Test.YtmobcobdpemlnaaRows
import Derived.Test.YtmobcobdpemlnaaQa1
import Derived.WalkKit
import Derived.ProofKit
import Derived.WalkSmall
import Derived.Deep.QuietTactic
import Derived.BigQuiet
import Derived.BigRegion
import Derived.Deep.Draws
import Derived.Lib.Hide
import Derived.OpenShut
import Derived.Deep.OwnRows
import Derived.Maps.AppendAt
import Derived.Deep.Onto
set_option linter.unusedSimpArgs false
set_option linter.unusedVariables false
set_option linter.unusedSectionVars false
namespace Go.Proofs.Ytmobcobdpemlnaa.V
open Go.RowKit

theorem b_alloc (w : World) (o : Obj) : Below w.heap.size w (w.alloc o) := (Below.refl _ _).alloc (Nat.le_refl _) _
theorem b_draws (w : World) (n : Nat) : Below w.heap.size w (w.drewN n) := below_drewN (Below.refl _ _) n
theorem b_alloc_draws (w : World) (o : Obj) (n : Nat) : Below w.heap.size w ((w.alloc o).drewN n) := below_drewN (b_alloc w o) n

theorem b_ads (w : World) (o : Obj) (n : Nat) (i j : Nat) (u v : Value) : Below w.heap.size w ((((w.alloc o).drewN n).setCell ⟨w.heap.size, i, none⟩ u).setCell ⟨w.heap.size, j, none⟩ v) :=
  ((b_alloc_draws w o n).setCell (Nat.le_refl _) u).setCell (Nat.le_refl _) v
theorem wneg (n g : Int) (a : -1000000000000 ≤ n) (b : n ≤ 1000000000000) : wrap64 (-n.tdiv g) = -n.tdiv g := by
  have := M.tdiv_bdL n g 1000000000000 a b
  exact IntWalk.wrap64_in _ (by omega)
theorem wneg2 (d g : Int) (a : d ≤ 0) : -d / g = -d.tdiv g := by
  rw [← Int.neg_tdiv, Int.tdiv_eq_ediv_of_nonneg (by omega)]
theorem bcell {W w1 : World} (hb : Below W.heap.size W w1) : (∀ b o, b < W.heap.size → w1.cell? ⟨b, o, none⟩ = W.cell? ⟨b, o, none⟩) ∧ (∀ b o, b < W.heap.size → w1.frozen? ⟨b, o, none⟩ = W.frozen? ⟨b, o, none⟩) :=
  ⟨fun b o h => hb.cell (p := ⟨b, o, none⟩) h, fun b o h => hb.frozen (p := ⟨b, o, none⟩) h⟩
theorem b_alloc2 (w : World) (o o' : Obj) : Below w.heap.size w ((w.alloc o).alloc o') := (b_alloc w o).alloc (by simp) _
theorem bel2 {w w1 : World} {o o' : Obj} (hb : Below ((w.alloc o).alloc o').heap.size ((w.alloc o).alloc o') w1) : Below w.heap.size w w1 :=
  (b_alloc2 w o o').trans (hb.mono (by simp; omega))
theorem bel3 {w w1 w2 : World} {o o' : Obj} (hb : Below ((w.alloc o).alloc o').heap.size ((w.alloc o).alloc o') w1) (hb2 : Below w1.heap.size w1 w2) : Below w.heap.size w w2 :=
  (bel2 hb).trans (hb2.mono (bel2 hb).size)
theorem bel1 {w w1 : World} {o : Obj} (hb : Below (w.alloc o).heap.size (w.alloc o) w1) : Below w.heap.size w w1 :=
  (b_alloc w o).trans (hb.mono (by simp))
theorem bel1s {w w1 : World} {o : Obj} {i j : Nat} {u v : Value} (hb : Below (w.alloc o).heap.size (w.alloc o) w1) : Below w.heap.size w ((w1.setCell ⟨w.heap.size, i, none⟩ u).setCell ⟨w.heap.size, j, none⟩ v) :=
  ((bel1 hb).setCell (Nat.le_refl _) u).setCell (Nat.le_refl _) v
theorem bnext {w w1 w2 : World} (h : Below w.heap.size w w1) (hb : Below w1.heap.size w1 w2) : Below w.heap.size w w2 := h.trans (hb.mono h.size)
theorem ck {w1 w2 : World} {a : Addr} {v : Value} (h : w1.cell? a = some v) (hb : Below w1.heap.size w1 w2) : w2.cell? a = some v := by
  have hl : a.block < w1.heap.size := by
    by_cases hl : a.block < w1.heap.size
    · exact hl
    · exfalso
      have e : w1.heap[a.block]? = none := by simp; omega
      simp [World.cell?, e] at h
  rw [hb.cell hl]; exact h
theorem sb {w w1 w2 : World} {A B C D : Prop} (h : A ∧ B ∧ C ∧ D ∧ Below w.heap.size w w1) (hb : Below w1.heap.size w1 w2) : Below w.heap.size w w2 := bnext h.2.2.2.2 hb
theorem sd {w w1 : World} {A B C D : Prop} (h : A ∧ B ∧ C ∧ D ∧ Below w.heap.size w w1) : Below w.heap.size w w1.drew := h.2.2.2.2.drew
theorem kA {w1 w2 : World} {a : Addr} {v : Value} {B : Prop} (h : w1.cell? a = some v ∧ B) (hb : Below w1.heap.size w1 w2) : w2.cell? a = some v := ck h.1 hb
theorem kB {w1 w2 : World} {a : Addr} {v : Value} {A B : Prop} (h : A ∧ w1.cell? a = some v ∧ B) (hb : Below w1.heap.size w1 w2) : w2.cell? a = some v := ck h.2.1 hb
theorem kC {w1 w2 : World} {a : Addr} {v : Value} {A B C : Prop} (h : A ∧ B ∧ w1.cell? a = some v ∧ C) (hb : Below w1.heap.size w1 w2) : w2.cell? a = some v := ck h.2.2.1 hb
theorem kD {w1 w2 : World} {a : Addr} {v : Value} {A B C D : Prop} (h : A ∧ B ∧ C ∧ w1.cell? a = some v ∧ D) (hb : Below w1.heap.size w1 w2) : w2.cell? a = some v := ck h.2.2.2.1 hb
theorem s5 {w w1 : World} {A B C D : Prop} (h : A ∧ B ∧ C ∧ D ∧ Below w.heap.size w w1) : Below w.heap.size w w1 := h.2.2.2.2
theorem vi {a b : Int} {k : IntKind} (h : a = b) : Value.int k a = .int k b := by rw [h]
/-- A call that leaves the world alone, as a region's step. -/
theorem st_of {P : Program} {f : FuncId} {args : Array Value} {w : World} {v : Value} (h : Calls P f args w fun e w' => e = .returned v ∧ w = w') : Calls P f args w fun e w' => e = .returned v ∧ w' = w := by
  refine h.mono ?_
  rintro e w' ⟨he, hw⟩
  exact ⟨he, hw.symm⟩
/-- A quiet call in a world that has drawn before. -/
theorem q_more {P : Program} {f : FuncId} {args : Array Value} {w : World} {a n : Nat} {v : Value} (h : Calls P f args (w.drewN (a + n)) fun e w' => e = .returned v ∧ ∃ q, w' = (w.drewN (a + n)).drewN q) :
    Calls P f args (w.drewN (a + n)) fun e w' => e = .returned v ∧ ∃ m, w' = w.drewN (a + m) := by
  refine h.mono ?_
  rintro e w' ⟨he, q, hq⟩
  exact ⟨he, n + q, by rw [hq, World.drewN_drewN, Nat.add_assoc]⟩
theorem q_more_s {P : Program} {f : FuncId} {args : Array Value} {w : World} {a n : Nat} {v : Value} (h : Calls P f args (w.drewN (a + n)) fun e w' => e = .returned v ∧ w.drewN (a + n) = w') :
    Calls P f args (w.drewN (a + n)) fun e w' => e = .returned v ∧ ∃ m, w' = w.drewN (a + m) := by
  refine h.mono ?_
  rintro e w' ⟨he, hq⟩
  exact ⟨he, n, hq.symm⟩
theorem q_one_s {P : Program} {f : FuncId} {args : Array Value} {w : World} {n : Nat} {v : Value} (h : Calls P f args (w.drewN n) fun e w' => e = .returned v ∧ w.drewN n = w') :
    Calls P f args (w.drewN n) fun e w' => e = .returned v ∧ ∃ m, w' = w.drewN m := by
  refine h.mono ?_
  rintro e w' ⟨he, hq⟩
  exact ⟨he, n, hq.symm⟩
end Go.Proofs.Ytmobcobdpemlnaa.V

namespace Go.Proofs.Ytmobcobdpemlnaa.V
open Go.RowKit

/-- What the walk is told of a slice of integers that came in (the shell's own words). -/
def IsRow (k : IntKind) (w : World) (a : Option Addr) (len cap : Nat) (zs : List Int) : Prop :=
  (a = none ∧ len = 0 ∧ cap = 0 ∧ zs = []) ∨
  ∃ x, a = some x ∧ len ≤ cap ∧ cap ≤ maxLen ∧ zs.length = cap ∧ (∀ i, i < zs.length → w.cell? (x.add i) = some (.int k (zs.getD i 0))) ∧ ∀ n ∈ zs, (Lit.int k n).wf = true

/-- A slice value (address a, length n) whose elements are the list l. -/
def Ints (k : IntKind) (w : World) (a : Option Addr) (n : Nat) (l : List Int) : Prop :=
  l.length = n ∧ n ≤ maxLen ∧ (n = 0 ∨ ∃ b off, a = some ⟨b, off, none⟩ ∧ b < w.heap.size ∧ ∀ i, i < n → w.cell? ⟨b, off + i, none⟩ = some (.int k (l.getD i 0)))

theorem cell_lt {w : World} {a : Addr} {v : Value} (h : w.cell? a = some v) : a.block < w.heap.size := by
  by_cases hl : a.block < w.heap.size
  · exact hl
  · exfalso
    have e : w.heap[a.block]? = none := by simp; omega
    simp [World.cell?, e] at h

theorem IsRow.ints {k : IntKind} {w : World} {a : Option Addr} {len cap : Nat} {zs : List Int} (h : IsRow k w a len cap zs) : Ints k w a len (zs.take len) := by
  rcases h with ⟨rfl, rfl, rfl, rfl⟩ | ⟨x, rfl, hl, hm, hz, hcell, _⟩
  · exact ⟨rfl, Nat.zero_le _, .inl rfl⟩
  · refine ⟨by simp; omega, by omega, ?_⟩
    by_cases h0 : len = 0
    · exact .inl h0
    · obtain ⟨b, off, rfl, hc⟩ := ints_at hcell (by omega)
      refine .inr ⟨b, off, rfl, cell_lt (hc 0 (by omega)), fun i hi => ?_⟩
      rw [hc i (by omega)]
      simp [hi]

theorem Ints.below {k : IntKind} {w w' : World} {a : Option Addr} {n : Nat} {l : List Int} (h : Ints k w a n l) (hb : Below w.heap.size w w') : Ints k w' a n l := by
  obtain ⟨h1, h2, h3⟩ := h
  refine ⟨h1, h2, ?_⟩
  rcases h3 with h3 | ⟨b, off, rfl, hlt, hc⟩
  · exact .inl h3
  · exact .inr ⟨b, off, rfl, by have := hb.size; omega, fun i hi => by rw [hb.cell (p := ⟨b, off + i, none⟩) hlt]; exact hc i hi⟩

end Go.Proofs.Ytmobcobdpemlnaa.V

namespace Go.Proofs.Ytmobcobdpemlnaa.V
open Go.RowKit

theorem info64 : (Try.prog.info? 2).map (fun i => (i.zero, i.size, i.bytes)) = some (some (.int .i64 0), 1, 8) := by kernel_rfl
theorem infoS64 : (Try.prog.info? 26).map (fun i => (i.zero, i.size, i.bytes)) = some (some (.slice none 0 0), 1, 24) := by kernel_rfl

/-- A slice that the call owns, in blocks from B on, holding the integers l. -/
def Own (w : World) (B : Nat) (v : Value) (l : List Int) : Prop := w.ownsRow B 2 1 v l.length (l.map (Value.int .i64))

theorem own_lt {w : World} {B : Nat} {T : TypeId} {v : Value} {n : Nat} {xs : List Value} (h : w.ownsRow B T 1 v n xs) {k : Nat} (hk : v.ownBlock = some k) : B ≤ k ∧ k < w.heap.size := World.ownsRow.lt h k hk

theorem ownsRow_keep {w w' : World} {B : Nat} {T : TypeId} {v : Value} {n : Nat} {xs : List Value} (h : w.ownsRow B T 1 v n xs) (hk : ∀ k, v.ownBlock = some k → w'.heap[k]? = w.heap[k]?) : w'.ownsRow B T 1 v n xs := by
  obtain ⟨h1, h2⟩ := h
  refine ⟨h1, ?_⟩
  rcases h2 with h2 | ⟨g, cap, cur, hv, hg, hh, r⟩
  · exact .inl h2
  · exact .inr ⟨g, cap, cur, hv, hg, by rw [hk g (by subst hv; rfl)]; exact hh, r⟩
theorem Own.keep {w w' : World} {B : Nat} {v : Value} {l : List Int} (h : Own w B v l) (hk : ∀ k, B ≤ k → k < w.heap.size → w'.heap[k]? = w.heap[k]?) : Own w' B v l :=
  ownsRow_keep h fun k hv => hk k (own_lt h hv).1 (own_lt h hv).2
theorem Own.below {w w' : World} {B : Nat} {v : Value} {l : List Int} (h : Own w B v l) (hb : Below w.heap.size w w') : Own w' B v l :=
  h.keep (fun k _ h2 => hb.block k h2)
theorem Own.mono {w : World} {B B' : Nat} {v : Value} {l : List Int} (h : Own w B v l) (hb : B' ≤ B) : Own w B' v l := World.ownsRow.mono h hb

/-- The form of an owned slice. -/
theorem own_form {w : World} {B : Nat} {T : TypeId} {v : Value} {n : Nat} {xs : List Value} (h : w.ownsRow B T 1 v n xs) : ∃ a cap, v = .slice a n cap ∧ n ≤ cap ∧ cap ≤ maxLen ∧ (0 < n → ∃ g, a = some ⟨g, 0, none⟩ ∧ B ≤ g ∧ g < w.heap.size) := by
  have h' := h
  obtain ⟨h1, h2⟩ := h
  rcases h2 with ⟨hv, h0⟩ | ⟨g, cap, cur, hv, hg, hh, hn, hc, r⟩
  · subst h0; exact ⟨none, 0, hv, Nat.le_refl _, Nat.zero_le _, fun h => by omega⟩
  · subst hv
    exact ⟨_, cap, rfl, hn, hc, fun _ => ⟨g, rfl, hg, (own_lt h' rfl).2⟩⟩

/-- What an owned slice is: a slice of the integers l. -/
theorem Own.ints {w : World} {B : Nat} {v : Value} {l : List Int} (h : Own w B v l) : ∃ a cap, v = .slice a l.length cap ∧ Ints .i64 w a l.length l := by
  have h' := h
  obtain ⟨h1, h2⟩ := h
  rcases h2 with ⟨hv, h0⟩ | ⟨g, cap, cur, hv, hg, hh, hn, hc, r⟩
  · refine ⟨none, 0, by rw [h0]; exact hv, rfl, by omega, .inl h0⟩
  · subst hv
    refine ⟨some ⟨g, 0, none⟩, cap, rfl, rfl, by omega, ?_⟩
    by_cases h0 : l.length = 0
    · exact .inl h0
    · refine .inr ⟨g, 0, rfl, (own_lt h' rfl).2, fun i hi => ?_⟩
      have := World.ownsRow.cellAt h' i (by omega)
      rw [Nat.zero_add, this]
      simp [hi]

theorem Own.ints' {w : World} {B : Nat} {a : Option Addr} {n cap : Nat} {l : List Int} (h : Own w B (.slice a n cap) l) : Ints .i64 w a n l := by
  obtain ⟨a', c', hv, hI⟩ := h.ints
  injection hv with e1 e2 e3
  subst e1 e2
  exact hI

theorem own_lit0 (w : World) (B : Nat) (hB : B ≤ w.heap.size) : Own (w.alloc (.cells #[] 2)) B (.slice (some ⟨w.heap.size, 0, none⟩) 0 0) [] :=
  World.ownsRow_lit w #[] 0 hB (by decide) rfl

theorem own_made (w : World) (B n : Nat) (hB : B ≤ w.heap.size) (hn : n ≤ maxLen) : Own (w.alloc (.cells (madeCells #[.int .i64 0] n) 2)) B (.slice (some ⟨w.heap.size, 0, none⟩) n n) ((List.range n).map fun _ => 0) := by
  have h := World.rowIs_made w (.int .i64 0) n 2
  obtain ⟨c, hb, hs, hc⟩ := h
  refine ⟨by simp, .inr ⟨w.heap.size, n, c, by simp, hB, hb, by simp, hn, by simp [hs], ?_⟩⟩
  apply List.ext_getElem
  · simp [hs]
  · intro i h1 h2
    simp only [List.length_map, List.length_range] at h2
    have := hc i h2
    simp [List.getElem_take]
    rw [Array.getElem?_eq_getElem (by omega)] at this
    exact Option.some.inj this

theorem Own.len {w : World} {B n cap : Nat} {a : Option Addr} {l : List Int} (h : Own w B (.slice a n cap) l) : n = l.length := by
  obtain ⟨a', c, hv, _⟩ := own_form h
  injection hv
theorem Own.frozenAt {w : World} {B g n cap : Nat} {l : List Int} (h : Own w B (.slice (some ⟨g, 0, none⟩) n cap) l) (j : Nat) : w.frozen? ⟨g, j, none⟩ = false := by
  have e := h.len
  subst e
  exact World.ownsRow.frozenAt h j
theorem Own.cellAt {w : World} {B g n cap : Nat} {l : List Int} (h : Own w B (.slice (some ⟨g, 0, none⟩) n cap) l) (j : Nat) (hj : j < n) : w.cell? ⟨g, j, none⟩ = some (.int .i64 (l.getD j 0)) := by
  have e := h.len
  subst e
  rw [World.ownsRow.cellAt h j (by omega)]
  simp [hj]

/-- A store into an owned slice. -/
theorem Own.set {w : World} {B g n cap : Nat} {l : List Int} (h : Own w B (.slice (some ⟨g, 0, none⟩) n cap) l) (i : Nat) (x : Int) : Own (w.setCell ⟨g, i, none⟩ (.int .i64 x)) B (.slice (some ⟨g, 0, none⟩) n cap) (l.set i x) := by
  have hn : n = l.length := by
    obtain ⟨a, c, hv, _⟩ := own_form h
    injection hv
  subst hn
  have := (World.ownsRow.stored h i (.int .i64 x)).1
  unfold Own
  simpa [List.map_set] using this
end Go.Proofs.Ytmobcobdpemlnaa.V

namespace Go.Proofs.Ytmobcobdpemlnaa.V
open Go.RowKit

/-- A slice value (address a, length n) whose elements are slices that read as the rows R. -/
def Mat (w : World) (a : Option Addr) (n : Nat) (R : List (List Int)) : Prop :=
  R.length = n ∧ n ≤ maxLen ∧ (n = 0 ∨ ∃ b off, a = some ⟨b, off, none⟩ ∧ b < w.heap.size ∧ ∀ i, i < n → ∃ ra rc, w.cell? ⟨b, off + i, none⟩ = some (.slice ra (R.getD i []).length rc) ∧ Ints .i64 w ra (R.getD i []).length (R.getD i []))

theorem Mat.below {w w' : World} {a : Option Addr} {n : Nat} {R : List (List Int)} (h : Mat w a n R) (hb : Below w.heap.size w w') : Mat w' a n R := by
  obtain ⟨h1, h2, h3⟩ := h
  refine ⟨h1, h2, ?_⟩
  rcases h3 with h3 | ⟨b, off, rfl, hlt, hc⟩
  · exact .inl h3
  · refine .inr ⟨b, off, rfl, by have := hb.size; omega, fun i hi => ?_⟩
    obtain ⟨ra, rc, hr, hI⟩ := hc i hi
    exact ⟨ra, rc, by rw [hb.cell (p := ⟨b, off + i, none⟩) hlt]; exact hr, hI.below hb⟩

/-- One row of a matrix that is read. -/
theorem Mat.at {w : World} {a : Option Addr} {n : Nat} {R : List (List Int)} (h : Mat w a n R) (i : Nat) (hi : i < n) :
    ∃ b off ra rc L l, a = some ⟨b, off, none⟩ ∧ b < w.heap.size ∧ l = R.getD i [] ∧ w.cell? ⟨b, off + i, none⟩ = some (.slice ra L rc) ∧ Ints .i64 w ra L l := by
  obtain ⟨h1, h2, h3⟩ := h
  rcases h3 with h3 | ⟨b, off, rfl, hlt, hc⟩
  · omega
  · obtain ⟨ra, rc, hr, hI⟩ := hc i hi
    exact ⟨b, off, ra, rc, _, _, rfl, hlt, rfl, hr, hI⟩

theorem Ints.at {k : IntKind} {w : World} {a : Option Addr} {n : Nat} {l : List Int} (h : Ints k w a n l) (i : Nat) (hi : i < n) :
    ∃ b off x, a = some ⟨b, off, none⟩ ∧ b < w.heap.size ∧ x = l.getD i 0 ∧ w.cell? ⟨b, off + i, none⟩ = some (.int k x) := by
  obtain ⟨h1, h2, h3⟩ := h
  rcases h3 with h3 | ⟨b, off, rfl, hlt, hc⟩
  · omega
  · exact ⟨b, off, _, rfl, hlt, rfl, hc i hi⟩

/-- One entry of a matrix that is read. -/
theorem Mat.ent {w : World} {a : Option Addr} {n : Nat} {R : List (List Int)} (h : Mat w a n R) (i j : Nat) (hi : i < n) (hj : j < (R.getD i []).length) :
    ∃ b off rb ro L rc x, a = some ⟨b, off, none⟩ ∧ L = (R.getD i []).length ∧ x = (R.getD i []).getD j 0 ∧ w.cell? ⟨b, off + i, none⟩ = some (.slice (some ⟨rb, ro, none⟩) L rc) ∧ w.cell? ⟨rb, ro + j, none⟩ = some (.int .i64 x) := by
  obtain ⟨b, off, ra, rc, L, l, rfl, _, rfl, hc, hI⟩ := h.at i hi
  have hL := hI.1
  obtain ⟨rb, ro, x, rfl, _, hx, hc2⟩ := hI.at j (by omega)
  exact ⟨b, off, rb, ro, L, rc, x, rfl, hL.symm, hx, hc, hc2⟩
/-- A rectangle: n rows of length L. -/
def Rect (R : List (List Int)) (n L : Nat) : Prop := R.length = n ∧ ∀ i, i < n → (R.getD i []).length = L
theorem rect_mk (m n : Nat) (f : Nat → Nat → Int) : Rect (M.mk m n f) m n := ⟨by simp, fun i hi => M.mk_rowlen m n f i hi⟩
theorem rect_mat {R : List (List Int)} (h : M.isMat R = true) : Rect R R.length (M.wid R) := ⟨rfl, fun _ hi => M.isMat_len h hi⟩
theorem Rect.wid {R : List (List Int)} {n L : Nat} (h : Rect R n L) (hn : 0 < n) : M.wid R = L := h.2 0 hn
/-- One row of a rectangle. -/
theorem Mat.rect_at {w : World} {a : Option Addr} {n L : Nat} {R : List (List Int)} (h : Mat w a n R) (hr : Rect R n L) (i : Nat) (hi : i < n) :
    ∃ b off ra rc, a = some ⟨b, off, none⟩ ∧ b < w.heap.size ∧ w.cell? ⟨b, off + i, none⟩ = some (.slice ra L rc) ∧ Ints .i64 w ra L (R.getD i []) := by
  obtain ⟨b, off, ra, rc, L', l, rfl, hb, rfl, hc, hI⟩ := h.at i hi
  have e : L' = L := by rw [← hI.1]; exact hr.2 i hi
  subst e
  exact ⟨b, off, ra, rc, rfl, hb, hc, hI⟩
theorem Mat.rect_first {w : World} {a : Option Addr} {n L : Nat} {R : List (List Int)} (h : Mat w a n R) (hr : Rect R n L) (hn : 0 < n) :
    ∃ b off ra rc, a = some ⟨b, off, none⟩ ∧ b < w.heap.size ∧ w.cell? ⟨b, off, none⟩ = some (.slice ra L rc) := by
  obtain ⟨b, off, ra, rc, rfl, hb, hc, _⟩ := h.rect_at hr 0 hn
  exact ⟨b, off, ra, rc, rfl, hb, by simpa using hc⟩
/-- One entry of a rectangle. -/
theorem Mat.rect_ent {w : World} {a : Option Addr} {n L : Nat} {R : List (List Int)} (h : Mat w a n R) (hr : Rect R n L) (i j : Nat) (hi : i < n) (hj : j < L) :
    ∃ b off rb ro rc x, a = some ⟨b, off, none⟩ ∧ x = M.ent R i j ∧ w.cell? ⟨b, off + i, none⟩ = some (.slice (some ⟨rb, ro, none⟩) L rc) ∧ w.cell? ⟨rb, ro + j, none⟩ = some (.int .i64 x) := by
  obtain ⟨b, off, rb, ro, L', rc, x, rfl, hL, hx, h1, h2⟩ := h.ent i j hi (by rw [hr.2 i hi]; exact hj)
  rw [hr.2 i hi] at hL
  subst hL
  exact ⟨b, off, rb, ro, rc, x, rfl, hx, h1, h2⟩

/-- The first row's length. -/
theorem Mat.first {w : World} {a : Option Addr} {n : Nat} {R : List (List Int)} (h : Mat w a n R) (hi : 0 < n) :
    ∃ b off ra L rc, a = some ⟨b, off, none⟩ ∧ L = M.wid R ∧ w.cell? ⟨b, off, none⟩ = some (.slice ra L rc) := by
  obtain ⟨b, off, ra, rc, L, l, rfl, _, hl, hc, hI⟩ := h.at 0 hi
  exact ⟨b, off, ra, L, rc, rfl, by rw [← hI.1, hl]; rfl, by simpa using hc⟩

/-- A slice of slices that the call owns, in blocks from B on, each in a block of its own, holding the rows R; V are the values of its rows. -/
def OwnV (w : World) (B : Nat) (v : Value) (R : List (List Int)) (V : List Value) : Prop :=
  V.length = R.length ∧ w.ownsRow B 26 1 v R.length V ∧ (∀ i, i < R.length → Own w B (V.getD i (.slice none 0 0)) (R.getD i [])) ∧
  (∀ i, i < R.length → ∀ k, (V.getD i (.slice none 0 0)).ownBlock = some k → v.ownBlock ≠ some k) ∧
  ∀ i j, i < R.length → j < R.length → i ≠ j → ∀ k, (V.getD i (.slice none 0 0)).ownBlock = some k → (V.getD j (.slice none 0 0)).ownBlock ≠ some k

def OwnM (w : World) (B : Nat) (v : Value) (R : List (List Int)) : Prop := ∃ V, OwnV w B v R V

theorem OwnM.keep {w w' : World} {B : Nat} {v : Value} {R : List (List Int)} (h : OwnM w B v R) (hk : ∀ k, B ≤ k → k < w.heap.size → w'.heap[k]? = w.heap[k]?) : OwnM w' B v R := by
  obtain ⟨V, h1, h2, h3, h4, h5⟩ := h
  exact ⟨V, h1, ownsRow_keep h2 (fun k hv => hk k (own_lt h2 hv).1 (own_lt h2 hv).2), fun i hi => (h3 i hi).keep hk, h4, h5⟩
theorem OwnM.below {w w' : World} {B : Nat} {v : Value} {R : List (List Int)} (h : OwnM w B v R) (hb : Below w.heap.size w w') : OwnM w' B v R :=
  h.keep (fun k _ h2 => hb.block k h2)
theorem OwnM.mono {w : World} {B B' : Nat} {v : Value} {R : List (List Int)} (h : OwnM w B v R) (hb : B' ≤ B) : OwnM w B' v R := by
  obtain ⟨V, h1, h2, h3, h4, h5⟩ := h
  exact ⟨V, h1, World.ownsRow.mono h2 hb, fun i hi => (h3 i hi).mono hb, h4, h5⟩

theorem OwnM.form {w : World} {B : Nat} {v : Value} {R : List (List Int)} (h : OwnM w B v R) : ∃ a cap, v = .slice a R.length cap ∧ R.length ≤ maxLen := by
  obtain ⟨V, h1, h2, _⟩ := h
  obtain ⟨a, cap, hv, h3, h4, _⟩ := own_form h2
  exact ⟨a, cap, hv, by omega⟩

theorem OwnM.mat {w : World} {B : Nat} {a : Option Addr} {n cap : Nat} {R : List (List Int)} (h : OwnM w B (.slice a n cap) R) : Mat w a n R := by
  obtain ⟨V, h1, h2, h3, h4, h5⟩ := h
  obtain ⟨a', c', hv, hc, hm, hg⟩ := own_form h2
  injection hv with e1 e2 e3
  subst e1 e2 e3
  refine ⟨rfl, by omega, ?_⟩
  by_cases h0 : R.length = 0
  · exact .inl h0
  · obtain ⟨g, rfl, hB, hlt⟩ := hg (by omega)
    refine .inr ⟨g, 0, rfl, hlt, fun i hi => ?_⟩
    obtain ⟨ra, rc, hv, hI⟩ := (h3 i hi).ints
    refine ⟨ra, rc, ?_, hI⟩
    have := World.ownsRow.cellAt h2 i (by omega)
    rw [Nat.zero_add, this, ← hv]
    simp [h1, hi]

theorem OwnM.lt {w : World} {B n cap g o : Nat} {R : List (List Int)} (h : OwnM w B (.slice (some ⟨g, o, none⟩) n cap) R) (_ : True = True) : g < w.heap.size := by
  obtain ⟨V, h1, h2, _⟩ := h
  exact (own_lt h2 (k := g) rfl).2
theorem OwnM.ge {w : World} {B n cap g o : Nat} {R : List (List Int)} (h : OwnM w B (.slice (some ⟨g, o, none⟩) n cap) R) : B ≤ g := by
  obtain ⟨V, h1, h2, _⟩ := h
  exact (own_lt h2 (k := g) rfl).1
theorem OwnM.len {w : World} {B n cap : Nat} {a : Option Addr} {R : List (List Int)} (h : OwnM w B (.slice a n cap) R) : n = R.length := by
  obtain ⟨a', c', hv, _⟩ := h.form
  injection hv
theorem OwnM.outer {w : World} {B n cap g : Nat} {R : List (List Int)} (h : OwnM w B (.slice (some ⟨g, 0, none⟩) n cap) R) (i : Nat) (hi : i < n) : ∃ v, w.cell? ⟨g, i, none⟩ = some v := by
  have e := h.len
  subst e
  obtain ⟨V, h1, h2, _⟩ := h
  rw [World.ownsRow.cellAt h2 i (by omega)]
  exact ⟨V[i]'(by omega), by simp [h1, hi]⟩
theorem OwnM.outerFz {w : World} {B n cap g : Nat} {R : List (List Int)} (h : OwnM w B (.slice (some ⟨g, 0, none⟩) n cap) R) (i : Nat) : w.frozen? ⟨g, i, none⟩ = false := by
  have e := h.len
  subst e
  obtain ⟨V, h1, h2, _⟩ := h
  exact World.ownsRow.frozenAt h2 i

theorem ownM_nil (w : World) (B : Nat) : OwnM w B (.slice none 0 0) [] :=
  ⟨[], rfl, World.ownsRow_nil _ _ _ _, (fun i hi => absurd hi (Nat.not_lt_zero i)), (fun i hi => absurd hi (Nat.not_lt_zero i)), (fun i j hi => absurd hi (Nat.not_lt_zero i))⟩
theorem ownM_lit0 (w : World) (B : Nat) (hB : B ≤ w.heap.size) : OwnM (w.alloc (.cells #[] 26)) B (.slice (some ⟨w.heap.size, 0, none⟩) 0 0) [] :=
  ⟨[], rfl, World.ownsRow_lit w #[] 0 hB (by decide) rfl, (fun i hi => absurd hi (Nat.not_lt_zero i)), (fun i hi => absurd hi (Nat.not_lt_zero i)), (fun i j hi => absurd hi (Nat.not_lt_zero i))⟩

theorem own_nil (w : World) (B : Nat) : Own w B (.slice none 0 0) [] := World.ownsRow_nil _ _ _ _

theorem ownM_made (w : World) (B n : Nat) (hB : B ≤ w.heap.size) (hn : n ≤ maxLen) : OwnM (w.alloc (.cells (madeCells #[.slice none 0 0] n) 26)) B (.slice (some ⟨w.heap.size, 0, none⟩) n n) (List.replicate n []) := by
  have h := World.rowIs_made w (.slice none 0 0) n 26
  obtain ⟨c, hb, hs, hc⟩ := h
  refine ⟨List.replicate n (.slice none 0 0), by simp, ⟨by simp, .inr ⟨w.heap.size, n, c, by simp, hB, hb, by simp, hn, by simp [hs], ?_⟩⟩, ?_, ?_, ?_⟩
  · apply List.ext_getElem
    · simp [hs]
    · intro i h1 h2
      simp only [List.length_replicate] at h2
      have := hc i h2
      simp [List.getElem_take]
      rw [Array.getElem?_eq_getElem (by omega)] at this
      exact Option.some.inj this
  · intro i hi
    simp only [List.length_replicate] at hi
    have e1 : (List.replicate n (Value.slice none 0 0)).getD i (.slice none 0 0) = .slice none 0 0 := by simp [hi]
    have e2 : (List.replicate n ([] : List Int)).getD i [] = [] := by simp [hi]
    rw [e1, e2]
    exact own_nil _ _
  · intro i hi k hk
    simp only [List.length_replicate] at hi
    have e1 : (List.replicate n (Value.slice none 0 0)).getD i (.slice none 0 0) = .slice none 0 0 := by simp [hi]
    rw [e1] at hk
    cases hk
  · intro i j hi hj _ k hk
    simp only [List.length_replicate] at hi
    have e1 : (List.replicate n (Value.slice none 0 0)).getD i (.slice none 0 0) = .slice none 0 0 := by simp [hi]
    rw [e1] at hk
    cases hk

theorem getD_set {α : Type} (l : List α) (i j : Nat) (x d : α) (h : i < l.length) : (l.set i x).getD j d = if j = i then x else l.getD j d := by
  simp only [List.getD_eq_getElem?_getD, List.getElem?_set]
  by_cases e : i = j
  · subst e; simp [h]
  · rw [if_neg e, if_neg (by omega)]

/-- A row of its own is stored into an owned matrix: v keeps its block, and the row lies in blocks that are newer. -/
theorem OwnM.setRow {w w1 : World} {B g n cap : Nat} {R : List (List Int)} {rv : Value} {l : List Int} (h : OwnM w B (.slice (some ⟨g, 0, none⟩) n cap) R) (hb : Below w.heap.size w w1) (hB : B ≤ w.heap.size) (ho : Own w1 w.heap.size rv l) (i : Nat) (hi : i < n) :
    OwnM (w1.setCell ⟨g, i, none⟩ rv) B (.slice (some ⟨g, 0, none⟩) n cap) (R.set i l) := by
  have hlt := h
  obtain ⟨V, h1, h2, h3, h4, h5⟩ := h
  obtain ⟨a', c', hv, hc, hm, hg⟩ := own_form h2
  injection hv with e1 e2 e3
  subst e2 e3
  have hgl := own_lt h2 (k := g) rfl
  have hk : ∀ k, k < w.heap.size → k ≠ g → (w1.setCell ⟨g, i, none⟩ rv).heap[k]? = w.heap[k]? := fun k hk hne => by
    rw [Below.heap_setCell _ _ _ _ hne]; exact hb.block k hk
  have hw1 : w1.ownsRow B 26 1 (.slice (some ⟨g, 0, none⟩) R.length cap) R.length V := ownsRow_keep h2 (fun k hv => hb.block k (own_lt h2 hv).2)
  refine ⟨V.set i rv, by simpa using h1, ?_, ?_, ?_, ?_⟩
  · have := (World.ownsRow.stored hw1 i rv).1
    simpa using this
  · intro j hj
    simp only [List.length_set] at hj
    rw [getD_set _ _ _ _ _ (by omega), getD_set _ _ _ _ _ (by omega)]
    by_cases e : j = i
    · rw [if_pos e, if_pos e]
      exact (ownsRow_keep ho (fun k hv => Below.heap_setCell _ _ _ _ (by have := (own_lt ho hv).1; show k ≠ g; omega)) : Own _ _ _ _).mono hB
    · rw [if_neg e, if_neg e]
      exact ownsRow_keep (h3 j hj) (fun k hv => hk k (own_lt (h3 j hj) hv).2 (fun e => h4 j hj k hv (by rw [e]; rfl)))
  · intro j hj k hk'
    simp only [List.length_set] at hj
    rw [getD_set _ _ _ _ _ (by omega)] at hk'
    by_cases e : j = i
    · rw [if_pos e] at hk'
      have := (own_lt ho hk').1
      intro e2
      simp only [Value.ownBlock, Option.some.injEq] at e2
      omega
    · rw [if_neg e] at hk'
      exact h4 j hj k hk'
  · intro j t hj ht hne k hk'
    simp only [List.length_set] at hj ht
    rw [getD_set _ _ _ _ _ (by omega)] at hk'
    rw [getD_set _ _ _ _ _ (by omega)]
    by_cases e : j = i
    · rw [if_pos e] at hk'
      have e' : ¬ t = i := by omega
      rw [if_neg e']
      intro e2
      have := (own_lt ho hk').1
      have := (own_lt (h3 t ht) e2).2
      omega
    · rw [if_neg e] at hk'
      by_cases e' : t = i
      · rw [if_pos e']
        intro e2
        have := (own_lt ho e2).1
        have := (own_lt (h3 j hj) hk').2
        omega
      · rw [if_neg e']
        exact h5 j t hj ht hne k hk'

/-- What is needed to read and to write the entry at i, j of an owned matrix. -/
theorem OwnM.at {w : World} {B n cap : Nat} {a : Option Addr} {R : List (List Int)} (h : OwnM w B (.slice a n cap) R) (i j : Nat) (hi : i < n) (hj : j < (R.getD i []).length) :
    ∃ g q L c x, a = some ⟨g, 0, none⟩ ∧ B ≤ g ∧ B ≤ q ∧ L = (R.getD i []).length ∧ x = (R.getD i []).getD j 0 ∧ w.cell? ⟨g, i, none⟩ = some (.slice (some ⟨q, 0, none⟩) L c) ∧ w.cell? ⟨q, j, none⟩ = some (.int .i64 x) ∧ w.frozen? ⟨q, j, none⟩ = false ∧
      ∀ y, OwnM (w.setCell ⟨q, j, none⟩ (.int .i64 y)) B (.slice a n cap) (R.set i ((R.getD i []).set j y)) := by
  obtain ⟨V, h1, h2, h3, h4, h5⟩ := h
  obtain ⟨a', c', hv, hc, hm, hg⟩ := own_form h2
  injection hv with e1 e2 e3
  subst e1 e2 e3
  obtain ⟨g, rfl, hBg, hlt⟩ := hg (by omega)
  have hrow := h3 i hi
  obtain ⟨ra, rc, hrv, hrc, hrm, hrg⟩ := own_form hrow
  obtain ⟨q, rfl, hBq, hqlt⟩ := hrg (by omega)
  have hcell := World.ownsRow.cellAt h2 i (by omega)
  have hVi : V[i]? = some (V.getD i (.slice none 0 0)) := by simp [h1, hi]
  have hrow' := hrow
  rw [hrv] at hrow'
  have hcell2 := World.ownsRow.cellAt hrow' j (by omega)
  refine ⟨g, q, _, rc, _, rfl, hBg, hBq, rfl, rfl, ?_, ?_, World.ownsRow.frozenAt hrow' j, fun y => ?_⟩
  · rw [hcell, hVi, hrv]
  · rw [hcell2]
    generalize R.getD i [] = l at hj
    simp [hj]
  · have hqg : q ≠ g := fun e => h4 i hi q (by rw [hrv]; rfl) (by rw [e]; rfl)
    refine ⟨V, by simpa using h1, ?_, ?_, ?_, ?_⟩
    · rw [List.length_set]
      exact ownsRow_keep h2 (fun k hv => Below.heap_setCell _ _ _ _ (by
        simp only [Value.ownBlock, Option.some.injEq] at hv; show k ≠ q; omega))
    · intro t ht
      simp only [List.length_set] at ht
      rw [getD_set _ _ _ _ _ (by omega)]
      by_cases e : t = i
      · subst e
        rw [if_pos rfl, hrv]
        exact Own.set hrow' j y
      · rw [if_neg e]
        refine ownsRow_keep (h3 t ht) (fun k hv => Below.heap_setCell _ _ _ _ ?_)
        show k ≠ q
        intro e2
        subst e2
        exact h5 t i ht hi e k hv (by rw [hrv]; rfl)
    · intro t ht
      simp only [List.length_set] at ht
      exact h4 t ht
    · intro t s ht hs
      simp only [List.length_set] at ht hs
      exact h5 t s ht hs

/-- A row of its own is appended to an owned matrix. -/
theorem OwnV.snoc {w w1 w2 : World} {B q : Nat} {v v' rv : Value} {R : List (List Int)} {V : List Value} {l : List Int} (h : OwnV w B v R V) (hb : Below w.heap.size w w1) (hB : B ≤ w.heap.size) (ho : Own w1 w.heap.size rv l)
    (hw2 : w2.ownsRow B 26 1 v' (R.length + 1) (V ++ [rv])) (hg : ∀ k, k < w1.heap.size → v.ownBlock ≠ some k → w2.heap[k]? = w1.heap[k]?)
    (hvb : v'.ownBlock = v.ownBlock ∨ v'.ownBlock = some q) (hq : w1.heap.size ≤ q) : OwnM w2 B v' (R ++ [l]) := by
  obtain ⟨h1, h2, h3, h4, h5⟩ := h
  have eV : ∀ j, j < R.length → (V ++ [rv]).getD j (.slice none 0 0) = V.getD j (.slice none 0 0) := fun j hj => by
    simp [List.getD_eq_getElem?_getD, List.getElem?_append_left, h1, hj]
  have eV1 : (V ++ [rv]).getD R.length (.slice none 0 0) = rv := by
    simp [List.getD_eq_getElem?_getD, ← h1]
  have eR : ∀ j, j < R.length → (R ++ [l]).getD j [] = R.getD j [] := fun j hj => by
    simp [List.getD_eq_getElem?_getD, List.getElem?_append_left, hj]
  have eR1 : (R ++ [l]).getD R.length [] = l := by
    simp [List.getD_eq_getElem?_getD]
  have hold : ∀ j, j < R.length → ∀ k, (V.getD j (.slice none 0 0)).ownBlock = some k → k < w.heap.size := fun j hj k hk => (own_lt (h3 j hj) hk).2
  have hvn : ∀ k, k < w1.heap.size → v.ownBlock ≠ some k → v'.ownBlock ≠ some k := fun k hk hne => by
    rcases hvb with e | e
    · rw [e]; exact hne
    · rw [e]; intro e2; simp only [Option.some.injEq] at e2; omega
  have hvold : ∀ k, v.ownBlock = some k → k < w.heap.size := fun k hk => (own_lt h2 hk).2
  have hs := hb.size
  refine ⟨V ++ [rv], by simp [h1], by simpa using hw2, ?_, ?_, ?_⟩
  · intro j hj
    simp only [List.length_append, List.length_singleton] at hj
    by_cases e : j < R.length
    · rw [eV j e, eR j e]
      exact ownsRow_keep (h3 j e) (fun k hv => by
        have := hold j e k hv
        rw [hg k (by omega) (h4 j e k hv)]; exact hb.block k this)
    · obtain rfl : j = R.length := by omega
      rw [eV1, eR1]
      refine (ownsRow_keep ho (fun k hv => hg k (own_lt ho hv).2 (fun e2 => ?_)) : Own _ _ _ _).mono hB
      have := (own_lt ho hv).1
      have := hvold k e2
      omega
  · intro j hj k hk
    simp only [List.length_append, List.length_singleton] at hj
    by_cases e : j < R.length
    · rw [eV j e] at hk
      have := hold j e k hk
      exact hvn k (by omega) (h4 j e k hk)
    · obtain rfl : j = R.length := by omega
      rw [eV1] at hk
      have := own_lt ho hk
      exact hvn k this.2 (fun e2 => by have := hvold k e2; omega)
  · intro i j hi hj hne k hk
    simp only [List.length_append, List.length_singleton] at hi hj
    by_cases e : i < R.length
    · rw [eV i e] at hk
      by_cases e2 : j < R.length
      · rw [eV j e2]; exact h5 i j e e2 hne k hk
      · obtain rfl : j = R.length := by omega
        rw [eV1]
        intro e3
        have := hold i e k hk
        have := (own_lt ho e3).1
        omega
    · obtain rfl : i = R.length := by omega
      rw [eV1] at hk
      have e2 : j < R.length := by omega
      rw [eV j e2]
      intro e3
      have := hold j e2 k e3
      have := (own_lt ho hk).1
      omega
end Go.Proofs.Ytmobcobdpemlnaa.V

namespace Go.Proofs.Ytmobcobdpemlnaa.V
open Go.RowKit

set_option maxRecDepth 100000 in
set_option maxHeartbeats 400000 in
theorem eqInts (a : Option Addr) (n cap : Nat) (l : List Int) (a' : Option Addr) (n' cap' : Nat) (l' : List Int) (w : World) (h : Ints .i64 w a n l) (h' : Ints .i64 w a' n' l') (heq : l = l') :
    Calls Try.prog 35 #[.slice a n cap, .slice a' n' cap'] w fun e w' => e = .returned (.bool true) ∧ ∃ q, w' = w.drewN q := by
  subst heq
  obtain ⟨hl, hm, hr⟩ := h
  obtain ⟨hl', hm', hr'⟩ := h'
  obtain rfl : n = n' := by omega
  unfold maxLen at hm
  clear hm'
  have HL := Lib.hid hl
  clear hl hl'
  go_enter Try.func35, Try.ntmps35
  go_wp2
  go_loopw [5] (fun i wr => ∃ k : Nat, k ≤ n ∧ i = .int .i64 k ∧ ∃ q, wr = w.drewN q) (fun i _ => n - (intOf i).toNat)
  case atStart => exact ⟨0, Nat.zero_le _, rfl, 0, rfl⟩
  case round =>
    obtain ⟨k, hk, rfl, q, rfl⟩ := hrel
    by_cases hlt : k < n
    · rcases hr with h0 | ⟨b, off, rfl, hbl, hc⟩
      · omega
      rcases hr' with h0 | ⟨b', off', rfl, hbl', hc'⟩
      · omega
      have hck := hc k hlt
      have hck' := hc' k hlt
      obtain ⟨x, hx⟩ : ∃ x, x = l.getD k 0 := ⟨_, rfl⟩
      rw [← hx] at hck hck'
      clear hc hx hc'
      have hki : (k : Int) < (n : Int) := by omega
      go_wp2
      go_quiet (fail)
      go_wp2
      go_roundw
      case rel => exact ⟨k + 1, by omega, by go_num, _, rfl⟩
      case measure => simp [intOf]; omega
    · have hkn : k = n := by omega
      subst hkn
      clear hr hr'
      go_wp2
      go_ret
      exact ⟨rfl, q, rfl⟩

set_option maxRecDepth 100000 in
set_option maxHeartbeats 400000 in
theorem copyInts (a : Option Addr) (n cap : Nat) (l : List Int) (w : World) (h : Ints .i64 w a n l) (hs : n ≤ 1048576) :
    Calls Try.prog 41 #[.slice a n cap] w fun e w' => e = .returned (.slice (some ⟨w.heap.size, 0, none⟩) n n) ∧ Own w' w.heap.size (.slice (some ⟨w.heap.size, 0, none⟩) n n) l ∧ Below w.heap.size w w' := by
  obtain ⟨hl, hm, hr⟩ := h
  have hm2 := hm
  unfold maxLen at hm
  have HL := Lib.hid hl
  clear hl
  have hmk := run_make_row' (P := Try.prog) 26 2 (.int .i64 0) 8 Try.underlying26 info64 rfl .i64 .i64 n (by omega) (by omega)
  go_enter Try.func41, Try.ntmps41
  go_wp2
  clear hmk
  go_loopw [4] (fun i wr => ∃ k : Nat, k ≤ n ∧ i = .int .i64 k ∧ Own wr w.heap.size (.slice (some ⟨w.heap.size, 0, none⟩) n n) ((List.range n).map fun j => if j < k then l.getD j 0 else 0) ∧ Below w.heap.size w wr) (fun i _ => n - (intOf i).toNat)
  case atStart => exact ⟨0, Nat.zero_le _, rfl, by simpa using own_made w _ n (Nat.le_refl _) hm2, b_alloc _ _⟩
  case round =>
    obtain ⟨k, hk, rfl, hrow, hb⟩ := hrel
    by_cases hlt : k < n
    · rcases hr with h0 | ⟨b, off, rfl, hbl, hc⟩
      · omega
      have hck := hc k hlt
      obtain ⟨x, hx⟩ : ∃ x, x = l.getD k 0 := ⟨_, rfl⟩
      rw [← hx] at hck
      have hck' : wr.cell? ⟨b, off + k, none⟩ = some (.int .i64 x) := by rw [hb.cell (p := ⟨b, off + k, none⟩) hbl]; exact hck
      have hst : ∃ v, wr.cell? ⟨w.heap.size, k, none⟩ = some v := ⟨_, hrow.cellAt k hlt⟩
      obtain ⟨v, hst⟩ := hst
      have hfz := hrow.frozenAt k
      have HR := Lib.hid hrow
      have HB := Lib.hid hb
      have HX := Lib.hid hx
      clear hc hx hck hrow hb
      go_wp2
      go_roundw
      case rel =>
        refine ⟨k + 1, by omega, by go_num, ?_, HB.out.setCell (Nat.le_refl _) _⟩
        have := Own.set HR.out k x
        rw [M.map_set] at this
        refine (congrArg (Own _ _ _) (List.map_congr_left fun j hj => ?_)).mp this
        by_cases e : j = k
        · subst e; rw [if_pos rfl, if_pos (by omega), HX.out]
        · rw [if_neg e]
          by_cases e2 : j < k
          · rw [if_pos e2, if_pos (by omega)]
          · rw [if_neg e2, if_neg (by omega)]
      case measure => simp [intOf]; omega
    · have hkn : k = n := by omega
      subst hkn
      have HR := Lib.hid hrow
      have HB := Lib.hid hb
      clear hr hrow hb
      go_wp2
      go_ret
      refine ⟨rfl, ?_, HB.out⟩
      refine (congrArg (Own _ _ _) ?_).mp HR.out
      have hl := HL.out
      apply List.ext_getElem
      · simp [hl]
      · intro i h1 h2
        simp [show i < k by omega, h2]

/-- What is left of a size. -/
def SzPost (n : Nat) (left : Int) (w : World) (e : Ending) (w' : World) : Prop := ∃ x : Int, e = .returned (.int .i64 x) ∧ (x < 0 ∨ (0 ≤ x ∧ x + n = left)) ∧ w = w'

set_option maxRecDepth 100000 in
set_option maxHeartbeats 400000 in
theorem szInts (a : Option Addr) (n cap : Nat) (left : Int) (w : World) (hm : n ≤ maxLen) (h1 : 0 ≤ left) (h2 : left ≤ 1048576) :
    Calls Try.prog 79 #[.slice a n cap, .int .i64 left] w (SzPost n left w) := by
  unfold maxLen at hm
  by_cases hlt : left < n
  · go_enter Try.func79, Try.ntmps79
    go_wp2
    go_ret
    exact ⟨_, rfl, .inl (by omega), rfl⟩
  · go_enter Try.func79, Try.ntmps79
    go_wp2
    go_ret
    exact ⟨_, rfl, .inr ⟨by omega, by omega⟩, rfl⟩

/-- What is left of a size: nothing, or all the sizes fit. -/
def SzMPost (n : Nat) (R : List (List Int)) (left : Int) (w : World) (e : Ending) (w' : World) : Prop := ∃ x : Int, e = .returned (.int .i64 x) ∧ (x < 0 ∨ (0 ≤ x ∧ x ≤ left ∧ (n : Int) ≤ left ∧ (M.pre R R.length : Int) ≤ left)) ∧ w = w'

set_option maxRecDepth 100000 in
set_option maxHeartbeats 400000 in
theorem szIntss (a : Option Addr) (n cap : Nat) (R : List (List Int)) (left : Int) (w : World) (h : Mat w a n R) (h1 : 0 ≤ left) (h2 : left ≤ 1048576) :
    Calls Try.prog 29 #[.slice a n cap, .int .i64 left] w (SzMPost n R left w) := by
  have HM := Lib.hid h
  obtain ⟨hl, hm, -⟩ := h
  unfold maxLen at hm
  have HL := Lib.hid hl
  clear hl
  by_cases hlt : left < n
  · go_enter Try.func29, Try.ntmps29
    go_wp2
    go_ret
    exact ⟨_, rfl, .inl (by omega), rfl⟩
  · go_enter Try.func29, Try.ntmps29
    go_wp2
    go_loop [1, 5] (fun x i => ∃ (k : Nat) (y : Int), k ≤ n ∧ i = .int .i64 k ∧ x = .int .i64 y ∧ 0 ≤ y ∧ (M.pre R k : Int) + n + y ≤ left) (fun _ i => n - (intOf i).toNat)
    case atStart => exact ⟨0, left - n, Nat.zero_le _, rfl, rfl, by omega, by rw [M.pre_zero]; omega⟩
    case round =>
      obtain ⟨k, y, hk, rfl, rfl, hy, hp⟩ := hrel
      by_cases hkn : k < n
      · obtain ⟨b, off, ra, rc, L, l, rfl, hbl, hll, hc, hI⟩ := HM.out.at k hkn
        have hps := M.pre_succ R k (by have := HL.out; omega)
        have hLl : L = l.length := hI.1.symm
        rw [← hll, ← hLl] at hps
        have HP := Lib.hid hps
        have hLm := hI.2.1
        clear hI hll hps hLl
        go_wp2_with fail
        refine (szInts _ _ _ _ _ hLm hy (by omega)).mono ?_
        rintro e w' ⟨z, rfl, hz, rfl⟩
        rcases hz with hz | ⟨hz1, hz2⟩
        · go_wp2
          go_ret
          exact ⟨_, rfl, .inl (by omega), rfl⟩
        · go_wp2
          go_round
          case rel => exact ⟨k + 1, z, by omega, by go_num, rfl, hz1, by rw [HP.out]; omega⟩
          case measure => simp [intOf]; omega
      · obtain rfl : k = n := by omega
        go_wp2
        go_ret
        exact ⟨_, rfl, .inr ⟨hy, by omega, by omega, by rw [HL.out]; omega⟩, rfl⟩

end Go.Proofs.Ytmobcobdpemlnaa.V

namespace Go.Proofs.Ytmobcobdpemlnaa.V
open Go.RowKit

set_option maxRecDepth 100000 in
set_option maxHeartbeats 400000 in
theorem eqIntss (a : Option Addr) (n cap : Nat) (R : List (List Int)) (a' : Option Addr) (n' cap' : Nat) (R' : List (List Int)) (w : World) (h : Mat w a n R) (h' : Mat w a' n' R') (heq : R = R') :
    Calls Try.prog 32 #[.slice a n cap, .slice a' n' cap'] w fun e w' => e = .returned (.bool true) ∧ ∃ q, w' = w.drewN q := by
  subst heq
  have HM := Lib.hid h
  have HM' := Lib.hid h'
  obtain ⟨hl, hm, -⟩ := h
  obtain ⟨hl', -, -⟩ := h'
  obtain rfl : n = n' := by omega
  unfold maxLen at hm
  have HL := Lib.hid hl
  clear hl hl'
  go_enter Try.func32, Try.ntmps32
  go_wp2
  go_loopw [5] (fun i wr => ∃ k : Nat, k ≤ n ∧ i = .int .i64 k ∧ ∃ q, wr = w.drewN q) (fun i _ => n - (intOf i).toNat)
  case atStart => exact ⟨0, Nat.zero_le _, rfl, 0, rfl⟩
  case round =>
    obtain ⟨k, hk, rfl, q, rfl⟩ := hrel
    by_cases hlt : k < n
    · obtain ⟨b, off, ra, rc, L, l, rfl, hbl, hll, hc, hI⟩ := HM.out.at k hlt
      obtain ⟨b', off', ra', rc', L', l', rfl, hbl', hll', hc', hI'⟩ := HM'.out.at k hlt
      have HI := Lib.hid hI
      have HI' := Lib.hid hI'
      have HE := Lib.hid (hll.trans hll'.symm)
      clear hI hI' hll hll' HM HM'
      have hki : (k : Int) < (n : Int) := by omega
      go_wp2
      go_quiet ((go_at_call 35; exact q_more (eqInts _ _ _ l _ _ _ l' _ HI.out HI'.out HE.out)))
      go_wp2
      go_roundw
      case rel => exact ⟨k + 1, by omega, by go_num, _, rfl⟩
      case measure => simp [intOf]; omega
    · have hkn : k = n := by omega
      subst hkn
      go_wp2
      go_ret
      exact ⟨rfl, q, rfl⟩

set_option maxRecDepth 100000 in
set_option maxHeartbeats 400000 in
theorem copyIntss (a : Option Addr) (n cap : Nat) (R : List (List Int)) (w : World) (h : Mat w a n R) (hs : n ≤ 1048576) (hr : M.pre R R.length ≤ 1048576) :
    Calls Try.prog 31 #[.slice a n cap] w fun e w' => e = .returned (.slice (some ⟨w.heap.size, 0, none⟩) n n) ∧ OwnM w' w.heap.size (.slice (some ⟨w.heap.size, 0, none⟩) n n) R ∧ Below w.heap.size w w' := by
  have HM := Lib.hid h
  obtain ⟨hl, hm, -⟩ := h
  have hm2 := hm
  unfold maxLen at hm
  have HL := Lib.hid hl
  have HR := Lib.hid hr
  clear hl hr
  have hmk := run_make_row' (P := Try.prog) 24 26 (.slice none 0 0) 24 Try.underlying24 infoS64 rfl .i64 .i64 n (by omega) (by omega)
  go_enter Try.func31, Try.ntmps31
  go_wp2
  clear hmk
  go_loopw [4] (fun i wr => ∃ k : Nat, k ≤ n ∧ i = .int .i64 k ∧ OwnM wr w.heap.size (.slice (some ⟨w.heap.size, 0, none⟩) n n) ((List.range n).map fun j => if j < k then R.getD j [] else []) ∧ Below w.heap.size w wr) (fun i _ => n - (intOf i).toNat)
  case atStart =>
    refine ⟨0, Nat.zero_le _, rfl, ?_, b_alloc _ _⟩
    refine (congrArg (OwnM _ _ _) ?_).mp (ownM_made w _ n (Nat.le_refl _) hm2)
    apply List.ext_getElem
    · simp
    · intro i h1 h2; simp
  case round =>
    obtain ⟨k, hk, rfl, hO, hb⟩ := hrel
    have HO := Lib.hid hO
    have HB := Lib.hid hb
    clear hO hb
    by_cases hlt : k < n
    · obtain ⟨b, off, ra, rc, L, l, rfl, hbl, hll, hc, hI⟩ := (HM.out.below HB.out).at k hlt
      have HI := Lib.hid hI
      have HLL := Lib.hid hll
      have hLs : L ≤ 1048576 := by
        have e1 := M.len_le_pre R k (by have := HL.out; omega)
        have e2 := HR.out
        have e3 := HI.out.1
        rw [HLL.out] at e3
        omega
      clear hI hll
      go_wp2_with fail
      refine (copyInts _ _ _ l _ HI.out hLs).mono ?_
      rintro e w1 ⟨rfl, ho1, hb1⟩
      have hg := HO.out.lt rfl
      have hst : ∃ v, w1.cell? ⟨w.heap.size, k, none⟩ = some v := by
        obtain ⟨v, hv⟩ := HO.out.outer k hlt
        exact ⟨v, by rw [hb1.cell (p := ⟨w.heap.size, k, none⟩) hg]; exact hv⟩
      obtain ⟨v, hst⟩ := hst
      have hfz : w1.frozen? ⟨w.heap.size, k, none⟩ = false := by rw [hb1.frozen (p := ⟨w.heap.size, k, none⟩) hg]; exact HO.out.outerFz k
      have HN := Lib.hid (HO.out.setRow hb1 HB.out.size ho1 k hlt)
      have HB1 := Lib.hid (bnext HB.out hb1)
      clear ho1 hb1 hg
      go_wp2
      go_roundw
      case rel =>
        refine ⟨k + 1, by omega, by go_num, ?_, HB1.out.setCell (Nat.le_refl _) _⟩
        refine (congrArg (OwnM _ _ _) ?_).mp HN.out
        apply List.ext_getElem
        · simp
        · intro j h1 h2
          simp only [List.length_map, List.length_range] at h2
          rw [List.getElem_set]
          simp only [List.getElem_map, List.getElem_range]
          by_cases e : k = j
          · subst e; rw [if_pos rfl, if_pos (by omega), HLL.out]
          · rw [if_neg e]
            by_cases e2 : j < k
            · rw [if_pos e2, if_pos (by omega)]
            · rw [if_neg e2, if_neg (by omega)]
      case measure => simp [intOf]; omega
    · have hkn : k = n := by omega
      subst hkn
      go_wp2
      go_ret
      refine ⟨rfl, ?_, HB.out⟩
      refine (congrArg (OwnM _ _ _) ?_).mp HO.out
      have hl := HL.out
      apply List.ext_getElem
      · simp [hl]
      · intro i h1 h2
        simp [show i < k by omega, h2]

/-- The same, said for the exact laws. -/
theorem eqM (a : Option Addr) (n cap : Nat) (R : List (List Int)) (a' : Option Addr) (n' cap' : Nat) (w : World) (h : Mat w a n R) (h' : Mat w a' n' R) :
    Calls Try.prog 32 #[.slice a n cap, .slice a' n' cap'] w fun e w' => e = .returned (.bool true) ∧ Below w.heap.size w w' := by
  refine (eqIntss _ _ _ _ _ _ _ _ _ h h' rfl).mono ?_
  rintro e w' ⟨rfl, q, rfl⟩
  exact ⟨rfl, b_draws _ _⟩
theorem eqV (a : Option Addr) (n cap : Nat) (l : List Int) (a' : Option Addr) (n' cap' : Nat) (w : World) (h : Ints .i64 w a n l) (h' : Ints .i64 w a' n' l) :
    Calls Try.prog 35 #[.slice a n cap, .slice a' n' cap'] w fun e w' => e = .returned (.bool true) ∧ Below w.heap.size w w' := by
  refine (eqInts _ _ _ _ _ _ _ _ _ h h' rfl).mono ?_
  rintro e w' ⟨rfl, q, rfl⟩
  exact ⟨rfl, b_draws _ _⟩
end Go.Proofs.Ytmobcobdpemlnaa.V

namespace Go.Proofs.Ytmobcobdpemlnaa.V
open Go.RowKit

/-- Only blocks of S may have changed, and no others were added. -/
structure Chg (S : Nat → Prop) (w w' : World) : Prop where
  os : w'.os = w.os
  tape : w'.tape = w.tape
  output : w'.output = w.output
  size : w'.heap.size = w.heap.size
  other : ∀ k, ¬ S k → w'.heap[k]? = w.heap[k]?

theorem Chg.refl (S : Nat → Prop) (w : World) : Chg S w w := ⟨rfl, rfl, rfl, rfl, fun _ _ => rfl⟩
theorem Chg.trans {S : Nat → Prop} {a b c : World} (h : Chg S a b) (k : Chg S b c) : Chg S a c :=
  ⟨k.os.trans h.os, k.tape.trans h.tape, k.output.trans h.output, k.size.trans h.size, fun i hi => (k.other i hi).trans (h.other i hi)⟩
theorem Chg.mono {S S' : Nat → Prop} {a b : World} (h : Chg S a b) (hs : ∀ k, S k → S' k) : Chg S' a b :=
  ⟨h.os, h.tape, h.output, h.size, fun k hk => h.other k (fun hh => hk (hs k hh))⟩
theorem Chg.below {S : Nat → Prop} {a b : World} {B : Nat} (h : Chg S a b) (hs : ∀ k, S k → B ≤ k) : Below B a b :=
  ⟨h.os, h.tape, h.output, Nat.le_of_eq h.size.symm, fun k hk => h.other k (fun hh => by have := hs k hh; omega)⟩
theorem Chg.set {S : Nat → Prop} {a b : World} (h : Chg S a b) {g i : Nat} (hg : S g) (v : Value) : Chg S a (b.setCell ⟨g, i, none⟩ v) :=
  ⟨h.os, h.tape, h.output, by have := h.size; simpa [World.setCell] using this, fun k hk => (Below.heap_setCell _ _ _ _ (by show k ≠ g; intro e; subst e; exact hk hg)).trans (h.other k hk)⟩
theorem Own.chg {S : Nat → Prop} {w w' : World} {B : Nat} {v : Value} {l : List Int} (h : Own w B v l) (hc : Chg S w w') (hs : ∀ k, v.ownBlock = some k → ¬ S k) : Own w' B v l :=
  ownsRow_keep h fun k hk => hc.other k (hs k hk)

/-- The blocks from lo up to hi are as they were. -/
def Same (lo hi : Nat) (w w' : World) : Prop := ∀ k, lo ≤ k → k < hi → w'.heap[k]? = w.heap[k]?
theorem Same.refl (lo hi : Nat) (w : World) : Same lo hi w w := fun _ _ _ => rfl
theorem Same.below {lo hi b : Nat} {a w w' : World} (h : Same lo hi a w) (hb : Below b w w') (hh : hi ≤ b) : Same lo hi a w' :=
  fun k h1 h2 => (hb.block k (by omega)).trans (h k h1 h2)
theorem Same.chg {S : Nat → Prop} {lo hi : Nat} {a w w' : World} (h : Same lo hi a w) (hc : Chg S w w') (hs : ∀ k, lo ≤ k → k < hi → ¬ S k) : Same lo hi a w' :=
  fun k h1 h2 => (hc.other k (hs k h1 h2)).trans (h k h1 h2)

/-- One row of an owned matrix is rewritten. -/
theorem OwnV.row {w w' : World} {B : Nat} {v : Value} {R : List (List Int)} {V : List Value} {l : List Int} (h : OwnV w B v R V) (i : Nat) (hi : i < R.length) (ho : Own w' B (V.getD i (.slice none 0 0)) l)
    (hc : Chg (fun k => (V.getD i (.slice none 0 0)).ownBlock = some k) w w') : OwnV w' B v (R.set i l) V := by
  obtain ⟨h1, h2, h3, h4, h5⟩ := h
  refine ⟨by simpa using h1, ?_, ?_, ?_, ?_⟩
  · rw [List.length_set]
    exact ownsRow_keep h2 fun k hk => hc.other k (fun e => h4 i hi k e hk)
  · intro j hj
    simp only [List.length_set] at hj
    rw [getD_set _ _ _ _ _ hi]
    by_cases e : j = i
    · subst e; rw [if_pos rfl]; exact ho
    · rw [if_neg e]
      exact (h3 j hj).chg hc (fun k hk e2 => h5 j i hj hi e k hk e2)
  · intro j hj
    simp only [List.length_set] at hj
    exact h4 j hj
  · intro j t hj ht
    simp only [List.length_set] at hj ht
    exact h5 j t hj ht

set_option maxRecDepth 100000 in
set_option maxHeartbeats 400000 in
theorem markInts (a : Option Addr) (n cap B : Nat) (l : List Int) (m : Int) (w : World) (h : Own w B (.slice a n cap) l) (hn : n ≤ 1048576) (h1 : 0 ≤ m) (h2 : m ≤ 40000000) :
    Calls Try.prog 37 #[.slice a n cap, .int .i64 m] w fun e w' => e = .returned (.int .i64 (m + n)) ∧ Own w' B (.slice a n cap) (M.iota m n) ∧ Chg (fun k => (Value.slice a n cap).ownBlock = some k) w w' := by
  have HO := Lib.hid h
  have HL := Lib.hid h.len
  have hgg := own_form h
  obtain ⟨a', c', hv, -, -, hg⟩ := hgg
  injection hv with e1 e2 e3
  subst e1 e3
  rw [← e2] at hg
  clear h e2
  go_enter Try.func37, Try.ntmps37
  go_wp2
  go_loopw [1, 5] (fun x i wr => ∃ k : Nat, k ≤ n ∧ i = .int .i64 k ∧ x = .int .i64 (m + k) ∧ Own wr B (.slice a n cap) ((List.range n).map fun j => if j < k then m + (j : Int) else l.getD j 0) ∧ Chg (fun k => (Value.slice a n cap).ownBlock = some k) w wr) (fun _ i _ => n - (intOf i).toNat)
  case atStart =>
    refine ⟨0, Nat.zero_le _, rfl, by simp, ?_, Chg.refl _ _⟩
    refine (congrArg (Own _ _ _) ?_).mp HO.out
    have hl := HL.out
    apply List.ext_getElem
    · simp [hl]
    · intro i h1 h2
      simp [h1]
  case round =>
    obtain ⟨k, hk, rfl, rfl, hrow, hb⟩ := hrel
    by_cases hlt : k < n
    · obtain ⟨g, rfl, hBg, hgl⟩ := hg (by omega)
      have hst : ∃ v, wr.cell? ⟨g, k, none⟩ = some v := ⟨_, hrow.cellAt k hlt⟩
      obtain ⟨v, hst⟩ := hst
      have hfz := hrow.frozenAt k
      have HR := Lib.hid hrow
      have HB := Lib.hid hb
      clear hrow hb hg
      have hb1 : 0 ≤ m + (k : Int) := by omega
      have hb2 : m + (k : Int) ≤ 50000000 := by omega
      go_wp2
      go_roundw
      case rel =>
        refine ⟨k + 1, by omega, by go_num, vi (by omega), ?_, HB.out.set rfl _⟩
        have := Own.set HR.out k (m + k)
        rw [M.map_set] at this
        refine (congrArg (Own _ _ _) (List.map_congr_left fun j hj => ?_)).mp this
        by_cases e : j = k
        · subst e; rw [if_pos rfl, if_pos (by omega)]
        · rw [if_neg e]
          by_cases e2 : j < k
          · rw [if_pos e2, if_pos (by omega)]
          · rw [if_neg e2, if_neg (by omega)]
      case measure => simp [intOf]; omega
    · have hkn : k = n := by omega
      subst hkn
      have HR := Lib.hid hrow
      have HB := Lib.hid hb
      clear hrow hb hg
      go_wp2
      go_ret
      refine ⟨rfl, (congrArg (Own _ _ _) ?_).mp HR.out, HB.out⟩
      unfold M.iota
      exact List.map_congr_left fun j hj => by rw [if_pos (List.mem_range.1 hj)]

set_option maxRecDepth 100000 in
set_option maxHeartbeats 400000 in
theorem heldInts (a : Option Addr) (n cap : Nat) (m : Int) (w : World) (h : Ints .i64 w a n (M.iota m n)) (hn : n ≤ 1048576) (h1 : 0 ≤ m) (h2 : m ≤ 40000000) :
    Calls Try.prog 38 #[.slice a n cap, .int .i64 m] w fun e w' => e = .returned (.int .i64 (m + n)) ∧ w = w' := by
  have HI := Lib.hid h
  clear h
  go_enter Try.func38, Try.ntmps38
  go_wp2
  go_loop [1, 5] (fun x i => ∃ k : Nat, k ≤ n ∧ i = .int .i64 k ∧ x = .int .i64 (m + k)) (fun _ i => n - (intOf i).toNat)
  case atStart => exact ⟨0, Nat.zero_le _, rfl, by simp⟩
  case round =>
    obtain ⟨k, hk, rfl, rfl⟩ := hrel
    by_cases hlt : k < n
    · obtain ⟨b, off, x, rfl, hbl, hx, hc⟩ := HI.out.at k hlt
      rw [M.iota_getD m n k hlt] at hx
      subst hx
      have hb1 : 0 ≤ m + (k : Int) := by omega
      have hb2 : m + (k : Int) ≤ 50000000 := by omega
      go_wp2
      go_round
      case rel => exact ⟨k + 1, by omega, by go_num, vi (by omega)⟩
      case measure => simp [intOf]; omega
    · have hkn : k = n := by omega
      subst hkn
      go_wp2
      go_ret
      exact ⟨rfl, rfl⟩

set_option maxRecDepth 100000 in
set_option maxHeartbeats 400000 in
theorem markIntss (a : Option Addr) (n cap B : Nat) (R : List (List Int)) (m : Int) (w0 w : World) (h0 : OwnM w0 B (.slice a n cap) R) (hb0 : Same B w0.heap.size w0 w) (hn : n ≤ 1048576) (hp : M.pre R R.length ≤ 1048576) (h1 : 0 ≤ m) (h2 : m + M.pre R R.length ≤ 40000000) :
    Calls Try.prog 36 #[.slice a n cap, .int .i64 m] w fun e w' => e = .returned (.int .i64 (m + M.pre R R.length)) ∧ OwnM w' B (.slice a n cap) (M.marks m R) ∧ Chg (fun k => B ≤ k ∧ k < w0.heap.size) w w' := by
  obtain ⟨V, hV0⟩ := h0
  have hV : OwnV w B (.slice a n cap) R V := by
    obtain ⟨h1, h2, h3, h4, h5⟩ := hV0
    exact ⟨h1, ownsRow_keep h2 (fun k hv => hb0 k (own_lt h2 hv).1 (own_lt h2 hv).2), fun i hi => (h3 i hi).keep hb0, h4, h5⟩
  have hlt : ∀ i, i < n → ∀ k, (V.getD i (.slice none 0 0)).ownBlock = some k → B ≤ k ∧ k < w0.heap.size := by
    obtain ⟨e1, e2, e3, e4, e5⟩ := hV0
    have hl := OwnM.len ⟨V, e1, e2, e3, e4, e5⟩
    exact fun i hi k hk => own_lt (e3 i (by omega)) hk
  have HT := Lib.hid hlt
  have HL := Lib.hid (OwnM.len ⟨V, hV⟩)
  have hgg := own_form hV.2.1
  obtain ⟨a', c', hv, -, -, hg⟩ := hgg
  injection hv with e1 e2 e3
  subst e1 e3
  rw [← e2] at hg
  have HV := Lib.hid hV
  clear hV hlt hV0 e2 hb0
  go_enter Try.func36, Try.ntmps36
  go_wp2
  go_loopw [1, 5] (fun x i wr => ∃ (k : Nat) (y : Int), k ≤ n ∧ i = .int .i64 k ∧ x = .int .i64 y ∧ y = m + M.pre R k ∧ OwnV wr B (.slice a n cap) (M.marked m R k) V ∧ Chg (fun k => B ≤ k ∧ k < w0.heap.size) w wr) (fun _ i _ => n - (intOf i).toNat)
  case atStart => exact ⟨0, m, Nat.zero_le _, rfl, rfl, by rw [M.pre_zero]; omega, by rw [M.marked_zero]; exact HV.out, Chg.refl _ _⟩
  case round =>
    obtain ⟨k, y, hk, rfl, rfl, hy, hO, hb⟩ := hrel
    have HO := Lib.hid hO
    have HB := Lib.hid hb
    by_cases hlt : k < n
    · have hkR : k < R.length := by have := HL.out; omega
      have hps := M.pre_succ R k hkR
      have hpm := M.pre_mono R (show k + 1 ≤ R.length by omega)
      have hle := M.len_le_pre R k hkR
      obtain ⟨g, rfl, hBg, hgl⟩ := hg (by omega)
      have hrow := HO.out.2.2.1 k (by simpa using hkR)
      obtain ⟨ra, rc, hrv, hrc, hrm, hrg⟩ := own_form hrow
      have hcell : wr.cell? ⟨g, k, none⟩ = some (V.getD k (.slice none 0 0)) := by
        have e : n = (M.marked m R k).length := by have := HL.out; simpa using this
        have h2 := HO.out.2.1
        rw [← e] at h2
        rw [World.ownsRow.cellAt h2 k (by omega)]
        have := HO.out.1
        simp [show k < V.length by omega]
      rw [M.marked_rowlen m R k k hkR] at hrv hrc
      rw [hrv] at hcell hrow
      rw [M.marked_at m R k k hkR, if_neg (Nat.lt_irrefl _)] at hrow
      have y1 : 0 ≤ y := by omega
      have y2 : y ≤ 40000000 := by omega
      generalize hLn : (R.getD k []).length = L at *
      have hLs : L ≤ 1048576 := by omega
      have HY := Lib.hid hy
      have HP := Lib.hid hps
      have HRV := Lib.hid hrv
      have HRW := Lib.hid hrow
      have HLn := Lib.hid hLn
      have HTk := Lib.hid (HT.out k hlt)
      clear hO hb hg hps hpm hle hrow hrv hrg hrc hy hLn
      go_wp2_with fail
      refine (markInts _ _ _ B _ _ _ HRW.out hLs y1 y2).mono ?_
      rintro e w1 ⟨rfl, ho1, hc1⟩
      have hN : OwnV w1 B (.slice (some ⟨g, 0, none⟩) n cap) (M.marked m R (k + 1)) V := by
        have := HO.out.row k (by simpa using hkR) (l := M.iota y L) (by rw [HRV.out]; exact ho1) (by rw [HRV.out]; exact hc1)
        rw [HY.out, ← HLn.out, M.marked_set m R k hkR] at this
        exact this
      have HN := Lib.hid hN
      have HB1 := Lib.hid (HB.out.trans (hc1.mono (fun j hj => HTk.out j (by rw [HRV.out]; exact hj))))
      clear ho1 hc1 hN
      go_wp2
      go_roundw
      case rel => exact ⟨k + 1, y + L, by omega, by go_num, rfl, by rw [HY.out, HP.out]; omega, HN.out, HB1.out⟩
      case measure => simp [intOf]; omega
    · have hkn : k = n := by omega
      subst hkn
      have HY := Lib.hid hy
      clear hO hb hg hy
      go_wp2
      go_ret
      have e := HL.out
      refine ⟨by rw [HY.out, ← e]; rfl, ⟨V, ?_⟩, HB.out⟩
      unfold M.marks
      rw [← e]
      exact HO.out

theorem markM (a : Option Addr) (n cap B : Nat) (R : List (List Int)) (m : Int) (w0 w : World) (h0 : OwnM w0 B (.slice a n cap) R) (hb0 : Same B w0.heap.size w0 w) (hn : n ≤ 1048576) (hp : M.pre R R.length ≤ 1048576) (h1 : 0 ≤ m) (h2 : m + M.pre R R.length ≤ 40000000) :
    Calls Try.prog 36 #[.slice a n cap, .int .i64 m] w fun e w' => ∃ y : Int, e = .returned (.int .i64 y) ∧ 0 ≤ y ∧ Hid (y = m + M.pre R R.length) ∧ OwnM w' B (.slice a n cap) (M.marks m R) ∧ Chg (fun k => B ≤ k ∧ k < w0.heap.size) w w' := by
  refine (markIntss _ _ _ _ _ _ _ _ h0 hb0 hn hp h1 h2).mono ?_
  rintro e w' ⟨rfl, ho, hc⟩
  exact ⟨_, rfl, by omega, rfl, ho, hc⟩
theorem markV (a : Option Addr) (n cap B : Nat) (l : List Int) (m : Int) (w0 w : World) (h0 : Own w0 B (.slice a n cap) l) (hb0 : Same B w0.heap.size w0 w) (hn : n ≤ 1048576) (h1 : 0 ≤ m) (h2 : m ≤ 40000000) :
    Calls Try.prog 37 #[.slice a n cap, .int .i64 m] w fun e w' => ∃ y : Int, e = .returned (.int .i64 y) ∧ 0 ≤ y ∧ Hid (y = m + n) ∧ Own w' B (.slice a n cap) (M.iota m n) ∧ Chg (fun k => B ≤ k ∧ k < w0.heap.size) w w' := by
  refine (markInts _ _ _ B l _ _ (h0.keep hb0) hn h1 h2).mono ?_
  rintro e w' ⟨rfl, ho, hc⟩
  exact ⟨_, rfl, by omega, rfl, ho, hc.mono (fun k hk => own_lt h0 hk)⟩
theorem heldV (a : Option Addr) (n cap : Nat) (m y : Int) (w : World) (h : Ints .i64 w a n (M.iota m n)) (hn : n ≤ 1048576) (h1 : 0 ≤ m) (h2 : m ≤ 40000000) (hy : y = m + n) :
    Calls Try.prog 38 #[.slice a n cap, .int .i64 m] w fun e w' => e = .returned (.int .i64 y) ∧ w = w' := by
  subst hy
  exact heldInts _ _ _ _ _ h hn h1 h2
end Go.Proofs.Ytmobcobdpemlnaa.V

namespace Go.Proofs.Ytmobcobdpemlnaa
namespace M
/-- The coefficient m is not Bottom. -/
def nB (c : Nat → Int) (m : Nat) : Prop := c m ≠ -1000000000000000
/-- The middle one of three terms lies above the line through the others. -/
def crit (c : Nat → Int) (i m k : Nat) : Prop := (c k - c m) * ((m : Int) - i) < (c m - c i) * ((k : Int) - m)
instance (c : Nat → Int) (i m k : Nat) : Decidable (crit c i m k) := by unfold crit; infer_instance
/-- How many of the first L terms stay when the term k comes. -/
def popN (c : Nat → Int) (t : Nat → Nat) (k : Nat) : Nat → Nat
  | 0 => 0
  | 1 => 1
  | m + 2 => if crit c (t m) (t (m + 1)) k then m + 2 else popN c t k (m + 1)
/-- The essential terms among the first n. -/
def termsL (c : Nat → Int) : Nat → List Nat
  | 0 => []
  | k + 1 => if c k = -1000000000000000 then termsL c k else (termsL c k).take (popN c (fun i => (termsL c k).getD i 0) k (termsL c k).length) ++ [k]
def Ess (c : Nat → Int) (n m : Nat) : Prop := m < n ∧ nB c m ∧ ∀ i k, i < m → m < k → k < n → nB c i → nB c k → crit c i m k
/-- The height over a line. -/
def G (c : Nat → Int) (p q : Int) (i : Nat) : Int := q * c i + p * i
theorem G_crit (c : Nat → Int) (p q : Int) (i m k : Nat) : (G c p q m - G c p q i) * ((k : Int) - m) - (G c p q k - G c p q m) * ((m : Int) - i) = q * ((c m - c i) * ((k : Int) - m) - (c k - c m) * ((m : Int) - i)) := by
  unfold G
  grind
theorem crit_of {c : Nat → Int} {p q : Int} {i m k : Nat} (hq : 0 < q) (h : (G c p q k - G c p q m) * ((m : Int) - i) < (G c p q m - G c p q i) * ((k : Int) - m)) : crit c i m k := by
  have e := G_crit c p q i m k
  unfold crit
  have h1 : 0 < q * ((c m - c i) * ((k : Int) - m) - (c k - c m) * ((m : Int) - i)) := by omega
  have h2 : 0 < (c m - c i) * ((k : Int) - m) - (c k - c m) * ((m : Int) - i) := by
    rcases Int.lt_or_le 0 ((c m - c i) * ((k : Int) - m) - (c k - c m) * ((m : Int) - i)) with h | h
    · exact h
    · have := Int.mul_nonpos_of_nonneg_of_nonpos (Int.le_of_lt hq) h
      omega
  omega
theorem of_crit {c : Nat → Int} {p q : Int} {i m k : Nat} (hq : 0 < q) (h : crit c i m k) : (G c p q k - G c p q m) * ((m : Int) - i) < (G c p q m - G c p q i) * ((k : Int) - m) := by
  have e := G_crit c p q i m k
  unfold crit at h
  have h1 : 0 < q * ((c m - c i) * ((k : Int) - m) - (c k - c m) * ((m : Int) - i)) := Int.mul_pos hq (by omega)
  omega
theorem np {a b : Int} (h : a ≤ 0) (k : 0 ≤ b) : a * b ≤ 0 := Int.mul_nonpos_of_nonpos_of_nonneg h k
theorem neg_lt {a b : Int} (h : a < 0) (k : 0 < b) : a * b < 0 := Int.mul_neg_of_neg_of_pos h k
/-- A greatest height, at the least index. -/
theorem lo_ex (c : Nat → Int) (p q : Int) : ∀ n, (∃ m, m < n ∧ nB c m) → ∃ lo, lo < n ∧ nB c lo ∧ (∀ m, m < n → nB c m → G c p q m ≤ G c p q lo) ∧ ∀ m, m < lo → nB c m → G c p q m < G c p q lo
  | 0, ⟨m, hm, _⟩ => absurd hm (Nat.not_lt_zero m)
  | n + 1, ⟨m, hm, hb⟩ => by
    by_cases h : ∃ m, m < n ∧ nB c m
    · obtain ⟨lo, h1, h2, h3, h4⟩ := lo_ex c p q n h
      by_cases hn : nB c n ∧ G c p q lo < G c p q n
      · refine ⟨n, Nat.lt_succ_self n, hn.1, fun u hu bu => ?_, fun u hu bu => ?_⟩
        · by_cases e : u = n
          · subst e; exact Int.le_refl _
          · have := h3 u (by omega) bu; omega
        · have := h3 u (by omega) bu; omega
      · refine ⟨lo, by omega, h2, fun u hu bu => ?_, h4⟩
        by_cases e : u = n
        · subst e
          by_cases e2 : G c p q lo < G c p q u
          · exact absurd ⟨bu, e2⟩ hn
          · omega
        · exact h3 u (by omega) bu
    · have e : m = n := by
        by_cases e : m = n
        · exact e
        · exact absurd ⟨m, by omega, hb⟩ h
      subst e
      refine ⟨m, Nat.lt_succ_self m, hb, fun u hu bu => ?_, fun u hu bu => absurd ⟨u, hu, bu⟩ h⟩
      by_cases e : u = m
      · subst e; exact Int.le_refl _
      · exact absurd ⟨u, by omega, bu⟩ h
/-- A greatest height, at the greatest index. -/
theorem hi_ex (c : Nat → Int) (p q : Int) : ∀ n, (∃ m, m < n ∧ nB c m) → ∃ hi, hi < n ∧ nB c hi ∧ (∀ m, m < n → nB c m → G c p q m ≤ G c p q hi) ∧ ∀ m, hi < m → m < n → nB c m → G c p q m < G c p q hi
  | 0, ⟨m, hm, _⟩ => absurd hm (Nat.not_lt_zero m)
  | n + 1, ⟨m, hm, hb⟩ => by
    by_cases h : ∃ m, m < n ∧ nB c m
    · obtain ⟨hi, h1, h2, h3, h4⟩ := hi_ex c p q n h
      by_cases hn : nB c n ∧ G c p q hi ≤ G c p q n
      · refine ⟨n, Nat.lt_succ_self n, hn.1, fun u hu bu => ?_, fun u hu hu2 bu => by omega⟩
        by_cases e : u = n
        · subst e; exact Int.le_refl _
        · have := h3 u (by omega) bu; omega
      · refine ⟨hi, by omega, h2, fun u hu bu => ?_, fun u hu hu2 bu => ?_⟩
        · by_cases e : u = n
          · subst e
            by_cases e2 : G c p q hi ≤ G c p q u
            · exact absurd ⟨bu, e2⟩ hn
            · omega
          · exact h3 u (by omega) bu
        · by_cases e : u = n
          · subst e
            by_cases e2 : G c p q hi ≤ G c p q u
            · exact absurd ⟨bu, e2⟩ hn
            · omega
          · exact h4 u hu (by omega) bu
    · have e : m = n := by
        by_cases e : m = n
        · exact e
        · exact absurd ⟨m, by omega, hb⟩ h
      subst e
      refine ⟨m, Nat.lt_succ_self m, hb, fun u hu bu => ?_, fun u hu hu2 bu => by omega⟩
      by_cases e : u = m
      · subst e; exact Int.le_refl _
      · exact absurd ⟨u, by omega, bu⟩ h
theorem lo_ess {c : Nat → Int} {p q : Int} {n lo : Nat} (hq : 0 < q) (h1 : lo < n) (h2 : nB c lo) (h3 : ∀ m, m < n → nB c m → G c p q m ≤ G c p q lo) (h4 : ∀ m, m < lo → nB c m → G c p q m < G c p q lo) : Ess c n lo := by
  refine ⟨h1, h2, fun i k hi hk hkn bi bk => crit_of (p := p) hq ?_⟩
  have a1 := h4 i hi bi
  have a2 := h3 k hkn bk
  have b1 := np (a := G c p q k - G c p q lo) (b := (lo : Int) - i) (by omega) (by omega)
  have b2 : 0 < (G c p q lo - G c p q i) * ((k : Int) - lo) := Int.mul_pos (by omega) (by omega)
  omega
theorem hi_ess {c : Nat → Int} {p q : Int} {n hi : Nat} (hq : 0 < q) (h1 : hi < n) (h2 : nB c hi) (h3 : ∀ m, m < n → nB c m → G c p q m ≤ G c p q hi) (h4 : ∀ m, hi < m → m < n → nB c m → G c p q m < G c p q hi) : Ess c n hi := by
  refine ⟨h1, h2, fun i k hi' hk hkn bi bk => crit_of (p := p) hq ?_⟩
  have a1 := h3 i (by omega) bi
  have a2 := h4 k hk hkn bk
  have b1 := neg_lt (a := G c p q k - G c p q hi) (b := (hi : Int) - i) (by omega) (by omega)
  have b2 : 0 ≤ (G c p q hi - G c p q i) * ((k : Int) - hi) := Int.mul_nonneg (by omega) (by omega)
  omega
/-- The line through two neighbouring essential terms lies above all others. -/
theorem supp {c : Nat → Int} {p q : Int} {n i k : Nat} (hq : 0 < q) (hi : Ess c n i) (hk : Ess c n k) (hik : i < k) (hno : ∀ m, i < m → m < k → ¬ Ess c n m) (hG : G c p q i = G c p q k) (m : Nat) (hm : m < n) (bm : nB c m) :
    G c p q m ≤ G c p q i ∧ (m < i → G c p q m < G c p q i) ∧ (k < m → G c p q m < G c p q i) := by
  have hle : ∀ m, m < n → nB c m → G c p q m ≤ G c p q i := by
    obtain ⟨lo, l1, l2, l3, l4⟩ := lo_ex c p q n ⟨i, hi.1, hi.2.1⟩
    have hE := lo_ess hq l1 l2 l3 l4
    by_cases hgt : G c p q i < G c p q lo
    · exfalso
      rcases Nat.lt_trichotomy lo i with h | h | h
      · have := of_crit (p := p) hq (hi.2.2 lo k h hik hk.1 l2 hk.2.1)
        rw [show G c p q k - G c p q i = 0 by omega, Int.zero_mul] at this
        have b := neg_lt (a := G c p q i - G c p q lo) (b := (k : Int) - i) (by omega) (by omega)
        omega
      · subst h; omega
      · rcases Nat.lt_trichotomy lo k with h' | h' | h'
        · exact hno lo h h' hE
        · subst h'; omega
        · have := of_crit (p := p) hq (hk.2.2 i lo hik h' l1 hi.2.1 l2)
          rw [show G c p q k - G c p q i = 0 by omega, Int.zero_mul] at this
          have b : 0 < (G c p q lo - G c p q k) * ((k : Int) - i) := Int.mul_pos (by omega) (by omega)
          omega
    · intro m hm bm
      have := l3 m hm bm
      omega
  refine ⟨hle m hm bm, fun h => ?_, fun h => ?_⟩
  · have h1 := hle m hm bm
    have := of_crit (p := p) hq (hi.2.2 m k h hik hk.1 bm hk.2.1)
    rw [show G c p q k - G c p q i = 0 by omega, Int.zero_mul] at this
    rcases Int.lt_or_le (G c p q m) (G c p q i) with g | g
    · exact g
    · rw [show G c p q i - G c p q m = 0 by omega, Int.zero_mul] at this; omega
  · have h1 := hle m hm bm
    have := of_crit (p := p) hq (hk.2.2 i m hik h hm hi.2.1 bm)
    rw [show G c p q k - G c p q i = 0 by omega, Int.zero_mul] at this
    rcases Int.lt_or_le (G c p q m) (G c p q i) with g | g
    · exact g
    · rw [show G c p q m - G c p q k = 0 by omega, Int.zero_mul] at this; omega
/-- The first L numbers t are the essential terms among n. -/
def Hull (c : Nat → Int) (n : Nat) (t : Nat → Nat) (L : Nat) : Prop := (∀ i j, i < j → j < L → t i < t j) ∧ ∀ m, Ess c n m ↔ ∃ j, j < L ∧ t j = m
theorem Hull.ess {c : Nat → Int} {n L : Nat} {t : Nat → Nat} (h : Hull c n t L) {j : Nat} (hj : j < L) : Ess c n (t j) := (h.2 _).2 ⟨j, hj, rfl⟩
theorem Hull.gap {c : Nat → Int} {n L : Nat} {t : Nat → Nat} (h : Hull c n t L) {j : Nat} (hj : j + 1 < L) (m : Nat) (h1 : t j < m) (h2 : m < t (j + 1)) : ¬ Ess c n m := by
  intro he
  obtain ⟨a, ha, rfl⟩ := (h.2 m).1 he
  rcases Nat.lt_trichotomy a j with e | e | e
  · have := h.1 a j e (by omega); omega
  · subst e; omega
  · by_cases e2 : a = j + 1
    · subst e2; omega
    · have := h.1 (j + 1) a (by omega) ha; omega
/-- The direction through two neighbouring terms. -/
theorem G_dir (c : Nat → Int) (i k : Nat) : G c (c i - c k) ((k : Int) - i) i = G c (c i - c k) ((k : Int) - i) k := by
  unfold G
  grind
theorem Hull.supp {c : Nat → Int} {n L : Nat} {t : Nat → Nat} (h : Hull c n t L) {j : Nat} (hj : j + 1 < L) (m : Nat) (hm : m < n) (bm : nB c m) :
    G c (c (t j) - c (t (j + 1))) ((t (j + 1) : Int) - t j) m ≤ G c (c (t j) - c (t (j + 1))) ((t (j + 1) : Int) - t j) (t j) ∧ (m < t j → G c (c (t j) - c (t (j + 1))) ((t (j + 1) : Int) - t j) m < G c (c (t j) - c (t (j + 1))) ((t (j + 1) : Int) - t j) (t j)) ∧ (t (j + 1) < m → G c (c (t j) - c (t (j + 1))) ((t (j + 1) : Int) - t j) m < G c (c (t j) - c (t (j + 1))) ((t (j + 1) : Int) - t j) (t j)) := by
  have hlt := h.1 j (j + 1) (by omega) hj
  exact M.supp (by omega) (h.ess (by omega)) (h.ess hj) hlt (h.gap hj) (G_dir c _ _) m hm bm
theorem least_nB {c : Nat → Int} {n : Nat} : ∀ i, i < n → nB c i → ∃ m, m ≤ i ∧ Ess c n m ∧ ∀ u, u < m → ¬ nB c u := by
  intro i
  induction i using Nat.strongRecOn with
  | ind i ih =>
    intro hi bi
    by_cases h : ∃ u, u < i ∧ nB c u
    · obtain ⟨u, hu, bu⟩ := h
      obtain ⟨m, h1, h2⟩ := ih u hu (by omega) bu
      exact ⟨m, by omega, h2⟩
    · exact ⟨i, Nat.le_refl _, ⟨hi, bi, fun u k hu _ _ bu _ => absurd ⟨u, hu, bu⟩ h⟩, fun u hu bu => h ⟨u, hu, bu⟩⟩
theorem Hull.first {c : Nat → Int} {n L : Nat} {t : Nat → Nat} (h : Hull c n t L) (hL : 0 < L) (u : Nat) (hu : u < t 0) : ¬ nB c u := by
  intro bu
  have hlt : t 0 < n := (h.ess hL).1
  obtain ⟨m, h1, h2, _⟩ := least_nB (n := n) u (by omega) bu
  obtain ⟨a, ha, rfl⟩ := (h.2 m).1 h2
  by_cases e : a = 0
  · subst e; omega
  · have := h.1 0 a (by omega) ha; omega
theorem Hull.pos {c : Nat → Int} {n L : Nat} {t : Nat → Nat} (h : Hull c n t L) {m : Nat} (hm : m < n) (bm : nB c m) : 0 < L := by
  obtain ⟨u, _, h2, _⟩ := least_nB (n := n) m hm bm
  obtain ⟨a, ha, _⟩ := (h.2 u).1 h2
  omega
theorem popN_spec (c : Nat → Int) (t : Nat → Nat) (k : Nat) : ∀ L, popN c t k L ≤ L ∧ (0 < L → 0 < popN c t k L) ∧ (∀ m, popN c t k L = m + 2 → crit c (t m) (t (m + 1)) k) ∧ ∀ j, popN c t k L ≤ j + 1 → j + 1 < L → ¬ crit c (t j) (t (j + 1)) k
  | 0 => ⟨Nat.le_refl _, fun h => by omega, fun m h => by simp [popN] at h, fun j _ h => by omega⟩
  | 1 => ⟨Nat.le_refl _, fun _ => by simp [popN], fun m h => by simp [popN] at h, fun j _ h => by omega⟩
  | m + 2 => by
    obtain ⟨h1, h2, h3, h4⟩ := popN_spec c t k (m + 1)
    by_cases e : crit c (t m) (t (m + 1)) k
    · have hp : popN c t k (m + 2) = m + 2 := by rw [popN, if_pos e]
      rw [hp]
      refine ⟨Nat.le_refl _, fun _ => by omega, fun u hu => ?_, fun j _ _ => by omega⟩
      obtain rfl : u = m := by omega
      exact e
    · have hp : popN c t k (m + 2) = popN c t k (m + 1) := by rw [popN, if_neg e]
      rw [hp]
      refine ⟨by omega, fun _ => h2 (by omega), h3, fun j hj hj2 => ?_⟩
      by_cases e2 : j = m
      · subst e2; exact e
      · exact h4 j hj (by omega)
/-- The terms that stay. -/
theorem Hull.stay {c : Nat → Int} {n L : Nat} {t : Nat → Nat} (h : Hull c n t L) (K : Nat) (hK : K ≤ L) (hc : ∀ m, K = m + 2 → crit c (t m) (t (m + 1)) n) :
    ∀ d j, K = j + 2 + d → (G c (c (t j) - c (t (j + 1))) ((t (j + 1) : Int) - t j) n < G c (c (t j) - c (t (j + 1))) ((t (j + 1) : Int) - t j) (t j)) ∧ ∀ i, i < t (j + 1) → nB c i → crit c i (t (j + 1)) n := by
  intro d
  induction d with
  | zero =>
    intro j hj
    have hlt := h.1 j (j + 1) (by omega) (by omega)
    have hn := (h.ess (j := j + 1) (by omega)).1
    have hA : G c (c (t j) - c (t (j + 1))) ((t (j + 1) : Int) - t j) n < G c (c (t j) - c (t (j + 1))) ((t (j + 1) : Int) - t j) (t j) := by
      have k1 := of_crit (p := c (t j) - c (t (j + 1))) (q := (t (j + 1) : Int) - t j) (by omega) (hc j (by omega))
      rw [← G_dir, Int.sub_self, Int.zero_mul] at k1
      rcases Int.lt_or_le (G c (c (t j) - c (t (j + 1))) ((t (j + 1) : Int) - t j) n) (G c (c (t j) - c (t (j + 1))) ((t (j + 1) : Int) - t j) (t j)) with g | g
      · exact g
      · have := Int.mul_nonneg (a := G c (c (t j) - c (t (j + 1))) ((t (j + 1) : Int) - t j) n - G c (c (t j) - c (t (j + 1))) ((t (j + 1) : Int) - t j) (t j)) (b := (t (j + 1) : Int) - t j) (by omega) (by omega)
        omega
    refine ⟨hA, fun i hi bi => crit_of (p := c (t j) - c (t (j + 1))) (q := (t (j + 1) : Int) - t j) (by omega) ?_⟩
    have k2 := (h.supp (j := j) (by omega) i (by omega) bi).1
    rw [← G_dir]
    have b1 := neg_lt (a := G c (c (t j) - c (t (j + 1))) ((t (j + 1) : Int) - t j) n - G c (c (t j) - c (t (j + 1))) ((t (j + 1) : Int) - t j) (t j)) (b := (t (j + 1) : Int) - i) (by omega) (by omega)
    have b2 := Int.mul_nonneg (a := G c (c (t j) - c (t (j + 1))) ((t (j + 1) : Int) - t j) (t j) - G c (c (t j) - c (t (j + 1))) ((t (j + 1) : Int) - t j) i) (b := (n : Int) - t (j + 1)) (by omega) (by omega)
    omega
  | succ d ih =>
    intro j hj
    obtain ⟨-, hcr⟩ := ih (j + 1) (by omega)
    have hlt := h.1 j (j + 1) (by omega) (by omega)
    have hlt2 := h.1 (j + 1) (j + 1 + 1) (by omega) (by omega)
    have hn := (h.ess (j := j + 1 + 1) (by omega)).1
    have bj := (h.ess (j := j) (by omega)).2.1
    have hA : G c (c (t j) - c (t (j + 1))) ((t (j + 1) : Int) - t j) n < G c (c (t j) - c (t (j + 1))) ((t (j + 1) : Int) - t j) (t j) := by
      have k1 := of_crit (p := c (t j) - c (t (j + 1))) (q := (t (j + 1) : Int) - t j) (by omega) (hcr (t j) (by omega) bj)
      have k3 := (h.supp (j := j) (by omega) (t (j + 1 + 1)) (by omega) (h.ess (j := j + 1 + 1) (by omega)).2.1).1
      have b1 := np (a := G c (c (t j) - c (t (j + 1))) ((t (j + 1) : Int) - t j) (t (j + 1 + 1)) - G c (c (t j) - c (t (j + 1))) ((t (j + 1) : Int) - t j) (t j)) (b := (n : Int) - t (j + 1 + 1)) (by omega) (by omega)
      rcases Int.lt_or_le (G c (c (t j) - c (t (j + 1))) ((t (j + 1) : Int) - t j) n) (G c (c (t j) - c (t (j + 1))) ((t (j + 1) : Int) - t j) (t (j + 1 + 1))) with g | g
      · omega
      · have := Int.mul_nonneg (a := G c (c (t j) - c (t (j + 1))) ((t (j + 1) : Int) - t j) n - G c (c (t j) - c (t (j + 1))) ((t (j + 1) : Int) - t j) (t (j + 1 + 1))) (b := (t (j + 1 + 1) : Int) - t j) (by omega) (by omega)
        omega
    refine ⟨hA, fun i hi bi => crit_of (p := c (t j) - c (t (j + 1))) (q := (t (j + 1) : Int) - t j) (by omega) ?_⟩
    have k2 := (h.supp (j := j) (by omega) i (by omega) bi).1
    rw [← G_dir]
    have b1 := neg_lt (a := G c (c (t j) - c (t (j + 1))) ((t (j + 1) : Int) - t j) n - G c (c (t j) - c (t (j + 1))) ((t (j + 1) : Int) - t j) (t j)) (b := (t (j + 1) : Int) - i) (by omega) (by omega)
    have b2 := Int.mul_nonneg (a := G c (c (t j) - c (t (j + 1))) ((t (j + 1) : Int) - t j) (t j) - G c (c (t j) - c (t (j + 1))) ((t (j + 1) : Int) - t j) i) (b := (n : Int) - t (j + 1)) (by omega) (by omega)
    omega
theorem ess_up {c : Nat → Int} {n m : Nat} (hn : ¬ nB c n) : Ess c (n + 1) m ↔ Ess c n m := by
  constructor
  · rintro ⟨h1, h2, h3⟩
    have : m ≠ n := fun e => hn (e ▸ h2)
    exact ⟨by omega, h2, fun i k a b d => h3 i k a b (by omega)⟩
  · rintro ⟨h1, h2, h3⟩
    refine ⟨by omega, h2, fun i k a b d bi bk => h3 i k a b ?_ bi bk⟩
    have : k ≠ n := fun e => hn (e ▸ bk)
    omega
theorem Hull.next {c : Nat → Int} {n L : Nat} {t : Nat → Nat} (h : Hull c n t L) (hn : nB c n) : Hull c (n + 1) (fun j => if j < popN c t n L then t j else n) (popN c t n L + 1) := by
  obtain ⟨p1, p2, p3, p4⟩ := popN_spec c t n L
  generalize popN c t n L = K at *
  refine ⟨fun i j hij hj => ?_, fun m => ⟨fun he => ?_, ?_⟩⟩
  · show (if i < K then t i else n) < (if j < K then t j else n)
    rw [if_pos (by omega)]
    by_cases e : j < K
    · rw [if_pos e]; exact h.1 i j hij (by omega)
    · rw [if_neg e]; exact (h.ess (j := i) (by omega)).1
  · by_cases e : m = n
    · exact ⟨K, by omega, by show (if K < K then _ else _) = _; rw [if_neg (by omega), e]⟩
    · have h1 : Ess c n m := ⟨by have := he.1; omega, he.2.1, fun i k a b d => he.2.2 i k a b (by omega)⟩
      obtain ⟨j, hj, rfl⟩ := (h.2 m).1 h1
      by_cases hjK : j < K
      · exact ⟨j, by omega, by show (if j < K then _ else _) = _; rw [if_pos hjK]⟩
      · exfalso
        obtain ⟨u, rfl⟩ : ∃ u, j = u + 1 := ⟨j - 1, by have := p2 (by omega); omega⟩
        refine p4 u (by omega) hj (he.2.2 (t u) n (h.1 u (u + 1) (by omega) hj) ?_ (by omega) (h.ess (j := u) (by omega)).2.1 hn)
        exact (h.ess hj).1
  · rintro ⟨j, hj, rfl⟩
    by_cases e : j < K
    · show Ess c (n + 1) (if j < K then t j else n)
      rw [if_pos e]
      obtain ⟨h1, h2, h3⟩ := h.ess (j := j) (by omega)
      refine ⟨by omega, h2, fun i k a b d bi bk => ?_⟩
      by_cases ek : k = n
      · subst ek
        by_cases ej : j = 0
        · subst ej; exact absurd bi (h.first (by omega) i a)
        · obtain ⟨u, rfl⟩ : ∃ u, j = u + 1 := ⟨j - 1, by omega⟩
          exact (h.stay K p1 p3 (K - (u + 2)) u (by omega)).2 i a bi
      · exact h3 i k a b (by omega) bi bk
    · show Ess c (n + 1) (if j < K then t j else n)
      rw [if_neg e]
      exact ⟨by omega, hn, fun i k a b d => by omega⟩
theorem take_snoc_getD (l : List Nat) (K x : Nat) (hK : K ≤ l.length) (j : Nat) (hj : j < K + 1) : (l.take K ++ [x]).getD j 0 = if j < K then l.getD j 0 else x := by
  by_cases e : j < K
  · rw [if_pos e]
    rw [List.getD_eq_getElem?_getD, List.getD_eq_getElem?_getD, List.getElem?_append_left (by rw [List.length_take]; omega), List.getElem?_take_of_lt e]
  · rw [if_neg e]
    obtain rfl : j = K := by omega
    rw [List.getD_eq_getElem?_getD, List.getElem?_append_right (by rw [List.length_take]; omega), List.length_take, show j - min j l.length = 0 by omega]
    rfl
theorem Hull.congr {c : Nat → Int} {n L : Nat} {t t' : Nat → Nat} (h : Hull c n t L) (e : ∀ j, j < L → t' j = t j) : Hull c n t' L := by
  refine ⟨fun i j hij hj => by rw [e i (by omega), e j hj]; exact h.1 i j hij hj, fun m => (h.2 m).trans ⟨?_, ?_⟩⟩
  · rintro ⟨j, hj, rfl⟩; exact ⟨j, hj, e j hj⟩
  · rintro ⟨j, hj, rfl⟩; exact ⟨j, hj, (e j hj).symm⟩
theorem terms_hull (c : Nat → Int) : ∀ n, Hull c n (fun i => (termsL c n).getD i 0) (termsL c n).length
  | 0 => ⟨fun i j _ hj => by simp [termsL] at hj, fun m => ⟨fun h => absurd h.1 (Nat.not_lt_zero m), fun ⟨j, hj, _⟩ => by simp [termsL] at hj⟩⟩
  | n + 1 => by
    have ih := terms_hull c n
    by_cases e : c n = -1000000000000000
    · have ht : termsL c (n + 1) = termsL c n := by rw [termsL, if_pos e]
      rw [ht]
      exact ⟨ih.1, fun m => (ess_up (fun k => k e)).trans (ih.2 m)⟩
    · have ht : termsL c (n + 1) = (termsL c n).take (popN c (fun i => (termsL c n).getD i 0) n (termsL c n).length) ++ [n] := by rw [termsL, if_neg e]
      have hn := ih.next e
      have p1 := (popN_spec c (fun i => (termsL c n).getD i 0) n (termsL c n).length).1
      rw [ht]
      rw [show ((termsL c n).take (popN c (fun i => (termsL c n).getD i 0) n (termsL c n).length) ++ [n]).length = popN c (fun i => (termsL c n).getD i 0) n (termsL c n).length + 1 by rw [List.length_append, List.length_take, Nat.min_eq_left p1]; rfl]
      exact hn.congr fun j hj => take_snoc_getD _ _ _ p1 j hj
/-- Two hulls with the same essential terms are the same. -/
theorem hull_uniq {c d : Nat → Int} {n L L' : Nat} {t t' : Nat → Nat} (h : Hull c n t L) (h' : Hull d n t' L') (he : ∀ m, Ess c n m ↔ Ess d n m) : L = L' ∧ ∀ j, j < L → t j = t' j := by
  have key : ∀ j, (j < L → j < L' ∧ t j = t' j) ∧ (j < L' → j < L ∧ t j = t' j) := by
    intro j
    induction j using Nat.strongRecOn with
    | ind j ih =>
      have a : ∀ {c d : Nat → Int} {L L' : Nat} {t t' : Nat → Nat}, Hull c n t L → Hull d n t' L' → (∀ m, Ess c n m ↔ Ess d n m) → (∀ u, u < j → (u < L → u < L' ∧ t u = t' u)) → j < L → ∃ b, b < L' ∧ j ≤ b ∧ t' b = t j := by
        intro c d L L' t t' h h' he ih hj
        obtain ⟨b, hb, e⟩ := (h'.2 _).1 ((he _).1 (h.ess hj))
        refine ⟨b, hb, ?_, e⟩
        rcases Nat.lt_or_ge b j with k | k
        · have := (ih b k (by omega)).2
          have := h.1 b j k hj
          omega
        · exact k
      refine ⟨fun hj => ?_, fun hj => ?_⟩
      · obtain ⟨b, hb, hjb, e⟩ := a h h' he (fun u hu => (ih u hu).1) hj
        obtain ⟨b2, hb2, hjb2, e2⟩ := a h' h (fun m => (he m).symm) (fun u hu hL => ⟨((ih u hu).2 hL).1, ((ih u hu).2 hL).2.symm⟩) (show j < L' by omega)
        refine ⟨by omega, ?_⟩
        by_cases q : b = j
        · subst q; exact e.symm
        · have g1 := h'.1 j b (by omega) hb
          by_cases q2 : b2 = j
          · subst q2; exact e2
          · have g2 := h.1 j b2 (by omega) hb2
            omega
      · obtain ⟨b2, hb2, hjb2, e2⟩ := a h' h (fun m => (he m).symm) (fun u hu hL => ⟨((ih u hu).2 hL).1, ((ih u hu).2 hL).2.symm⟩) hj
        obtain ⟨b, hb, hjb, e⟩ := a h h' he (fun u hu => (ih u hu).1) (show j < L by omega)
        refine ⟨by omega, ?_⟩
        by_cases q : b = j
        · subst q; exact e.symm
        · have g1 := h'.1 j b (by omega) hb
          by_cases q2 : b2 = j
          · subst q2; exact e2
          · have g2 := h.1 j b2 (by omega) hb2
            omega
  refine ⟨?_, fun j hj => ((key j).1 hj).2⟩
  rcases Nat.lt_trichotomy L L' with e | e | e
  · have := ((key L).2 e).1; omega
  · exact e
  · have := ((key L').1 e).1; omega
theorem terms_lt {c : Nat → Int} {n j : Nat} (hj : j < (termsL c n).length) : (termsL c n).getD j 0 < n := ((terms_hull c n).ess hj).1
theorem terms_nB {c : Nat → Int} {n j : Nat} (hj : j < (termsL c n).length) : nB c ((termsL c n).getD j 0) := ((terms_hull c n).ess hj).2.1
theorem terms_inc {c : Nat → Int} {n i j : Nat} (hij : i < j) (hj : j < (termsL c n).length) : (termsL c n).getD i 0 < (termsL c n).getD j 0 := (terms_hull c n).1 i j hij hj
theorem terms_len (c : Nat → Int) : ∀ n, (termsL c n).length ≤ n
  | 0 => Nat.le_refl _
  | n + 1 => by
    have ih := terms_len c n
    by_cases e : c n = -1000000000000000
    · rw [termsL, if_pos e]; omega
    · rw [termsL, if_neg e]; simp; omega
theorem terms_pos {c : Nat → Int} {n m : Nat} (hm : m < n) (bm : nB c m) : 0 < (termsL c n).length := (terms_hull c n).pos hm bm
end M
end Go.Proofs.Ytmobcobdpemlnaa

namespace Go.Proofs.Ytmobcobdpemlnaa
namespace M
def shvL (l : List Int) (g : Int) : List Int := l.map fun x => times x g
def shvRes (l : List Int) (g : Int) : List Int × Int := if isVec l then (if isFin g then (if isVec (shvL l g) then (shvL l g, 0) else ([], 3)) else ([], 2)) else ([], 1)
theorem shv_len (l : List Int) (g : Int) : (shvL l g).length = l.length := by simp [shvL]
theorem shv_get {l : List Int} {g : Int} {i : Nat} (hi : i < l.length) : (shvL l g).getD i 0 = times (l.getD i 0) g := by
  simp [shvL, hi]
theorem shv_take {l : List Int} {g : Int} {k : Nat} (hk : k < l.length) : (shvL l g).take (k + 1) = (shvL l g).take k ++ [times (l.getD k 0) g] := by
  have h := List.take_succ_eq_append_getElem (l := shvL l g) (i := k) (by rw [shv_len]; exact hk)
  rw [h]
  congr 2
  simp [shvL, hk]
theorem shvRes_len (l : List Int) (g : Int) : (shvRes l g).1.length ≤ 10 := by
  unfold shvRes
  split
  · split
    · split
      · rename_i h
        have := (isVec_t h).2.1
        exact this
      · exact Nat.zero_le _
    · exact Nat.zero_le _
  · exact Nat.zero_le _
/-- The element with the index k of the orbit of x. -/
def orb (R : List (List Int)) (x : List Int) : Nat → List Int
  | 0 => x
  | k + 1 => applyM R (orb R x k)
def orbL (R : List (List Int)) (x : List Int) (k : Nat) : List (List Int) := (List.range k).map (orb R x)
def orbCode (R : List (List Int)) (x : List Int) : Int := if sqB R && isVec x then (if x.length = R.length then 0 else 5) else 1
def orbRes (R : List (List Int)) (x : List Int) (n : Int) : List (List Int) × Int :=
  if orbCode R x = 0 then (if 0 ≤ n ∧ n ≤ 100 then (if (orbL R x (n.toNat + 1)).all isVec then (orbL R x (n.toNat + 1), 0) else ([], 3)) else ([], 2)) else ([], orbCode R x)
theorem orbCode_t {R : List (List Int)} {x : List Int} (h : orbCode R x = 0) : sqB R = true ∧ isVec x = true ∧ x.length = R.length := by
  unfold orbCode at h
  by_cases h1 : (sqB R && isVec x) = true
  · rw [if_pos h1] at h
    by_cases h2 : x.length = R.length
    · rw [Bool.and_eq_true] at h1
      exact ⟨h1.1, h1.2, h2⟩
    · rw [if_neg h2] at h; exact absurd h (by decide)
  · rw [if_neg h1] at h; exact absurd h (by decide)
theorem orbL_len (R : List (List Int)) (x : List Int) (k : Nat) : (orbL R x k).length = k := by simp [orbL]
theorem orbL_next (R : List (List Int)) (x : List Int) (k : Nat) : orbL R x (k + 1) = orbL R x k ++ [orb R x k] := by
  simp [orbL, List.range_succ]
theorem orbL_get {R : List (List Int)} {x : List Int} {k i : Nat} (h : i < k) : (orbL R x k).getD i [] = orb R x i := by
  simp [orbL, h]
theorem orb_len {R : List (List Int)} {x : List Int} (h : x.length = R.length) : ∀ k, (orb R x k).length = R.length
  | 0 => h
  | _ + 1 => apply_len' _ _
theorem orb_all {R : List (List Int)} {x : List Int} {k : Nat} (h : (orbL R x k).all isVec = true) {i : Nat} (hi : i < k) : isVec (orb R x i) = true := by
  rw [List.all_eq_true] at h
  exact h _ (List.mem_map.2 ⟨i, List.mem_range.2 hi, rfl⟩)
theorem orb_all_next {R : List (List Int)} {x : List Int} {k : Nat} (h : (orbL R x k).all isVec = true) (h2 : isVec (orb R x k) = true) : (orbL R x (k + 1)).all isVec = true := by
  rw [orbL_next, List.all_append, h]
  simp [h2]
theorem orb_all_not {R : List (List Int)} {x : List Int} {k m : Nat} (hk : k < m) (h2 : isVec (orb R x k) = false) : (orbL R x m).all isVec = false := by
  cases e : (orbL R x m).all isVec with
  | false => rfl
  | true => rw [orb_all e hk] at h2; exact absurd h2 (by decide)
end M
end Go.Proofs.Ytmobcobdpemlnaa
