/- Texts laid together: Fra. -/
import Derived.Test.YtjbffpmelglegaaRows
import Derived.Test.YtjbffpmelglegaaQa64
import Derived.Test.YtjbffpmelglegaaQa2
import Derived.WalkKit
import Derived.ProofKit
import Derived.WalkSmall
import Derived.Deep.QuietTactic
import Derived.BigQuiet
import Derived.BigRegion
import Derived.Deep.Draws
import Derived.Deep.OwnRows
import Derived.Deep.AppendLies
import Derived.Maps.AppendAt
import Derived.Lib.Hide
import Derived.IntWalk
set_option linter.unusedSimpArgs false
set_option linter.unusedVariables false
set_option linter.unusedSectionVars false
namespace Go.Proofs.Ytjbffpmelglegaa
namespace M
def ff (p : Fr) (j : Nat) : Int := if j = 0 then p.1 else if j = 1 then p.2.1 else p.2.2
def setFr (p : Fr) (j : Nat) (x : Int) : Fr := if j = 0 then (x, p.2.1, p.2.2) else if j = 1 then (p.1, x, p.2.2) else (p.1, p.2.1, x)
theorem ff_set (p : Fr) (x : Int) {j k : Nat} (hj : j < 3) (hk : k < 3) : ff (setFr p j x) k = if k = j then x else ff p k := by
  have h1 : j = 0 ∨ j = 1 ∨ j = 2 := by omega
  have h2 : k = 0 ∨ k = 1 ∨ k = 2 := by omega
  rcases h1 with rfl | rfl | rfl <;> rcases h2 with rfl | rfl | rfl <;> rfl
/-- One number of a firing is changed. -/
def stFr (l : List Fr) (i j : Nat) (x : Int) : List Fr := l.set i (setFr (l.getD i fz) j x)
theorem stFr_len (l : List Fr) (i j : Nat) (x : Int) : (stFr l i j x).length = l.length := by simp [stFr]
end M
namespace V
set_option maxRecDepth 100000
open Go.RowKit
theorem infoF : (Try.prog.info? 77).map (fun i => (i.zero, i.size, i.bytes)) = some (some (.agg #[.int .i64 0, .int .i64 0, .int .i64 0]), 3, 24) := by kernel_rfl
/-- A firing by value. -/
def fV (p : M.Fr) : Value := .agg #[.int .i64 p.1, .int .i64 p.2.1, .int .i64 p.2.2]
/-- Three cells a firing. -/
def fcells (l : List M.Fr) : List Value := (List.range (l.length * 3)).map fun q => Value.int .i64 (M.ff (l.getD (q / 3) M.fz) (q % 3))
theorem fcells_len (l : List M.Fr) : (fcells l).length = l.length * 3 := by simp [fcells]
theorem fcells_get (l : List M.Fr) {q : Nat} (hq : q < l.length * 3) : (fcells l)[q]? = some (.int .i64 (M.ff (l.getD (q / 3) M.fz) (q % 3))) := by
  unfold fcells
  rw [List.getElem?_map, List.getElem?_range hq]
  rfl
theorem fcells_at (l : List M.Fr) {i : Nat} (hi : i < l.length) : (fcells l)[i * 3]? = some (.int .i64 (l.getD i M.fz).1) ∧ (fcells l)[i * 3 + 1]? = some (.int .i64 (l.getD i M.fz).2.1) ∧ (fcells l)[i * 3 + 2]? = some (.int .i64 (l.getD i M.fz).2.2) := by
  refine ⟨?_, ?_, ?_⟩
  · rw [fcells_get l (by omega), show i * 3 / 3 = i by omega, show i * 3 % 3 = 0 by omega]; rfl
  · rw [fcells_get l (by omega), show (i * 3 + 1) / 3 = i by omega, show (i * 3 + 1) % 3 = 1 by omega]; rfl
  · rw [fcells_get l (by omega), show (i * 3 + 2) / 3 = i by omega, show (i * 3 + 2) % 3 = 2 by omega]; rfl
theorem fcells_ext {l : List M.Fr} {xs : List Value} (hl : xs.length = l.length * 3) (h : ∀ q, q < l.length * 3 → xs[q]? = some (.int .i64 (M.ff (l.getD (q / 3) M.fz) (q % 3)))) : xs = fcells l := by
  apply List.ext_getElem?
  intro q
  by_cases hq : q < l.length * 3
  · rw [h q hq, fcells_get l hq]
  · rw [List.getElem?_eq_none (by omega), List.getElem?_eq_none (by rw [fcells_len]; omega)]
theorem fcells_app (l k : List M.Fr) : fcells (l ++ k) = fcells l ++ fcells k := by
  refine (fcells_ext (by rw [List.length_append, fcells_len, fcells_len, List.length_append]; omega) fun q hq => ?_).symm
  rw [List.length_append] at hq
  by_cases h : q < l.length * 3
  · rw [List.getElem?_append_left (by rw [fcells_len]; exact h), fcells_get l h, List.getD_eq_getElem?_getD, List.getD_eq_getElem?_getD, List.getElem?_append_left (by omega)]
  · rw [List.getElem?_append_right (by rw [fcells_len]; omega), fcells_len, fcells_get k (by omega), List.getD_eq_getElem?_getD, List.getD_eq_getElem?_getD, List.getElem?_append_right (by omega), show (q - l.length * 3) / 3 = q / 3 - l.length by omega, show (q - l.length * 3) % 3 = q % 3 by omega]
theorem fcells_one (p : M.Fr) : fcells [p] = [.int .i64 p.1, .int .i64 p.2.1, .int .i64 p.2.2] := by
  simp [fcells, List.range_succ]
  exact ⟨rfl, rfl, rfl⟩
theorem fcells_set {l : List M.Fr} {i j : Nat} (x : Int) (hi : i < l.length) (hj : j < 3) : (fcells l).set (i * 3 + j) (.int .i64 x) = fcells (l.set i (M.setFr (l.getD i M.fz) j x)) := by
  refine fcells_ext (by rw [List.length_set, fcells_len, List.length_set]) fun q hq => ?_
  rw [List.length_set] at hq
  by_cases h : q = i * 3 + j
  · subst h
    rw [List.getElem?_set_self (by rw [fcells_len]; omega), show (i * 3 + j) / 3 = i by omega, show (i * 3 + j) % 3 = j by omega, List.getD_eq_getElem?_getD, List.getElem?_set_self hi]
    show some (Value.int _ _) = some (.int .i64 (M.ff (M.setFr _ j x) j))
    rw [M.ff_set _ _ hj hj, if_pos rfl]
  · rw [List.getElem?_set_ne (Ne.symm h), fcells_get l hq]
    by_cases h2 : q / 3 = i
    · rw [h2]
      have e : (l.set i (M.setFr (l.getD i M.fz) j x)).getD i M.fz = M.setFr (l.getD i M.fz) j x := by rw [List.getD_eq_getElem?_getD, List.getElem?_set_self hi]; rfl
      rw [e]
      show some (Value.int _ _) = some (.int .i64 (M.ff (M.setFr _ j x) (q % 3)))
      rw [M.ff_set _ _ hj (by omega), if_neg (by omega)]
    · rw [List.getD_eq_getElem?_getD, List.getD_eq_getElem?_getD, List.getElem?_set_ne (Ne.symm h2)]
/-- A slice of places that is read. -/
def Frs (w : World) (a : Option Addr) (n : Nat) (l : List M.Fr) : Prop :=
  l.length = n ∧ n ≤ maxLen ∧ (n = 0 ∨ ∃ b off, a = some ⟨b, off, none⟩ ∧ b < w.heap.size ∧ ∀ i, i < n → w.cell? ⟨b, off + i * 3, none⟩ = some (.int .i64 (l.getD i M.fz).1) ∧ w.cell? ⟨b, off + i * 3 + 1, none⟩ = some (.int .i64 (l.getD i M.fz).2.1) ∧ w.cell? ⟨b, off + i * 3 + 2, none⟩ = some (.int .i64 (l.getD i M.fz).2.2))
theorem Frs.below {w w' : World} {a : Option Addr} {n : Nat} {l : List M.Fr} (h : Frs w a n l) (hb : Below w.heap.size w w') : Frs w' a n l := by
  obtain ⟨h1, h2, h3⟩ := h
  refine ⟨h1, h2, h3.imp id ?_⟩
  rintro ⟨b, off, rfl, hlt, hc⟩
  refine ⟨b, off, rfl, Nat.lt_of_lt_of_le hlt hb.size, fun i hi => ?_⟩
  obtain ⟨c0, c1, c2⟩ := hc i hi
  exact ⟨(hb.cell (p := ⟨b, _, none⟩) hlt).trans c0, (hb.cell (p := ⟨b, _, none⟩) hlt).trans c1, (hb.cell (p := ⟨b, _, none⟩) hlt).trans c2⟩
theorem Frs.at {w : World} {a : Option Addr} {n : Nat} {l : List M.Fr} (h : Frs w a n l) (i : Nat) (hi : i < n) : ∃ b off p0 p1 p2, a = some ⟨b, off, none⟩ ∧ b < w.heap.size ∧ l.getD i M.fz = (p0, p1, p2) ∧ w.cell? ⟨b, off + i * 3, none⟩ = some (.int .i64 p0) ∧ w.cell? ⟨b, off + i * 3 + 1, none⟩ = some (.int .i64 p1) ∧ w.cell? ⟨b, off + i * 3 + 2, none⟩ = some (.int .i64 p2) := by
  obtain ⟨h1, h2, h3⟩ := h
  rcases h3 with h3 | ⟨b, off, rfl, hlt, hc⟩
  · omega
  · obtain ⟨c0, c1, c2⟩ := hc i hi
    exact ⟨b, off, _, _, _, rfl, hlt, rfl, c0, c1, c2⟩
/-- A slice that the call owns, in blocks from B on, holding the places l. -/
def OwnFr (w : World) (B : Nat) (v : Value) (l : List M.Fr) : Prop := w.ownsRow B 77 3 v l.length (fcells l)
theorem OwnFr.lt {w : World} {B : Nat} {v : Value} {l : List M.Fr} (h : OwnFr w B v l) {k : Nat} (hk : v.ownBlock = some k) : B ≤ k ∧ k < w.heap.size := World.ownsRow.lt h k hk
theorem OwnFr.keepB {w w' : World} {B : Nat} {v : Value} {l : List M.Fr} (h : OwnFr w B v l) (hk : ∀ k, v.ownBlock = some k → w'.heap[k]? = w.heap[k]?) : OwnFr w' B v l := by
  obtain ⟨h1, h2⟩ := h
  refine ⟨h1, ?_⟩
  rcases h2 with h2 | ⟨g, cap, cur, hv, hg, hh, r⟩
  · exact .inl h2
  · exact .inr ⟨g, cap, cur, hv, hg, by rw [hk g (by subst hv; rfl)]; exact hh, r⟩
theorem OwnFr.keep {w w' : World} {B : Nat} {v : Value} {l : List M.Fr} (h : OwnFr w B v l) (hk : ∀ k, B ≤ k → k < w.heap.size → w'.heap[k]? = w.heap[k]?) : OwnFr w' B v l :=
  h.keepB fun k hv => hk k (h.lt hv).1 (h.lt hv).2
theorem OwnFr.below {w w' : World} {B : Nat} {v : Value} {l : List M.Fr} (h : OwnFr w B v l) (hb : Below w.heap.size w w') : OwnFr w' B v l := h.keep (fun k _ h2 => hb.block k h2)
theorem OwnFr.mono {w : World} {B B' : Nat} {v : Value} {l : List M.Fr} (h : OwnFr w B v l) (hb : B' ≤ B) : OwnFr w B' v l := World.ownsRow.mono h hb
theorem OwnFr.form {w : World} {B : Nat} {v : Value} {l : List M.Fr} (h : OwnFr w B v l) : ∃ a cap, v = .slice a l.length cap ∧ l.length ≤ cap ∧ cap ≤ maxLen ∧ (0 < l.length → ∃ g, a = some ⟨g, 0, none⟩ ∧ B ≤ g ∧ g < w.heap.size) := by
  have h' := h
  obtain ⟨h1, h2⟩ := h
  rcases h2 with ⟨hv, h0⟩ | ⟨g, cap, cur, hv, hg, hh, hn, hc, r⟩
  · rw [h0]; exact ⟨none, 0, hv, Nat.le_refl _, Nat.zero_le _, fun h => by omega⟩
  · subst hv
    exact ⟨_, cap, rfl, hn, hc, fun _ => ⟨g, rfl, hg, (OwnFr.lt h' rfl).2⟩⟩
theorem OwnFr.len {w : World} {B n cap : Nat} {a : Option Addr} {l : List M.Fr} (h : OwnFr w B (.slice a n cap) l) : n = l.length := by
  obtain ⟨a', c, hv, _⟩ := h.form
  injection hv
theorem ownFr_nil (w : World) (B : Nat) : OwnFr w B (.slice none 0 0) [] := World.ownsRow_nil w B _ 3
theorem OwnFr.frs {w : World} {B n cap : Nat} {a : Option Addr} {l : List M.Fr} (h : OwnFr w B (.slice a n cap) l) : Frs w a n l := by
  have e := h.len
  obtain ⟨a', c', hv, hc, hm, hg⟩ := h.form
  injection hv with e1 e2 e3
  subst e1 e3
  refine ⟨e.symm, by omega, ?_⟩
  by_cases h0 : n = 0
  · exact .inl h0
  · obtain ⟨g, rfl, hB, hlt⟩ := hg (by omega)
    refine .inr ⟨g, 0, rfl, hlt, fun i hi => ?_⟩
    have hcl := World.ownsRow.cells h (g := g) rfl
    obtain ⟨r0, r1, r2⟩ := fcells_at l (i := i) (by omega)
    have ad : ∀ j, (⟨g, 0, none⟩ : Addr).add j = ⟨g, 0 + j, none⟩ := fun j => by unfold Addr.add; split <;> simp_all
    have c0 := hcl _ _ r0
    have c1 := hcl _ _ r1
    have c2 := hcl _ _ r2
    rw [ad] at c0 c1 c2
    exact ⟨c0, c1, c2⟩
theorem OwnFr.frozenAt {w : World} {B g n cap : Nat} {l : List M.Fr} (h : OwnFr w B (.slice (some ⟨g, 0, none⟩) n cap) l) (j : Nat) : w.frozen? ⟨g, j, none⟩ = false := by
  have e := h.len
  subst e
  exact World.ownsRow.frozenAt h j
theorem OwnFr.setF {w : World} {B g n cap : Nat} {l : List M.Fr} (h : OwnFr w B (.slice (some ⟨g, 0, none⟩) n cap) l) {i j : Nat} (x : Int) (hi : i < n) (hj : j < 3) : OwnFr (w.setCell ⟨g, i * 3 + j, none⟩ (.int .i64 x)) B (.slice (some ⟨g, 0, none⟩) n cap) (M.stFr l i j x) := by
  have e := h.len
  subst e
  have := (World.ownsRow.stored h (i * 3 + j) (.int .i64 x)).1
  rw [fcells_set x hi hj] at this
  show World.ownsRow _ _ _ _ _ (M.stFr l i j x).length _
  rw [M.stFr_len]
  exact this
theorem replicate_getF (n i : Nat) : (List.replicate n M.fz).getD i M.fz = M.fz := by
  rw [List.getD_eq_getElem?_getD, List.getElem?_replicate]
  split <;> rfl
/-- A new list of zero places. -/
theorem ownFr_made (w : World) (B n : Nat) (hB : B ≤ w.heap.size) (hn : n ≤ maxLen) : OwnFr (w.alloc (.cells (madeCells #[.int .i64 0, .int .i64 0, .int .i64 0] (n * 3)) 77)) B (.slice (some ⟨w.heap.size, 0, none⟩) n n) (List.replicate n M.fz) := by
  have hs : (madeCells #[Value.int .i64 0, .int .i64 0, .int .i64 0] (n * 3)).size = n * 3 := size_madeCells _ _
  refine ⟨by rw [fcells_len], .inr ⟨w.heap.size, n, _, by simp, hB, heap_alloc_new w _, by simp, hn, hs, ?_⟩⟩
  refine fcells_ext (by simp [hs]) fun q hq => ?_
  simp only [List.length_replicate] at hq
  rw [List.getElem?_take, if_pos (by simpa using hq), Array.getElem?_toList, replicate_getF]
  have h4 : q % 3 = 0 ∨ q % 3 = 1 ∨ q % 3 = 2 := by omega
  have hz : M.ff M.fz (q % 3) = 0 := by rcases h4 with e | e | e <;> rw [e] <;> rfl
  rw [hz]
  unfold madeCells
  rw [Array.getElem?_map, Array.getElem?_range, if_pos hq]
  have hs4 : (#[Value.int .i64 0, .int .i64 0, .int .i64 0] : Array Value).size = 3 := rfl
  rw [hs4]
  rcases h4 with e | e | e <;> rw [Option.map_some] <;> simp [e]
end V
end Go.Proofs.Ytjbffpmelglegaa
