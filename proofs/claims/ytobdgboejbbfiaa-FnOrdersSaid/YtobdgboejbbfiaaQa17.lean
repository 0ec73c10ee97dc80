/- Texts laid together: Draw1. -/
import Derived.Test.YtobdgboejbbfiaaRows
import Derived.Test.YtobdgboejbbfiaaQa1
import Derived.Test.YtobdgboejbbfiaaQa3
import Derived.WalkKit
import Derived.ProofKit
import Derived.WalkSmall
import Derived.Deep.QuietTactic
import Derived.BigQuiet
import Derived.BigRegion
import Derived.Deep.Draws
import Derived.Deep.OwnRows
import Derived.Lib.Hide
set_option linter.unusedSimpArgs false
set_option linter.unusedVariables false
set_option linter.unusedSectionVars false
namespace Go.Proofs.Ytobdgboejbbfiaa.V
open Go.RowKit

/-- The three cells of a source: the code, the place, the seed. -/
def srcF (a : Option Addr) (n cap t : Nat) (s : Int) : Nat → Value
  | 0 => .slice a n cap
  | 1 => .int .i64 t
  | _ => .int .i64 s

/-- The code of a source: bytes that lie below block g. -/
def CodeAt (w : World) (g : Nat) (a : Option Addr) (n : Nat) : Prop :=
  n ≤ maxLen ∧ (n = 0 ∨ ∃ b off, a = some ⟨b, off, none⟩ ∧ b < g ∧ ∀ i, i < n → ∃ x : Int, 0 ≤ x ∧ x ≤ 255 ∧ w.cell? ⟨b, off + i, none⟩ = some (.int .u8 x))

/-- Block g is a source. -/
def Src (w : World) (g : Nat) : Prop := ∃ (a : Option Addr) (n cap t : Nat) (s : Int),
  w.rowIs g 114 3 (srcF a n cap t s) ∧ CodeAt w g a n ∧ t ≤ n ∧ 0 ≤ s ∧ s < 2147483647

/-- Only block g may have changed; blocks may have been added. -/
structure Thr (g : Nat) (w w' : World) : Prop where
  below : Below g w w'
  other : ∀ k, g < k → k < w.heap.size → w'.heap[k]? = w.heap[k]?

theorem Thr.refl (g : Nat) (w : World) : Thr g w w := ⟨Below.refl _ _, fun _ _ _ => rfl⟩
theorem Thr.trans {g : Nat} {a b c : World} (h : Thr g a b) (k : Thr g b c) : Thr g a c :=
  ⟨h.below.trans k.below, fun i h1 h2 => (k.other i h1 (Nat.lt_of_lt_of_le h2 h.below.size)).trans (h.other i h1 h2)⟩
theorem Thr.drew {g : Nat} {a b : World} (h : Thr g a b) : Thr g a b.drew := ⟨h.below.drew, h.other⟩
theorem Thr.drewN {g : Nat} {a b : World} (h : Thr g a b) (n : Nat) : Thr g a (b.drewN n) := ⟨below_drewN h.below n, h.other⟩
theorem Thr.setCell {g : Nat} {a b : World} (h : Thr g a b) {i : Nat} (v : Value) : Thr g a (b.setCell ⟨g, i, none⟩ v) :=
  ⟨h.below.setCell (Nat.le_refl _) v, fun k h1 h2 => (Below.heap_setCell _ _ _ _ (by show k ≠ g; omega)).trans (h.other k h1 h2)⟩
theorem Thr.cell {g : Nat} {w w' : World} (h : Thr g w w') {p : Addr} (hp : p.block < w.heap.size) (hne : p.block ≠ g) : w'.cell? p = w.cell? p := by
  by_cases hlt : p.block < g
  · exact h.below.cell hlt
  · exact World.cell?_of_block (w := w) (h.other _ (by omega) hp)

theorem CodeAt.below {w w' : World} {g : Nat} {a : Option Addr} {n : Nat} (h : CodeAt w g a n) (hb : Below g w w') : CodeAt w' g a n := by
  obtain ⟨h1, h2⟩ := h
  refine ⟨h1, ?_⟩
  rcases h2 with h2 | ⟨b, off, rfl, hlt, hc⟩
  · exact .inl h2
  · refine .inr ⟨b, off, rfl, hlt, fun i hi => ?_⟩
    obtain ⟨x, x1, x2, hx⟩ := hc i hi
    exact ⟨x, x1, x2, by rw [hb.cell (p := ⟨b, off + i, none⟩) hlt]; exact hx⟩

theorem Src.below {w w' : World} {g : Nat} (h : Src w g) (hb : Below (g + 1) w w') : Src w' g := by
  obtain ⟨a, n, cap, t, s, h1, h2, h3⟩ := h
  exact ⟨a, n, cap, t, s, h1.of_block (hb.block g (by omega)), h2.below (hb.mono (by omega)), h3⟩
theorem Src.lt {w : World} {g : Nat} (h : Src w g) : g < w.heap.size := by
  obtain ⟨a, n, cap, t, s, h1, h2, h3⟩ := h
  exact h1.lt
theorem Src.drew {w : World} {g : Nat} (h : Src w g) : Src w.drew g := h

/-- What a drawn number is. -/
def NextPost (g : Nat) (n : Int) (w : World) (e : Ending) (w' : World) : Prop :=
  ∃ x : Int, e = .returned (.int .i64 x) ∧ 0 ≤ x ∧ (x < n ∨ x = 0) ∧ Src w' g ∧ Thr g w w'

theorem mod_lt (x n : Int) (hx : 0 ≤ x) (hn : 1 < n) : 0 ≤ x % n ∧ (x % n < n ∨ x % n = 0) :=
  ⟨Int.emod_nonneg _ (by omega), .inl (Int.emod_lt_of_pos _ (by omega))⟩

theorem rowIs_seed {w : World} {g T : Nat} {a : Option Addr} {n cap t : Nat} {s : Int} (h : w.rowIs g T 3 (srcF a n cap t s)) (s' : Int) : (w.setCell ⟨g, 2, none⟩ (.int .i64 s')).rowIs g T 3 (srcF a n cap t s') :=
  (h.set 2 _).congr (fun i hi => by
    match i, hi with
    | 0, _ => rfl
    | 1, _ => rfl
    | 2, _ => rfl)
theorem rowIs_at {w : World} {g T : Nat} {a : Option Addr} {n cap t : Nat} {s : Int} (h : w.rowIs g T 3 (srcF a n cap t s)) (t' : Nat) (v : Int) (hv : v = (t' : Int)) : (w.setCell ⟨g, 1, none⟩ (.int .i64 v)).rowIs g T 3 (srcF a n cap t' s) :=
  (h.set 1 _).congr (fun i hi => by
    subst hv
    match i, hi with
    | 0, _ => rfl
    | 1, _ => rfl
    | 2, _ => rfl)

theorem next_fin {g : Nat} {n : Int} {w w2 : World} {a : Option Addr} {m cap t : Nat} {s x : Int} (hn : 1 < n) (hx : 0 ≤ x) (hrow : w2.rowIs g 114 3 (srcF a m cap t s)) (hc : CodeAt w g a m) (ht : t ≤ m) (s1 : 0 ≤ s) (s2 : s < 2147483647)
    (hthr : Thr g w w2) : NextPost g n w (.returned (.int .i64 (x % n))) w2 :=
  ⟨_, rfl, (mod_lt x n hx hn).1, (mod_lt x n hx hn).2, ⟨a, m, cap, t, s, hrow, hc.below hthr.below, ht, s1, s2⟩, hthr⟩

set_option maxRecDepth 100000 in
set_option maxHeartbeats 1000000 in
theorem next (g : Nat) (n : Int) (w : World) (wn : (Lit.int .i64 n).wf = true) (h : Src w g) :
    Calls Try.prog 97 #[.pointer (some ⟨g, 0, none⟩), .int .i64 n] w (NextPost g n w) := by
  by_cases hn : n ≤ 1
  · go_enter Try.func97, Try.ntmps97
    go_wp2
    go_ret
    exact ⟨0, rfl, by omega, .inr rfl, h, Thr.refl _ _⟩
  · obtain ⟨a, m, cap, t, s, hrow, hcode, ht, s1, s2⟩ := h
    have c0 : w.cell? ⟨g, 0, none⟩ = some (.slice a m cap) := hrow.cell (i := 0) (by omega)
    have c1 : w.cell? ⟨g, 1, none⟩ = some (.int .i64 t) := hrow.cell (i := 1) (by omega)
    have c2 : w.cell? ⟨g, 2, none⟩ = some (.int .i64 s) := hrow.cell (i := 2) (by omega)
    have f0 := hrow.frozen 0
    have f1 := hrow.frozen 1
    have f2 := hrow.frozen 2
    have HCODE := Lib.hid hcode
    obtain ⟨hm, hcode⟩ := hcode
    unfold maxLen at hm
    have HR := Lib.hid hrow
    clear hrow
    have hn' : 1 < n := by omega
    have r1 : 0 ≤ (s * 48271 + 59) % 2147483647 := Int.emod_nonneg _ (by omega)
    have r2 : (s * 48271 + 59) % 2147483647 < 2147483647 := Int.emod_lt_of_pos _ (by omega)
    by_cases htm : t < m
    · rcases hcode with h0 | ⟨b, off, rfl, hbg, hc⟩
      · omega
      obtain ⟨x, x1, x2, hcx⟩ := hc t htm
      clear hc
      have hne : ¬ b = g := by omega
      have hti : (t : Int) < (m : Int) := by omega
      have ht0 : 0 ≤ (t : Int) + 1 := by omega
      have hq : 0 ≤ (s * 48271 + 59) % 2147483647 / 31 := Int.ediv_nonneg r1 (by omega)
      have HC : Hid (CodeAt w g (some ⟨b, off, none⟩) m) := HCODE
      clear HCODE
      by_cases h256 : n ≤ 256
      · by_cases hev : ((t : Int) + 1) % 2 = 0
        · have hev' : (((t : Int) + 1) % 2 == 0) = true := by simpa using hev
          clear hev
          go_enter Try.func97, Try.ntmps97
          go_wp2
          go_quiet (fail)
          go_wp2
          go_quiet (fail)
          go_wp2
          go_quiet (fail)
          go_wp2
          go_ret
          exact next_fin hn' x1 (rowIs_at (w := (w.setCell ⟨g, 2, none⟩ (.int .i64 ((s * 48271 + 59) % 2147483647))).drewN _) (rowIs_seed HR.out _) (t + 1) _ (by omega)) HC.out (by omega) r1 r2 (((((Thr.refl g w).setCell _).drewN _).setCell _).drewN _)
        · have hev' : (((t : Int) + 1) % 2 == 0) = false := by simpa using hev
          clear hev
          go_enter Try.func97, Try.ntmps97
          go_wp2
          go_quiet (fail)
          go_wp2
          go_quiet (fail)
          go_wp2
          go_ret
          exact next_fin hn' (by omega) (rowIs_at (w := (w.setCell ⟨g, 2, none⟩ (.int .i64 ((s * 48271 + 59) % 2147483647))).drewN _) (rowIs_seed HR.out _) (t + 1) _ (by omega)) HC.out (by omega) r1 r2 ((((Thr.refl g w).setCell _).drewN _).setCell _)
      · go_enter Try.func97, Try.ntmps97
        go_wp2
        go_quiet (fail)
        go_wp2
        go_quiet (fail)
        go_wp2
        go_ret
        exact next_fin hn' (by omega) (rowIs_at (w := (w.setCell ⟨g, 2, none⟩ (.int .i64 ((s * 48271 + 59) % 2147483647))).drewN _) (rowIs_seed HR.out _) (t + 1) _ (by omega)) HC.out (by omega) r1 r2 ((((Thr.refl g w).setCell _).drewN _).setCell _)
    · obtain rfl : t = m := by omega
      have hq : 0 ≤ (s * 48271 + 59) % 2147483647 / 31 := Int.ediv_nonneg r1 (by omega)
      have HC : Hid (CodeAt w g a t) := HCODE
      clear HCODE hcode
      go_enter Try.func97, Try.ntmps97
      go_wp2
      go_quiet (fail)
      go_wp2
      go_ret
      exact next_fin hn' (by omega) (rowIs_seed HR.out _) HC.out (by omega) r1 r2 (((Thr.refl g w).setCell _).drewN _)
end Go.Proofs.Ytobdgboejbbfiaa.V
