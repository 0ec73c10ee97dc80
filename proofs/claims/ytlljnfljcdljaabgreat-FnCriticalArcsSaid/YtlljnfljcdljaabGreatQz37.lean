/- Texts laid together: D3a, DrawPw, D3b, D3c, D3d. -/
import Derived.Test.YtlljnfljcdljaabGreatRows
import Derived.Test.YtlljnfljcdljaabGreatQz2
import Derived.Test.YtlljnfljcdljaabGreatQz4
import Derived.Test.YtlljnfljcdljaabGreatQz5
import Derived.Test.YtlljnfljcdljaabGreatQz32
import Derived.Lib.Hide
import Derived.Deep.OwnRows
import Derived.WalkKit
import Derived.ProofKit
import Derived.WalkSmall
import Derived.Deep.QuietTactic
import Derived.BigQuiet
import Derived.BigRegion
import Derived.Deep.Draws
import Derived.OpenShut
import Derived.Deep.RegionHeld3
import Derived.Maps.AppendAt
import Derived.Test.YtlljnfljcdljaabGreatQz6
import Derived.StillTailTactics
import Derived.IntWalk
set_option linter.unusedSimpArgs false
set_option linter.unusedVariables false
set_option linter.unusedSectionVars false
namespace Go.Proofs.YtlljnfljcdljaabGreat.V
open Go.RowKit

/-- An owned matrix in blocks from B on and below C. -/
def OwnMC (w : World) (B C : Nat) (v : Value) (R : List (List Int)) : Prop :=
  ∃ V, OwnV w B v R V ∧ (∀ k, v.ownBlock = some k → k < C) ∧ ∀ i, i < R.length → ∀ k, (V.getD i (.slice none 0 0)).ownBlock = some k → k < C
theorem OwnM.upto {w : World} {B : Nat} {v : Value} {R : List (List Int)} (h : OwnM w B v R) : OwnMC w B w.heap.size v R := by
  obtain ⟨V, hV⟩ := h
  exact ⟨V, hV, fun k hk => (own_lt hV.2.1 hk).2, fun i hi k hk => (own_lt (hV.2.2.1 i hi) hk).2⟩
theorem OwnMC.own {w : World} {B C : Nat} {v : Value} {R : List (List Int)} (h : OwnMC w B C v R) : OwnM w B v R := ⟨h.choose, h.choose_spec.1⟩
theorem OwnMC.keep {w w' : World} {B C : Nat} {v : Value} {R : List (List Int)} (h : OwnMC w B C v R) (hk : ∀ k, B ≤ k → k < C → w'.heap[k]? = w.heap[k]?) : OwnMC w' B C v R := by
  obtain ⟨V, ⟨h1, h2, h3, h4, h5⟩, h6, h7⟩ := h
  exact ⟨V, ⟨h1, ownsRow_keep h2 (fun k hv => hk k (own_lt h2 hv).1 (h6 k hv)), fun i hi => ownsRow_keep (h3 i hi) (fun k hv => hk k (own_lt (h3 i hi) hv).1 (h7 i hi k hv)), h4, h5⟩, h6, h7⟩
/-- What is needed to read and to write one entry. -/
theorem OwnMC.at {w : World} {B C n cap : Nat} {a : Option Addr} {R : List (List Int)} (h : OwnMC w B C (.slice a n cap) R) (i j : Nat) (hi : i < n) (hj : j < (R.getD i []).length) :
    ∃ g q L c x, a = some ⟨g, 0, none⟩ ∧ B ≤ g ∧ g < C ∧ B ≤ q ∧ q < C ∧ q ≠ g ∧ L = (R.getD i []).length ∧ x = (R.getD i []).getD j 0 ∧ w.cell? ⟨g, i, none⟩ = some (.slice (some ⟨q, 0, none⟩) L c) ∧ w.cell? ⟨q, j, none⟩ = some (.int .i64 x) ∧ w.frozen? ⟨q, j, none⟩ = false ∧
      ∀ y, OwnMC (w.setCell ⟨q, j, none⟩ (.int .i64 y)) B C (.slice a n cap) (R.set i ((R.getD i []).set j y)) := by
  obtain ⟨V, ⟨h1, h2, h3, h4, h5⟩, h6, h7⟩ := h
  obtain ⟨a', c', hv, hc, hm, hg⟩ := own_form h2
  injection hv with e1 e2 e3
  subst e1 e2 e3
  obtain ⟨g, rfl, hBg, hlt⟩ := hg (by omega)
  have hrow := h3 i hi
  obtain ⟨ra, rc, hrv, hrc, hrm, hrg⟩ := own_form hrow
  obtain ⟨q, rfl, hBq, hqlt⟩ := hrg (by omega)
  have hcell := World.ownsRow.cellAt h2 i (by omega)
  have hVi : V[i]? = some (V.getD i (.slice none 0 0)) := by simp [h1, hi]
  have hrow' := hrow
  rw [hrv] at hrow'
  have hcell2 := World.ownsRow.cellAt hrow' j (by omega)
  have hqg : q ≠ g := fun e => h4 i hi q (by rw [hrv]; rfl) (by rw [e]; rfl)
  refine ⟨g, q, _, rc, _, rfl, hBg, h6 g rfl, hBq, h7 i hi q (by rw [hrv]; rfl), hqg, rfl, rfl, ?_, ?_, World.ownsRow.frozenAt hrow' j, fun y => ?_⟩
  · rw [hcell, hVi, hrv]
  · rw [hcell2]
    generalize R.getD i [] = l at hj
    simp [hj]
  · refine ⟨V, ⟨by simpa using h1, ?_, ?_, ?_, ?_⟩, h6, fun t ht => h7 t (by simpa using ht)⟩
    · rw [List.length_set]
      exact ownsRow_keep h2 (fun k hv => Below.heap_setCell _ _ _ _ (by
        simp only [Value.ownBlock, Option.some.injEq] at hv; show k ≠ q; omega))
    · intro t ht
      simp only [List.length_set] at ht
      rw [getD_set _ _ _ _ _ (by omega)]
      by_cases e : t = i
      · subst e
        rw [if_pos rfl, hrv]
        exact Own.set hrow' j y
      · rw [if_neg e]
        refine ownsRow_keep (h3 t ht) (fun k hv => Below.heap_setCell _ _ _ _ ?_)
        show k ≠ q
        intro e2
        subst e2
        exact h5 t i ht hi e k hv (by rw [hrv]; rfl)
    · intro t ht
      simp only [List.length_set] at ht
      exact h4 t ht
    · intro t s ht hs
      simp only [List.length_set] at ht hs
      exact h5 t s ht hs
/-- A store where the row is known to lie. -/
theorem OwnMC.put {w : World} {B C n cap o k t q L c : Nat} {R : List (List Int)} (h : OwnMC w B C (.slice (some ⟨o, 0, none⟩) n cap) R) (hi : k < n) (hj : t < (R.getD k []).length) (hc : w.cell? ⟨o, k, none⟩ = some (.slice (some ⟨q, 0, none⟩) L c)) (y : Int) :
    B ≤ q ∧ q < C ∧ q ≠ o ∧ OwnMC (w.setCell ⟨q, t, none⟩ (.int .i64 y)) B C (.slice (some ⟨o, 0, none⟩) n cap) (R.set k ((R.getD k []).set t y)) := by
  obtain ⟨g, q', L', c', x, hg, _, _, h1, h2, h3, _, _, hc', _, _, hw⟩ := h.at k t hi hj
  injection hg with hg
  injection hg with hg
  subst hg
  rw [hc] at hc'
  injection hc' with hc'
  injection hc' with e1 e2 e3
  injection e1 with e1
  injection e1 with e1
  subst e1
  exact ⟨h1, h2, h3, hw y⟩

/-- A square matrix below C and a list from C on, while the source draws. -/
def D3 (g B C n cap o : Nat) (vx : Value) (l : List Int) (w0 w : World) : Prop :=
  ∃ R, Rect R n n ∧ OwnMC w B C (.slice (some ⟨o, 0, none⟩) n cap) R ∧ Own w C vx l ∧ C ≤ w.heap.size ∧ Src w g ∧ Thr g w0 w
theorem D3.next {g B C n cap o : Nat} {vx : Value} {l : List Int} {w0 w w' : World} (h : D3 g B C n cap o vx l w0 w) (hB : g < B) (hC : B ≤ C) (hs : Src w' g) (ht : Thr g w w') : D3 g B C n cap o vx l w0 w' := by
  obtain ⟨R, h1, h2, h3, h4, h5, h6⟩ := h
  exact ⟨R, h1, h2.keep (fun k k1 k2 => ht.other k (by omega) (by omega)), h3.thr ht (by omega), Nat.le_trans h4 ht.below.size, hs, h6.trans ht⟩
theorem D3.drew {g B C n cap o : Nat} {vx : Value} {l : List Int} {w0 w : World} (h : D3 g B C n cap o vx l w0 w) : D3 g B C n cap o vx l w0 w.drew := by
  obtain ⟨R, h1, h2, h3, h4, h5, h6⟩ := h
  exact ⟨R, h1, h2.keep (fun _ _ _ => rfl), h3.keep (fun _ _ _ => rfl), h4, h5, h6.drew⟩
theorem D3.store {g B C n cap o k t q L c : Nat} {vx : Value} {l : List Int} {w0 w : World} (h : D3 g B C n cap o vx l w0 w) (hB : g < B) (hB0 : w0.heap.size ≤ B) (hi : k < n) (hj : t < n) (hc : w.cell? ⟨o, k, none⟩ = some (.slice (some ⟨q, 0, none⟩) L c)) (y : Int) :
    D3 g B C n cap o vx l w0 (w.setCell ⟨q, t, none⟩ (.int .i64 y)) := by
  obtain ⟨R, h1, h2, h3, h4, h5, h6⟩ := h
  obtain ⟨q1, q2, q3, hp⟩ := h2.put hi (by rw [h1.2 k hi]; exact hj) hc y
  refine ⟨_, h1.set k t y hi, hp, h3.keep (fun b b1 _ => Below.heap_setCell _ _ _ _ (by show b ≠ q; omega)), by simpa [World.setCell] using h4, ?_, ?_⟩
  · exact h5.below ((Below.refl _ _).setCell (p := ⟨q, t, none⟩) (by show g + 1 ≤ q; omega) _)
  · exact ⟨h6.below.setCell (p := ⟨q, t, none⟩) (by show g ≤ q; omega) _, fun b b1 b2 => by
      rw [Below.heap_setCell _ _ _ _ (by show b ≠ q; omega)]; exact h6.other b b1 b2⟩
/-- What one round reads: a row, and two of the numbers. -/
theorem D3.cells {g B C n cap o N c : Nat} {b : Option Addr} {l : List Int} {w0 w : World} (h : D3 g B C n cap o (.slice b N c) l w0 w) (hB : g < B) (k t : Nat) (hi : k < n) (hj : t < n) (hk : k < N) (ht : t < N) :
    ∃ q c2 x xb, b = some ⟨xb, 0, none⟩ ∧ B ≤ q ∧ q < C ∧ C ≤ xb ∧ q ≠ o ∧ B ≤ o ∧ o < C ∧ w.cell? ⟨o, k, none⟩ = some (.slice (some ⟨q, 0, none⟩) n c2) ∧ w.cell? ⟨q, t, none⟩ = some (.int .i64 x) ∧ w.frozen? ⟨q, t, none⟩ = false ∧
      w.cell? ⟨xb, k, none⟩ = some (.int .i64 (l.getD k 0)) ∧ w.cell? ⟨xb, t, none⟩ = some (.int .i64 (l.getD t 0)) := by
  obtain ⟨R, h1, h2, h3, h4, h5, h6⟩ := h
  obtain ⟨g2, q, L, c2, x, hg, o1, o2, q1, q2, q3, hL, hx, c1, c2', f1, _⟩ := h2.at k t hi (by rw [h1.2 k hi]; exact hj)
  injection hg with hg
  injection hg with hg
  subst hg
  rw [h1.2 k hi] at hL
  subst hL
  obtain ⟨b', c', hv, _, _, hg⟩ := own_form h3
  have hl := h3.len
  injection hv with e1 e2 e3
  subst e1
  obtain ⟨xb, rfl, hxb, _⟩ := hg (by omega)
  exact ⟨q, c2, x, xb, rfl, q1, q2, hxb, q3, o1, o2, c1, c2', f1, h3.cellAt k hk, h3.cellAt t ht⟩
/-- The cells outlive a draw. -/
theorem d3_next {g B C n cap o q c2 xb k t : Nat} {vx u1 u2 : Value} {l : List Int} {w0 w wx : World} (h : w.cell? ⟨o, k, none⟩ = some (.slice (some ⟨q, 0, none⟩) n c2) ∧ w.cell? ⟨xb, k, none⟩ = some u1 ∧ w.cell? ⟨xb, t, none⟩ = some u2 ∧ D3 g B C n cap o vx l w0 w) (hB : g < B) (hC : B ≤ C) (ho : B ≤ o) (hx : C ≤ xb) (hs : Src wx g) (ht : Thr g w wx) :
    wx.cell? ⟨o, k, none⟩ = some (.slice (some ⟨q, 0, none⟩) n c2) ∧ wx.cell? ⟨xb, k, none⟩ = some u1 ∧ wx.cell? ⟨xb, t, none⟩ = some u2 ∧ D3 g B C n cap o vx l w0 wx := by
  obtain ⟨h1, h2, h3, h4⟩ := h
  refine ⟨?_, ?_, ?_, h4.next hB hC hs ht⟩
  · rw [ht.cell (p := ⟨o, k, none⟩) (cell_lt h1) (by show o ≠ g; omega)]; exact h1
  · rw [ht.cell (p := ⟨xb, k, none⟩) (cell_lt h2) (by show xb ≠ g; omega)]; exact h2
  · rw [ht.cell (p := ⟨xb, t, none⟩) (cell_lt h3) (by show xb ≠ g; omega)]; exact h3
/-- .. and a store into the row. -/
theorem d3_store {g B C n cap o q c2 xb k t : Nat} {vx u1 u2 : Value} {l : List Int} {w0 w : World} (h : w.cell? ⟨o, k, none⟩ = some (.slice (some ⟨q, 0, none⟩) n c2) ∧ w.cell? ⟨xb, k, none⟩ = some u1 ∧ w.cell? ⟨xb, t, none⟩ = some u2 ∧ D3 g B C n cap o vx l w0 w) (hB : g < B) (hB0 : w0.heap.size ≤ B) (hi : k < n) (hj : t < n) (hqo : q ≠ o) (hq : q < C) (hx : C ≤ xb) (y : Int) :
    (w.setCell ⟨q, t, none⟩ (.int .i64 y)).cell? ⟨o, k, none⟩ = some (.slice (some ⟨q, 0, none⟩) n c2) ∧ (w.setCell ⟨q, t, none⟩ (.int .i64 y)).cell? ⟨xb, k, none⟩ = some u1 ∧ (w.setCell ⟨q, t, none⟩ (.int .i64 y)).cell? ⟨xb, t, none⟩ = some u2 ∧ D3 g B C n cap o vx l w0 (w.setCell ⟨q, t, none⟩ (.int .i64 y)) := by
  obtain ⟨h1, h2, h3, h4⟩ := h
  refine ⟨?_, ?_, ?_, h4.store hB hB0 hi hj h1 y⟩
  · exact (World.cell?_of_block (w := w) (Below.heap_setCell _ _ _ _ (show o ≠ q from fun e => hqo e.symm))).trans h1
  · exact (World.cell?_of_block (w := w) (Below.heap_setCell _ _ _ _ (show xb ≠ q by omega))).trans h2
  · exact (World.cell?_of_block (w := w) (Below.heap_setCell _ _ _ _ (show xb ≠ q by omega))).trans h3
theorem d3_of {A1 A2 A3 A4 : Prop} (h : A1 ∧ A2 ∧ A3 ∧ A4) : A4 := h.2.2.2
end Go.Proofs.YtlljnfljcdljaabGreat.V

namespace Go.Proofs.YtlljnfljcdljaabGreat.V
open Go.RowKit

/-- A matrix of one row that is not its own. -/
theorem mat_one' (w : World) (a : Option Addr) (n cap : Nat) (l : List Int) (h : Ints .i64 w a n l) : Mat (w.alloc (.cells #[.slice a n cap] 32)) (some ⟨w.heap.size, 0, none⟩) 1 [l] := by
  refine ⟨rfl, by decide, .inr ⟨_, _, rfl, by simp, fun i hi => ?_⟩⟩
  obtain rfl : i = 0 := by omega
  have hc := cell_one_new w (.slice a n cap) 32 0 _ rfl
  refine ⟨a, cap, ?_, ?_⟩
  · show _ = some (Value.slice a l.length cap)
    rw [h.1]; exact hc
  · show Ints _ _ _ l.length l
    rw [h.1]; exact h.below (b_alloc w _)

set_option maxRecDepth 100000 in
set_option maxHeartbeats 1000000 in
theorem drawSquareB (g : Nat) (w : World) (h : Src w g) : Calls Tryz.prog 99 #[.pointer (some ⟨g, 0, none⟩)] w (DrawMB g w) := by
  have HS := Lib.hid h
  have hgl := h.lt
  clear h
  go_enter Tryz.func99, Tryz.ntmps99
  go_wp2_with fail
  refine (next g 5 _ (by decide) HS.out).mono ?_
  rintro e w1 ⟨x, rfl, hx1, hx2, hs1, ht1⟩
  obtain ⟨x, rfl⟩ := Int.eq_ofNat_of_zero_le hx1
  have hx3 : x < 5 := by omega
  have HS1 := Lib.hid hs1
  have HT1 := Lib.hid ht1
  have e1 : (1 : Int) + (x : Int) = ((1 + x : Nat) : Int) := by omega
  have E1 := Lib.hid e1
  clear e1 hs1 ht1 hx2 hx1
  go_wp2_with fail
  rw [E1.out]
  refine (drawSizeB g (1 + x) (1 + x) _ HS1.out (by omega) (by omega) (by omega) (by omega)).mono ?_
  rintro e w3 ⟨a, n, cap, R, rfl, hn, ho, hs3, ht3⟩
  have HO := Lib.hid (ho.mono HT1.out.below.size)
  have HS3 := Lib.hid hs3
  have HT3 := Lib.hid (HT1.out.trans ht3)
  clear ho hs3 ht3
  go_wp2
  go_ret
  exact ⟨a, n, cap, R, rfl, hn, HO.out, HS3.out, HT3.out⟩
theorem drawSquare (g : Nat) (w : World) (h : Src w g) : Calls Tryz.prog 99 #[.pointer (some ⟨g, 0, none⟩)] w (DrawM g w) :=
  (drawSquareB g w h).mono fun _ _ h => h.less

/-- A drawn matrix and a drawn integer. -/
def DrawnMI (w : World) (e : Ending) (w' : World) : Prop :=
  ∃ (a : Option Addr) (n cap : Nat) (R : List (List Int)) (x : Int), e = .returned (.tuple #[.slice a n cap, .int .i64 x]) ∧ Mat w' a n R ∧ Below w.heap.size w w'


/-- A drawn integer; two of them. -/
def DrawnI (w : World) (e : Ending) (w' : World) : Prop := ∃ x : Int, e = .returned (.int .i64 x) ∧ Below w.heap.size w w'
def DrawnII (w : World) (e : Ending) (w' : World) : Prop := ∃ x y : Int, e = .returned (.tuple #[.int .i64 x, .int .i64 y]) ∧ Below w.heap.size w w'


end Go.Proofs.YtlljnfljcdljaabGreat.V

namespace Go.Proofs.YtlljnfljcdljaabGreat.V
open Go.RowKit

end Go.Proofs.YtlljnfljcdljaabGreat.V

namespace Go.Proofs.YtlljnfljcdljaabGreat.V
open Go.RowKit


/-- A drawn matrix and two drawn numbers. -/
def DrawnMII (w : World) (e : Ending) (w' : World) : Prop :=
  ∃ (a : Option Addr) (n cap : Nat) (R : List (List Int)) (x y : Int), e = .returned (.tuple #[.slice a n cap, .int .i64 x, .int .i64 y]) ∧ Mat w' a n R ∧ Below w.heap.size w w'
end Go.Proofs.YtlljnfljcdljaabGreat.V

namespace Go.Proofs.YtlljnfljcdljaabGreat.V
open Go.RowKit

set_option maxRecDepth 100000 in
set_option maxHeartbeats 4000000 in
theorem drawNodes (g n cap B : Nat) (a : Option Addr) (R : List (List Int)) (w : World) (h : Src w g) (ho : OwnM w B (.slice a n cap) R) (hB : g < B) (hn : n ≤ 200) :
    Calls Tryz.prog 74 #[.pointer (some ⟨g, 0, none⟩), .slice a n cap] w (DrawV g w) := by
  have hgs := h.lt
  have HS := Lib.hid h
  have HO := Lib.hid ho
  clear h ho
  by_cases hn0 : n = 0
  · subst hn0
    go_enter Tryz.func74, Tryz.ntmps74
    go_wp2
    go_ret
    exact ⟨_, _, _, [0], rfl, World.ownsRow_lit w #[.int .i64 0] 1 (Nat.le_refl _) (by decide) rfl, HS.out.alloc _, (Thr.refl _ _).alloc (Nat.le_of_lt hgs) _⟩
  · have e0 : (n == 0) = false := by simpa using hn0
    have e1 : ((n : Int) == 0) = false := by simp; omega
    have hwn : (Lit.int .i64 (n : Int)).wf = true := wf_small _ (by omega) (by omega)
    have HWN := Lib.hid hwn
    clear hwn
    go_enter Tryz.func74, Tryz.ntmps74
    go_wp2_with fail
    refine (next _ _ _ HWN.out HS.out).mono ?_
    rintro e w1 ⟨x, rfl, hx1, hx2, hs1, ht1⟩
    have hz1 : w.heap.size ≤ w1.heap.size := ht1.below.size
    have HJ0 : Hid (DL g w.heap.size (.slice (some ⟨w1.heap.size, 0, none⟩) 1 1) [x] w (w1.alloc (.cells #[.int .i64 x] 2))) :=
      ⟨World.ownsRow_lit w1 #[.int .i64 x] 1 hz1 (by decide) rfl, hs1.alloc _, ht1.alloc (by omega) _⟩
    have HL0 : Hid (∀ y ∈ [x], 0 ≤ y ∧ y < (n : Int)) := fun y hy => by
      simp at hy
      subst hy
      omega
    clear hx2 hs1 ht1
    go_wp2_with fail
    refine (next g 6 _ (by decide) HJ0.out.2.1).mono ?_
    rintro e w2 ⟨kk, rfl, hk1, hk2, hs2, ht2⟩
    obtain ⟨kk, rfl⟩ := Int.eq_ofNat_of_zero_le hk1
    have hk6 : kk < 6 := by omega
    have HJ1 := Lib.hid (HJ0.out.next hgs hs2 ht2)
    clear hs2 ht2 HJ0 hk2 hk1
    go_wp2
    go_loopw [6, 7, 8, 9, 10] (fun out i _ _ _ wr => ∃ (j t : Nat) (l : List Int) (b : Option Addr) (c : Nat), j + t ≤ 6 ∧ i = .int .i64 j ∧ out = .slice b (t + 1) c ∧ Hid (DL g w.heap.size (.slice b (t + 1) c) l w wr) ∧ Hid (∀ y ∈ l, 0 ≤ y ∧ y < (n : Int))) (fun _ i _ _ _ _ => (intOf i).toNat)
    case atStart => exact ⟨kk, 0, _, _, _, by omega, rfl, rfl, HJ1, HL0⟩
    case round =>
      obtain ⟨j, t, l, b, c, hjt, rfl, rfl, HJ, HL⟩ := hrel
      obtain ⟨wo, rfl⟩ : ∃ x, x = wr := ⟨_, rfl⟩
      clear HJ1 HL0
      by_cases hj : 0 < j
      · have hji : (0 : Int) < (j : Int) := by omega
        go_wp2_with fail
        refine (next _ _ _ HWN.out HJ.out.2.1).mono ?_
        rintro e w3 ⟨y, rfl, hy1, hy2, hs3, ht3⟩
        obtain ⟨y, rfl⟩ := Int.eq_ofNat_of_zero_le hy1
        have hyn : y < n := by omega
        have HJ2 := Lib.hid (HJ.out.next hgs hs3 ht3)
        clear hs3 ht3 hy2 hy1 HJ
        have hlen := HJ2.out.1.len
        have HLn := Lib.hid hlen
        have hz2 : w.heap.size ≤ w3.heap.size := HJ2.out.2.2.below.size
        obtain ⟨d, od, x1, rfl, -, hx1', cx⟩ := HJ2.out.1.ints'.at t (by omega)
        have hxm : x1 ∈ l := by
          have : t < l.length := by omega
          rw [hx1']
          simp only [List.getD_eq_getElem?_getD, List.getElem?_eq_getElem this, Option.getD_some]
          exact List.getElem_mem this
        obtain ⟨hxa, hxb⟩ := HL.out x1 hxm
        obtain ⟨x2, rfl⟩ := Int.eq_ofNat_of_zero_le hxa
        have hx2n : x2 < n := by omega
        have HOw := Lib.hid (HO.out.thr HJ2.out.2.2 hB)
        have ht1 : ((t : Int) + 1 - 1) = (t : Int) := by omega
        have hN0 : (0 : Int) < (n : Int) := by omega
        clear hlen hx1' hxm hxa hxb
        go_wp2
        clear cx ht1
        go_loopw [8, 10] (fun nx i wr => ∃ (p q : Nat), p < n ∧ q ≤ n ∧ nx = .int .i64 p ∧ i = .int .i64 q ∧ wr = w3) (fun _ i _ => n - (intOf i).toNat)
        case atStart => exact ⟨y, 0, hyn, Nat.zero_le _, rfl, rfl, rfl⟩
        case round =>
          obtain ⟨p, q, hp, hq, rfl, rfl, rfl⟩ := hrel
          have hpi : (p : Int) < (n : Int) := by omega
          have HLx : Hid (∀ z ∈ l ++ [(p : Int)], 0 ≤ z ∧ z < (n : Int)) := fun z hz => by
            rcases List.mem_append.1 hz with h | h
            · exact HL.out z h
            · simp at h; omega
          have HJq : Hid (DL g w.heap.size (.slice (some ⟨d, od, none⟩) (t + 1) c) l w wr) := HJ2
          have hzr : w.heap.size ≤ wr.heap.size := hz2
          have hmod : ((p : Int) + 1) % (n : Int) = (((p + 1) % n : Nat) : Int) := by first | norm_cast | (push_cast; rfl) | simp
          have hmn : (p + 1) % n < n := Nat.mod_lt _ (by omega)
          have HEnd : Hid (∀ b2 c2 w4, Own w4 w.heap.size (.slice b2 (t + 1 + 1) c2) (l ++ [(p : Int)]) → Below w.heap.size wr w4 → DL g w.heap.size (.slice b2 (t + 1 + 1) c2) (l ++ [(p : Int)]) w w4) := fun b2 c2 w4 h1 h2 => HJ2.out.app hgs h1 h2
          by_cases hq0 : q < n
          · have hqi : (q : Int) < (n : Int) := by omega
            obtain ⟨ab, ao, ra, rc, Lr, lr, hab, -, hlr, cr, hIr⟩ := HOw.out.mat.at p hp
            by_cases hl : x2 < Lr
            · have hli : (x2 : Int) < (Lr : Int) := by omega
              obtain ⟨rb, ro, z, rfl, -, hz, cz⟩ := hIr.at x2 hl
              clear hlr hz hIr
              subst hab
              have HM := Lib.hid hmod
              clear hmod
              by_cases hb : z = -1000000000000000
              · subst hb
                go_wp2
                rw [HM.out]
                go_roundw
                case rel => exact ⟨_, q + 1, hmn, by omega, rfl, by go_num, trivial⟩
                case measure => simp [intOf]; omega
              · have hb2 : (z == -1000000000000000) = false := by simpa using hb
                go_wp2_with (at_builtin; refine append1 _ rfl (.tmp 63) (.tmp 65) rfl w.heap.size _ _ _ (t + 1) HLn.out.symm rfl HJq.out.1 rfl (by rw [← HLn.out]; omega) hzr ?_)
                intro b2 c2 w4 hO4 hb4 _
                have HJ4 := Lib.hid (HEnd.out _ _ _ hO4 hb4)
                clear hO4 hb4
                go_wp2
                go_roundw
                case rel => exact ⟨j - 1, t + 1, _, _, _, by omega, by go_num, rfl, HJ4, HLx⟩
                case measure => simp [intOf]; omega
            · have hli : ¬ ((x2 : Int) < (Lr : Int)) := by omega
              have hli2 : (Lr : Int) ≤ (x2 : Int) := by omega
              clear hlr hIr hmod
              subst hab
              go_wp2_with (at_builtin; refine append1 _ rfl (.tmp 63) (.tmp 65) rfl w.heap.size _ _ _ (t + 1) HLn.out.symm rfl HJq.out.1 rfl (by rw [← HLn.out]; omega) hzr ?_)
              intro b2 c2 w4 hO4 hb4 _
              have HJ4 := Lib.hid (HEnd.out _ _ _ hO4 hb4)
              clear hO4 hb4
              go_wp2
              go_roundw
              case rel => exact ⟨j - 1, t + 1, _, _, _, by omega, by go_num, rfl, HJ4, HLx⟩
              case measure => simp [intOf]; omega
          · obtain rfl : q = n := by omega
            clear hmod
            go_wp2_with (at_builtin; refine append1 _ rfl (.tmp 63) (.tmp 65) rfl w.heap.size _ _ _ (t + 1) HLn.out.symm rfl HJq.out.1 rfl (by rw [← HLn.out]; omega) hzr ?_)
            intro b2 c2 w4 hO4 hb4 _
            have HJ4 := Lib.hid (HEnd.out _ _ _ hO4 hb4)
            clear hO4 hb4
            go_wp2
            go_roundw
            case rel => exact ⟨j - 1, t + 1, _, _, _, by omega, by go_num, rfl, HJ4, HLx⟩
            case measure => simp [intOf]; omega
      · obtain rfl : j = 0 := by omega
        go_wp2_with fail
        refine (next g 40 _ (by decide) HJ.out.2.1).mono ?_
        rintro e w3 ⟨x5, rfl, -, -, hs3, ht3⟩
        have HJ3 := Lib.hid (HJ.out.next hgs hs3 ht3)
        have hz3 : w.heap.size ≤ w3.heap.size := HJ3.out.2.2.below.size
        clear hs3 ht3 HJ
        by_cases hx0 : x5 = 0
        · subst hx0
          have hlit : Hid (∀ i, i < 2 → ∃ x : Int, (Lit.int .i64 x).wf = true ∧ (w3.alloc (.cells #[.int .i64 (-1), .int .i64 n] 2)).cell? ⟨w3.heap.size, 0 + i, none⟩ = some (.int .i64 x)) := fun i hi => by
            rcases (show i = 0 ∨ i = 1 by omega) with rfl | rfl
            · exact ⟨-1, by decide, by simp⟩
            · exact ⟨n, HWN.out, by simp⟩
          go_wp2_with fail
          refine (pick g _ 0 2 2 _ (HJ3.out.2.1.alloc _) (by omega) (by omega) (Nat.lt_of_lt_of_le hgs hz3) hlit.out).mono ?_
          rintro e w4 ⟨y, rfl, hyw, hs4, ht4⟩
          have HJ4 : Hid (DL g w.heap.size (.slice b (t + 1) c) l w w4) := ⟨((HJ3.out.1.below (b_alloc w3 (.cells #[.int .i64 (-1), .int .i64 n] 2))).thr ht4 hgs), hs4, (HJ3.out.2.2.alloc (Nat.le_trans (Nat.le_of_lt hgs) hz3) _).trans ht4⟩
          have hz4 : w.heap.size ≤ w4.heap.size := HJ4.out.2.2.below.size
          have HLn := Lib.hid HJ4.out.1.len
          clear hs4 ht4 hyw HJ3
          go_wp2_with (at_builtin; refine append1 _ rfl (.tmp 71) (.tmp 76) rfl w.heap.size _ _ _ (t + 1) HLn.out.symm rfl HJ4.out.1 rfl (by rw [← HLn.out]; omega) hz4 ?_)
          intro b2 c2 w5 hO5 hb5 _
          have HJ5 := Lib.hid (HJ4.out.app hgs hO5 hb5)
          clear hO5 hb5
          go_wp2
          go_ret
          exact ⟨_, _, _, _, rfl, HJ5.out.1, HJ5.out.2.1, HJ5.out.2.2⟩
        · have e0 : (x5 == 0) = false := by simpa using hx0
          by_cases hx1' : x5 = 1
          · subst hx1'
            go_wp2
            go_ret
            exact ⟨_, _, _, [], rfl, own_nil _ _, HJ3.out.2.1, HJ3.out.2.2⟩
          · have e1 : (x5 == 1) = false := by simpa using hx1'
            go_wp2
            go_ret
            exact ⟨_, _, _, _, rfl, HJ3.out.1, HJ3.out.2.1, HJ3.out.2.2⟩
end Go.Proofs.YtlljnfljcdljaabGreat.V
