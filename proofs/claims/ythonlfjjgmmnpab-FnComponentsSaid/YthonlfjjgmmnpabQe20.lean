/- Texts laid together: D3a, D3b, D3c. -/
import Derived.Test.YthonlfjjgmmnpabRows
import Derived.Test.YthonlfjjgmmnpabQe1
import Derived.Test.YthonlfjjgmmnpabQe2
import Derived.Test.YthonlfjjgmmnpabQe3
import Derived.Test.YthonlfjjgmmnpabQe18
import Derived.Test.YthonlfjjgmmnpabQe19
import Derived.Lib.Hide
import Derived.Deep.OwnRows
import Derived.Test.YthonlfjjgmmnpabQe6
import Derived.Test.YthonlfjjgmmnpabQe8
import Derived.Test.YthonlfjjgmmnpabQe9
import Derived.Deep.RegionHeld3
import Derived.StillTailTactics
import Derived.IntWalk
namespace Go.Proofs.Ythonlfjjgmmnpab.V
open Go.RowKit

/-- An owned matrix in blocks from B on and below C. -/
def OwnMC (w : World) (B C : Nat) (v : Value) (R : List (List Int)) : Prop :=
  ∃ V, OwnV w B v R V ∧ (∀ k, v.ownBlock = some k → k < C) ∧ ∀ i, i < R.length → ∀ k, (V.getD i (.slice none 0 0)).ownBlock = some k → k < C
theorem OwnM.upto {w : World} {B : Nat} {v : Value} {R : List (List Int)} (h : OwnM w B v R) : OwnMC w B w.heap.size v R := by
  obtain ⟨V, hV⟩ := h
  exact ⟨V, hV, fun k hk => (own_lt hV.2.1 hk).2, fun i hi k hk => (own_lt (hV.2.2.1 i hi) hk).2⟩
theorem OwnMC.own {w : World} {B C : Nat} {v : Value} {R : List (List Int)} (h : OwnMC w B C v R) : OwnM w B v R := ⟨h.choose, h.choose_spec.1⟩
theorem OwnMC.keep {w w' : World} {B C : Nat} {v : Value} {R : List (List Int)} (h : OwnMC w B C v R) (hk : ∀ k, B ≤ k → k < C → w'.heap[k]? = w.heap[k]?) : OwnMC w' B C v R := by
  obtain ⟨V, ⟨h1, h2, h3, h4, h5⟩, h6, h7⟩ := h
  exact ⟨V, ⟨h1, ownsRow_keep h2 (fun k hv => hk k (own_lt h2 hv).1 (h6 k hv)), fun i hi => ownsRow_keep (h3 i hi) (fun k hv => hk k (own_lt (h3 i hi) hv).1 (h7 i hi k hv)), h4, h5⟩, h6, h7⟩
/-- What is needed to read and to write one entry. -/
theorem OwnMC.at {w : World} {B C n cap : Nat} {a : Option Addr} {R : List (List Int)} (h : OwnMC w B C (.slice a n cap) R) (i j : Nat) (hi : i < n) (hj : j < (R.getD i []).length) :
    ∃ g q L c x, a = some ⟨g, 0, none⟩ ∧ B ≤ g ∧ g < C ∧ B ≤ q ∧ q < C ∧ q ≠ g ∧ L = (R.getD i []).length ∧ x = (R.getD i []).getD j 0 ∧ w.cell? ⟨g, i, none⟩ = some (.slice (some ⟨q, 0, none⟩) L c) ∧ w.cell? ⟨q, j, none⟩ = some (.int .i64 x) ∧ w.frozen? ⟨q, j, none⟩ = false ∧
      ∀ y, OwnMC (w.setCell ⟨q, j, none⟩ (.int .i64 y)) B C (.slice a n cap) (R.set i ((R.getD i []).set j y)) := by
  obtain ⟨V, ⟨h1, h2, h3, h4, h5⟩, h6, h7⟩ := h
  obtain ⟨a', c', hv, hc, hm, hg⟩ := own_form h2
  injection hv with e1 e2 e3
  subst e1 e2 e3
  obtain ⟨g, rfl, hBg, hlt⟩ := hg (by omega)
  have hrow := h3 i hi
  obtain ⟨ra, rc, hrv, hrc, hrm, hrg⟩ := own_form hrow
  obtain ⟨q, rfl, hBq, hqlt⟩ := hrg (by omega)
  have hcell := World.ownsRow.cellAt h2 i (by omega)
  have hVi : V[i]? = some (V.getD i (.slice none 0 0)) := by simp [h1, hi]
  have hrow' := hrow
  rw [hrv] at hrow'
  have hcell2 := World.ownsRow.cellAt hrow' j (by omega)
  have hqg : q ≠ g := fun e => h4 i hi q (by rw [hrv]; rfl) (by rw [e]; rfl)
  refine ⟨g, q, _, rc, _, rfl, hBg, h6 g rfl, hBq, h7 i hi q (by rw [hrv]; rfl), hqg, rfl, rfl, ?_, ?_, World.ownsRow.frozenAt hrow' j, fun y => ?_⟩
  · rw [hcell, hVi, hrv]
  · rw [hcell2]
    generalize R.getD i [] = l at hj
    simp [hj]
  · refine ⟨V, ⟨by simpa using h1, ?_, ?_, ?_, ?_⟩, h6, fun t ht => h7 t (by simpa using ht)⟩
    · rw [List.length_set]
      exact ownsRow_keep h2 (fun k hv => Below.heap_setCell _ _ _ _ (by
        simp only [Value.ownBlock, Option.some.injEq] at hv; show k ≠ q; omega))
    · intro t ht
      simp only [List.length_set] at ht
      rw [getD_set _ _ _ _ _ (by omega)]
      by_cases e : t = i
      · subst e
        rw [if_pos rfl, hrv]
        exact Own.set hrow' j y
      · rw [if_neg e]
        refine ownsRow_keep (h3 t ht) (fun k hv => Below.heap_setCell _ _ _ _ ?_)
        show k ≠ q
        intro e2
        subst e2
        exact h5 t i ht hi e k hv (by rw [hrv]; rfl)
    · intro t ht
      simp only [List.length_set] at ht
      exact h4 t ht
    · intro t s ht hs
      simp only [List.length_set] at ht hs
      exact h5 t s ht hs
/-- A store where the row is known to lie. -/
theorem OwnMC.put {w : World} {B C n cap o k t q L c : Nat} {R : List (List Int)} (h : OwnMC w B C (.slice (some ⟨o, 0, none⟩) n cap) R) (hi : k < n) (hj : t < (R.getD k []).length) (hc : w.cell? ⟨o, k, none⟩ = some (.slice (some ⟨q, 0, none⟩) L c)) (y : Int) :
    B ≤ q ∧ q < C ∧ q ≠ o ∧ OwnMC (w.setCell ⟨q, t, none⟩ (.int .i64 y)) B C (.slice (some ⟨o, 0, none⟩) n cap) (R.set k ((R.getD k []).set t y)) := by
  obtain ⟨g, q', L', c', x, hg, _, _, h1, h2, h3, _, _, hc', _, _, hw⟩ := h.at k t hi hj
  injection hg with hg
  injection hg with hg
  subst hg
  rw [hc] at hc'
  injection hc' with hc'
  injection hc' with e1 e2 e3
  injection e1 with e1
  injection e1 with e1
  subst e1
  exact ⟨h1, h2, h3, hw y⟩

/-- A square matrix below C and a list from C on, while the source draws. -/
def D3 (g B C n cap o : Nat) (vx : Value) (l : List Int) (w0 w : World) : Prop :=
  ∃ R, Rect R n n ∧ OwnMC w B C (.slice (some ⟨o, 0, none⟩) n cap) R ∧ Own w C vx l ∧ C ≤ w.heap.size ∧ Src w g ∧ Thr g w0 w
theorem D3.next {g B C n cap o : Nat} {vx : Value} {l : List Int} {w0 w w' : World} (h : D3 g B C n cap o vx l w0 w) (hB : g < B) (hC : B ≤ C) (hs : Src w' g) (ht : Thr g w w') : D3 g B C n cap o vx l w0 w' := by
  obtain ⟨R, h1, h2, h3, h4, h5, h6⟩ := h
  exact ⟨R, h1, h2.keep (fun k k1 k2 => ht.other k (by omega) (by omega)), h3.thr ht (by omega), Nat.le_trans h4 ht.below.size, hs, h6.trans ht⟩
theorem D3.drew {g B C n cap o : Nat} {vx : Value} {l : List Int} {w0 w : World} (h : D3 g B C n cap o vx l w0 w) : D3 g B C n cap o vx l w0 w.drew := by
  obtain ⟨R, h1, h2, h3, h4, h5, h6⟩ := h
  exact ⟨R, h1, h2.keep (fun _ _ _ => rfl), h3.keep (fun _ _ _ => rfl), h4, h5, h6.drew⟩
theorem D3.store {g B C n cap o k t q L c : Nat} {vx : Value} {l : List Int} {w0 w : World} (h : D3 g B C n cap o vx l w0 w) (hB : g < B) (hB0 : w0.heap.size ≤ B) (hi : k < n) (hj : t < n) (hc : w.cell? ⟨o, k, none⟩ = some (.slice (some ⟨q, 0, none⟩) L c)) (y : Int) :
    D3 g B C n cap o vx l w0 (w.setCell ⟨q, t, none⟩ (.int .i64 y)) := by
  obtain ⟨R, h1, h2, h3, h4, h5, h6⟩ := h
  obtain ⟨q1, q2, q3, hp⟩ := h2.put hi (by rw [h1.2 k hi]; exact hj) hc y
  refine ⟨_, h1.set k t y hi, hp, h3.keep (fun b b1 _ => Below.heap_setCell _ _ _ _ (by show b ≠ q; omega)), by simpa [World.setCell] using h4, ?_, ?_⟩
  · exact h5.below ((Below.refl _ _).setCell (p := ⟨q, t, none⟩) (by show g + 1 ≤ q; omega) _)
  · exact ⟨h6.below.setCell (p := ⟨q, t, none⟩) (by show g ≤ q; omega) _, fun b b1 b2 => by
      rw [Below.heap_setCell _ _ _ _ (by show b ≠ q; omega)]; exact h6.other b b1 b2⟩
/-- What one round reads: a row, and two of the numbers. -/
theorem D3.cells {g B C n cap o N c : Nat} {b : Option Addr} {l : List Int} {w0 w : World} (h : D3 g B C n cap o (.slice b N c) l w0 w) (hB : g < B) (k t : Nat) (hi : k < n) (hj : t < n) (hk : k < N) (ht : t < N) :
    ∃ q c2 x xb, b = some ⟨xb, 0, none⟩ ∧ B ≤ q ∧ q < C ∧ C ≤ xb ∧ q ≠ o ∧ B ≤ o ∧ o < C ∧ w.cell? ⟨o, k, none⟩ = some (.slice (some ⟨q, 0, none⟩) n c2) ∧ w.cell? ⟨q, t, none⟩ = some (.int .i64 x) ∧ w.frozen? ⟨q, t, none⟩ = false ∧
      w.cell? ⟨xb, k, none⟩ = some (.int .i64 (l.getD k 0)) ∧ w.cell? ⟨xb, t, none⟩ = some (.int .i64 (l.getD t 0)) := by
  obtain ⟨R, h1, h2, h3, h4, h5, h6⟩ := h
  obtain ⟨g2, q, L, c2, x, hg, o1, o2, q1, q2, q3, hL, hx, c1, c2', f1, _⟩ := h2.at k t hi (by rw [h1.2 k hi]; exact hj)
  injection hg with hg
  injection hg with hg
  subst hg
  rw [h1.2 k hi] at hL
  subst hL
  obtain ⟨b', c', hv, _, _, hg⟩ := own_form h3
  have hl := h3.len
  injection hv with e1 e2 e3
  subst e1
  obtain ⟨xb, rfl, hxb, _⟩ := hg (by omega)
  exact ⟨q, c2, x, xb, rfl, q1, q2, hxb, q3, o1, o2, c1, c2', f1, h3.cellAt k hk, h3.cellAt t ht⟩
/-- The cells outlive a draw. -/
theorem d3_next {g B C n cap o q c2 xb k t : Nat} {vx u1 u2 : Value} {l : List Int} {w0 w wx : World} (h : w.cell? ⟨o, k, none⟩ = some (.slice (some ⟨q, 0, none⟩) n c2) ∧ w.cell? ⟨xb, k, none⟩ = some u1 ∧ w.cell? ⟨xb, t, none⟩ = some u2 ∧ D3 g B C n cap o vx l w0 w) (hB : g < B) (hC : B ≤ C) (ho : B ≤ o) (hx : C ≤ xb) (hs : Src wx g) (ht : Thr g w wx) :
    wx.cell? ⟨o, k, none⟩ = some (.slice (some ⟨q, 0, none⟩) n c2) ∧ wx.cell? ⟨xb, k, none⟩ = some u1 ∧ wx.cell? ⟨xb, t, none⟩ = some u2 ∧ D3 g B C n cap o vx l w0 wx := by
  obtain ⟨h1, h2, h3, h4⟩ := h
  refine ⟨?_, ?_, ?_, h4.next hB hC hs ht⟩
  · rw [ht.cell (p := ⟨o, k, none⟩) (cell_lt h1) (by show o ≠ g; omega)]; exact h1
  · rw [ht.cell (p := ⟨xb, k, none⟩) (cell_lt h2) (by show xb ≠ g; omega)]; exact h2
  · rw [ht.cell (p := ⟨xb, t, none⟩) (cell_lt h3) (by show xb ≠ g; omega)]; exact h3
/-- .. and a store into the row. -/
theorem d3_store {g B C n cap o q c2 xb k t : Nat} {vx u1 u2 : Value} {l : List Int} {w0 w : World} (h : w.cell? ⟨o, k, none⟩ = some (.slice (some ⟨q, 0, none⟩) n c2) ∧ w.cell? ⟨xb, k, none⟩ = some u1 ∧ w.cell? ⟨xb, t, none⟩ = some u2 ∧ D3 g B C n cap o vx l w0 w) (hB : g < B) (hB0 : w0.heap.size ≤ B) (hi : k < n) (hj : t < n) (hqo : q ≠ o) (hq : q < C) (hx : C ≤ xb) (y : Int) :
    (w.setCell ⟨q, t, none⟩ (.int .i64 y)).cell? ⟨o, k, none⟩ = some (.slice (some ⟨q, 0, none⟩) n c2) ∧ (w.setCell ⟨q, t, none⟩ (.int .i64 y)).cell? ⟨xb, k, none⟩ = some u1 ∧ (w.setCell ⟨q, t, none⟩ (.int .i64 y)).cell? ⟨xb, t, none⟩ = some u2 ∧ D3 g B C n cap o vx l w0 (w.setCell ⟨q, t, none⟩ (.int .i64 y)) := by
  obtain ⟨h1, h2, h3, h4⟩ := h
  refine ⟨?_, ?_, ?_, h4.store hB hB0 hi hj h1 y⟩
  · exact (World.cell?_of_block (w := w) (Below.heap_setCell _ _ _ _ (show o ≠ q from fun e => hqo e.symm))).trans h1
  · exact (World.cell?_of_block (w := w) (Below.heap_setCell _ _ _ _ (show xb ≠ q by omega))).trans h2
  · exact (World.cell?_of_block (w := w) (Below.heap_setCell _ _ _ _ (show xb ≠ q by omega))).trans h3
theorem d3_of {A1 A2 A3 A4 : Prop} (h : A1 ∧ A2 ∧ A3 ∧ A4) : A4 := h.2.2.2
end Go.Proofs.Ythonlfjjgmmnpab.V

namespace Go.Proofs.Ythonlfjjgmmnpab.V
open Go.RowKit

set_option maxRecDepth 100000 in
set_option maxHeartbeats 4000000 in
theorem draw3 (g : Nat) (w : World) (h : Src w g) : Calls Try.prog 76 #[.pointer (some ⟨g, 0, none⟩)] w (DrawMB g w) := by
  have HS := Lib.hid h
  have hgl := h.lt
  clear h
  go_enter Try.func76, Try.ntmps76
  go_wp2_with fail
  refine (drawSquareB g _ HS.out).mono ?_
  rintro e w1 ⟨a, n, cap, R, rfl, hn200, ho, hs1, ht1⟩
  have HO1 := Lib.hid ho
  have HS1 := Lib.hid hs1
  have HT1 := Lib.hid ht1
  have hz1 : w.heap.size ≤ w1.heap.size := ht1.below.size
  clear ho hs1 ht1
  by_cases hq : M.sqB R = true
  · have HQ := Lib.hid hq
    obtain ⟨-, hr, -, n1, n2⟩ := sq_of HO1.out.mat hq
    have HR := Lib.hid hr
    clear hq hr
    go_wp2_with fail
    refine (sSquare_b _ _ _ R _ true HQ.out HO1.out.mat).mono ?_
    rintro e w' ⟨rfl, q, rfl⟩
    have HO2 : Hid (OwnM (w1.drewN q) w.heap.size (.slice a n cap) R) := HO1.out.below (b_draws _ _)
    have HS2 : Hid (Src (w1.drewN q) g) := HS1.out.below (by have := HS1.out.lt; exact (b_draws w1 q).mono (by omega))
    have HT2 : Hid (Thr g w (w1.drewN q)) := HT1.out.drewN q
    have hz2 : w.heap.size ≤ (w1.drewN q).heap.size := hz1
    generalize w1.drewN q = w2 at HO2 HS2 HT2 hz2
    clear HO1 HS1 HT1 hz1
    go_wp2_with fail
    refine (next g 4 _ (by decide) HS2.out).mono ?_
    rintro e w3 ⟨x, rfl, hx1, -, hs3, ht3⟩
    have HO3 := Lib.hid (HO2.out.thr ht3 hgl)
    have HS3 := Lib.hid hs3
    have HT3 := Lib.hid (HT2.out.trans ht3)
    have hz3 : w.heap.size ≤ w3.heap.size := HT3.out.below.size
    clear hs3 ht3 HO2 HS2 HT2
    by_cases hx0 : x = 0
    · subst hx0
      go_wp2
      go_ret
      exact ⟨_, _, _, _, rfl, hn200, HO3.out, HS3.out, HT3.out⟩
    · have e0 : (x == 0) = false := by simpa using hx0
      have hg3 : g < w3.heap.size := by omega
      have HL0 : Hid (DL g w3.heap.size (.slice (some ⟨w3.heap.size, 0, none⟩) 0 0) [] w3 (w3.alloc (.cells #[] 2))) :=
        ⟨own_lit0 w3 _ (Nat.le_refl _), HS3.out.alloc _, (Thr.refl _ _).alloc (Nat.le_of_lt hg3) _⟩
      have HB0 : Hid (∀ x ∈ ([] : List Int), 0 ≤ x ∧ x < 20) := fun x hx => absurd hx (by simp)
      go_wp2
      go_loopw [4, 5] (fun out i wr => ∃ (t : Nat) (l : List Int) (b : Option Addr) (c : Nat), t ≤ n ∧ i = .int .i64 t ∧ out = .slice b t c ∧ Hid (DL g w3.heap.size (.slice b t c) l w3 wr) ∧ Hid (∀ x ∈ l, 0 ≤ x ∧ x < 20)) (fun _ i _ => n - (intOf i).toNat)
      case atStart => exact ⟨0, [], _, _, Nat.zero_le _, rfl, rfl, HL0, HB0⟩
      case round =>
        obtain ⟨t, l, b, c, ht, rfl, rfl, HJ, HBl⟩ := hrel
        clear HL0 HB0
        by_cases hlt : t < n
        · have hti : (t : Int) < (n : Int) := by omega
          go_wp2_with fail
          refine (next g 20 _ (by decide) HJ.out.2.1).mono ?_
          rintro e w4 ⟨y, rfl, hy1, hy2, hs4, ht4⟩
          have HJ1 := Lib.hid (HJ.out.next hg3 hs4 ht4)
          have hz4 : w3.heap.size ≤ w4.heap.size := HJ1.out.2.2.below.size
          have HLn := Lib.hid HJ1.out.1.len
          have HBl2 : Hid (∀ x ∈ l ++ [y], 0 ≤ x ∧ x < 20) := fun x hx => by
            rcases List.mem_append.1 hx with h | h
            · exact HBl.out x h
            · simp at h; subst h; omega
          clear hs4 ht4 hy2 HJ
          go_wp2_with (at_builtin; refine append1 _ rfl (.tmp 26) (.tmp 29) rfl w3.heap.size _ _ _ t HJ1.out.1.len.symm rfl HJ1.out.1 rfl (by rw [← HLn.out]; omega) hz4 ?_)
          intro b2 c2 w5 hO5 hb5 _
          have HJ2 := Lib.hid (HJ1.out.app hg3 hO5 hb5)
          clear hO5 hb5 HJ1
          go_wp2
          go_roundw
          case rel => exact ⟨t + 1, _, _, _, by omega, by go_num, rfl, HJ2, HBl2⟩
          case measure => simp [intOf]; omega
        · obtain rfl : t = n := by omega
          obtain ⟨o, -, -, -, -, rfl, -⟩ := HO3.out.at 0 0 (by omega) (by rw [HR.out.2 0 (by omega)]; omega)
          have hzr : w3.heap.size ≤ wr.heap.size := HJ.out.2.2.below.size
          have HD0 : Hid (D3 g w.heap.size w3.heap.size t cap o (.slice b t c) l w wr) :=
            ⟨R, HR.out, HO3.out.upto.keep (fun k k1 k2 => HJ.out.2.2.other k (by omega) k2), HJ.out.1, hzr, HJ.out.2.1, HT3.out.trans HJ.out.2.2⟩
          have HLn := Lib.hid HJ.out.1.len
          have HBx : Hid (∀ k, k < t → 0 ≤ l.getD k 0 ∧ l.getD k 0 < 20) := fun k hk => by
            have hk2 : k < l.length := by rw [← HLn.out]; exact hk
            have := HBl.out l[k] (List.getElem_mem hk2)
            simpa [hk2] using this
          clear HJ HO3 HS3 HT3
          go_wp2
          go_loopw [6, 7] (fun i _ wr => ∃ k : Nat, k ≤ t ∧ i = .int .i64 k ∧ Hid (D3 g w.heap.size w3.heap.size t cap o (.slice b t c) l w wr)) (fun i _ _ => t - (intOf i).toNat)
          case atStart => exact ⟨0, Nat.zero_le _, rfl, HD0⟩
          case round =>
            obtain ⟨k, hk, rfl, HD⟩ := hrel
            obtain ⟨wo, rfl⟩ : ∃ x, x = wr := ⟨_, rfl⟩
            clear HD0
            by_cases hlt : k < t
            · have hki : (k : Int) < (t : Int) := by omega
              go_wp2
              go_loopw [7] (fun i wr => ∃ s : Nat, s ≤ t ∧ i = .int .i64 s ∧ Hid (D3 g w.heap.size w3.heap.size t cap o (.slice b t c) l w wr)) (fun i _ => t - (intOf i).toNat)
              case atStart => exact ⟨0, Nat.zero_le _, rfl, HD⟩
              case round =>
                obtain ⟨s, hs, rfl, HE⟩ := hrel
                obtain ⟨wp, rfl⟩ : ∃ x, x = wr := ⟨_, rfl⟩
                clear HD
                by_cases hsl : s < t
                · have hsi : (s : Int) < (t : Int) := by omega
                  obtain ⟨q, c2, x, xb, rfl, hq1, hq2, hxb, hqo, ho1, ho2, c1, c2', f1, d1, d2⟩ := HE.out.cells hgl k s hlt hsl hlt hsl
                  obtain ⟨u, hu⟩ : ∃ u, u = l.getD k 0 := ⟨_, rfl⟩
                  obtain ⟨v, hv⟩ : ∃ v, v = l.getD s 0 := ⟨_, rfl⟩
                  have hub := HBx.out k hlt
                  have hvb := HBx.out s hsl
                  rw [← hu] at d1 hub
                  rw [← hv] at d2 hvb
                  obtain ⟨hu1, hu2⟩ := hub
                  obtain ⟨hv1, hv2⟩ := hvb
                  obtain ⟨bf, hbf⟩ : ∃ bf, bf = M.isFin x := ⟨_, rfl⟩
                  have HCf : ∀ w, Calls Try.prog 106 #[.int .i64 x] w fun e w' => e = .returned (.bool bf) ∧ w = w' := fun w => by rw [hbf]; exact sFinite x w
                  obtain ⟨bi, hbi⟩ : ∃ bi, bi = (decide (-100 ≤ x) && decide (x ≤ 100)) := ⟨_, rfl⟩
                  have HCi : ∀ w, Calls Try.prog 83 #[.int .i64 x, .int .i64 (-100), .int .i64 100] w fun e w' => e = .returned (.bool bi) ∧ w = w' := fun w => by rw [hbi]; exact sIn x _ _ w
                  clear hu hv hbf hbi
                  cases bf with
                  | false =>
                    go_wp2_with (go_at_call 106; refine (HCf _).mono ?_; rintro e w' ⟨rfl, rfl⟩)
                    go_roundw
                    case rel => exact ⟨s + 1, by omega, by go_num, HE⟩
                    case measure => simp [intOf]; omega
                  | true =>
                    cases bi with
                    | false =>
                      go_wp2_with (first | (go_at_call 106; refine (HCf _).mono ?_; rintro e w' ⟨rfl, rfl⟩) | (go_at_call 83; refine (HCi _).mono ?_; rintro e w' ⟨rfl, rfl⟩))
                      go_roundw
                      case rel => exact ⟨s + 1, by omega, by go_num, HE⟩
                      case measure => simp [intOf]; omega
                    | true =>
                      go_wp2_with (first | (go_at_call 106; refine (HCf _).mono ?_; rintro e w' ⟨rfl, rfl⟩) | (go_at_call 83; refine (HCi _).mono ?_; rintro e w' ⟨rfl, rfl⟩))
                      have HE1 := Lib.hid HE.out.drew
                      go_region_held3 (fun w' => w'.cell? ⟨o, k, none⟩ = some (.slice (some ⟨q, 0, none⟩) t c2) ∧ w'.cell? ⟨xb, k, none⟩ = some (.int .i64 u) ∧ w'.cell? ⟨xb, s, none⟩ = some (.int .i64 v) ∧ D3 g w.heap.size w3.heap.size t cap o (.slice (some ⟨xb, 0, none⟩) t c) l w w')
                        (first
                          | exact ⟨c1, d1, d2, HE1.out⟩
                          | exact d3_next ‹_ ∧ _ ∧ _ ∧ D3 _ _ _ _ _ _ _ _ _ _› hgl hz3 ho1 hxb HSx.out HTx.out
                          | exact d3_store ‹_ ∧ _ ∧ _ ∧ D3 _ _ _ _ _ _ _ _ _ _› hgl (Nat.le_refl _) hlt hsl hqo hq2 hxb _)
                        ((go_at_call 48; refine (next g 12 _ (by decide) HE1.out.choose_spec.2.2.2.2.1).mono ?_; rintro e wx ⟨y, rfl, hy1, hy2, hsx, htx⟩; have HSx := Lib.hid hsx; have HTx := Lib.hid htx; have cqx : wx.cell? ⟨q, s, none⟩ = some (.int .i64 x) := (htx.cell (p := ⟨q, s, none⟩) (cell_lt c2') (show q ≠ g by omega)).trans c2'; have fqx : wx.frozen? ⟨q, s, none⟩ = false := (htx.frozen (p := ⟨q, s, none⟩) (cell_lt c2') (show g < q by omega)).trans f1; clear hsx htx))
                      obtain ⟨ws, hws⟩ : ∃ ws, ws = wx.setCell ⟨q, s, none⟩ (.int .i64 (IntKind.i64.wrap (IntKind.i64.wrap (u - v) - y))) := ⟨_, rfl⟩
                      have HEs : Hid (D3 g w.heap.size w3.heap.size t cap o (.slice (some ⟨xb, 0, none⟩) t c) l w ws) := by
                        show D3 _ _ _ _ _ _ _ _ _ _
                        rw [hws]
                        exact d3_of (d3_store (d3_next (w := wp.drew) ⟨c1, d1, d2, HE1.out⟩ hgl hz3 ho1 hxb HSx.out HTx.out) hgl (Nat.le_refl _) hlt hsl hqo hq2 hxb _)
                      rw [← hws]
                      clear hws c1 c2' f1 d1 d2 cqx fqx
                      go_wp2_with fail
                      refine (next g 30 _ (by decide) HEs.out.choose_spec.2.2.2.2.1).mono ?_
                      rintro e w7 ⟨z, rfl, hz71, -, hs7, ht7⟩
                      have HE7 := Lib.hid (HEs.out.next hgl hz3 hs7 ht7)
                      clear hs7 ht7
                      by_cases hz0 : z = 0
                      · subst hz0
                        obtain ⟨q7, c27, x7, xb7, hxb7, hq71, hq72, hxb77, hqo7, -, -, c17, c27', f17, -, -⟩ := HE7.out.cells hgl k s hlt hsl hlt hsl
                        have HE8 : Hid (∀ y, D3 g w.heap.size w3.heap.size t cap o (.slice (some ⟨xb, 0, none⟩) t c) l w (w7.drew.setCell ⟨q7, s, none⟩ (.int .i64 y))) := fun y => HE7.out.drew.store hgl (Nat.le_refl _) hlt hsl c17 y
                        clear hxb7
                        go_wp2
                        go_still_tail 14, (by kernel_rfl)
                        change wpList _ _ _ _ _ w7.drew
                        go_wp2
                        go_roundw
                        case rel => exact ⟨s + 1, by omega, by go_num, HE8.out _⟩
                        case measure => simp [intOf]; omega
                      · have hz1' : (z == 0) = false := by simpa using hz0
                        go_wp2
                        go_roundw
                        case rel => exact ⟨s + 1, by omega, by go_num, HE7⟩
                        case measure => simp [intOf]; omega
                · obtain rfl : s = t := by omega
                  go_wp2
                  go_roundw
                  case rel => exact ⟨k + 1, by omega, by go_num, HE⟩
                  case measure => simp [intOf]; omega
            · obtain rfl : k = t := by omega
              obtain ⟨R2, -, h2, -, -, h5, h6⟩ := HD.out
              go_wp2
              go_ret
              exact ⟨_, _, _, _, rfl, hn200, h2.own, h5, h6⟩
  · simp only [Bool.not_eq_true] at hq
    have HQ := Lib.hid hq
    clear hq
    go_wp2_with fail
    refine (sSquare_b _ _ _ R _ false HQ.out HO1.out.mat).mono ?_
    rintro e w' ⟨rfl, q, rfl⟩
    have hlt := HS1.out.lt
    go_wp2
    go_ret
    exact ⟨_, _, _, _, rfl, hn200, HO1.out.below (b_draws _ _), HS1.out.below ((b_draws w1 q).mono (by omega)), HT1.out.drewN q⟩
end Go.Proofs.Ythonlfjjgmmnpab.V

namespace Go.Proofs.Ythonlfjjgmmnpab.V
open Go.RowKit


/-- A drawn matrix and two drawn numbers. -/
def DrawnMII (w : World) (e : Ending) (w' : World) : Prop :=
  ∃ (a : Option Addr) (n cap : Nat) (R : List (List Int)) (x y : Int), e = .returned (.tuple #[.slice a n cap, .int .i64 x, .int .i64 y]) ∧ Mat w' a n R ∧ Below w.heap.size w w'
end Go.Proofs.Ythonlfjjgmmnpab.V
