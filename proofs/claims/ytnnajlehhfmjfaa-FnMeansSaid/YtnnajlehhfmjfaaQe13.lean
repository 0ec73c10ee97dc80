/- Texts laid together: D3a, D3b, D3c, D3d, MatH, Clo3. -/
import Derived.Test.YtnnajlehhfmjfaaRows
import Derived.Test.YtnnajlehhfmjfaaQe1
import Derived.Test.YtnnajlehhfmjfaaQe2
import Derived.Test.YtnnajlehhfmjfaaQe12
import Derived.Lib.Hide
import Derived.Deep.OwnRows
import Derived.Test.YtnnajlehhfmjfaaQe6
import Derived.Deep.RegionHeld3
import Derived.StillTailTactics
import Derived.IntWalk
import Derived.Test.YtnnajlehhfmjfaaQe7
set_option linter.unusedSimpArgs false
set_option linter.unusedVariables false
set_option linter.unusedSectionVars false
namespace Go.Proofs.Ytnnajlehhfmjfaa.V
open Go.RowKit

/-- An owned matrix in blocks from B on and below C. -/
def OwnMC (w : World) (B C : Nat) (v : Value) (R : List (List Int)) : Prop :=
  ∃ V, OwnV w B v R V ∧ (∀ k, v.ownBlock = some k → k < C) ∧ ∀ i, i < R.length → ∀ k, (V.getD i (.slice none 0 0)).ownBlock = some k → k < C
theorem OwnM.upto {w : World} {B : Nat} {v : Value} {R : List (List Int)} (h : OwnM w B v R) : OwnMC w B w.heap.size v R := by
  obtain ⟨V, hV⟩ := h
  exact ⟨V, hV, fun k hk => (own_lt hV.2.1 hk).2, fun i hi k hk => (own_lt (hV.2.2.1 i hi) hk).2⟩
theorem OwnMC.own {w : World} {B C : Nat} {v : Value} {R : List (List Int)} (h : OwnMC w B C v R) : OwnM w B v R := ⟨h.choose, h.choose_spec.1⟩
theorem OwnMC.keep {w w' : World} {B C : Nat} {v : Value} {R : List (List Int)} (h : OwnMC w B C v R) (hk : ∀ k, B ≤ k → k < C → w'.heap[k]? = w.heap[k]?) : OwnMC w' B C v R := by
  obtain ⟨V, ⟨h1, h2, h3, h4, h5⟩, h6, h7⟩ := h
  exact ⟨V, ⟨h1, ownsRow_keep h2 (fun k hv => hk k (own_lt h2 hv).1 (h6 k hv)), fun i hi => ownsRow_keep (h3 i hi) (fun k hv => hk k (own_lt (h3 i hi) hv).1 (h7 i hi k hv)), h4, h5⟩, h6, h7⟩
/-- What is needed to read and to write one entry. -/
theorem OwnMC.at {w : World} {B C n cap : Nat} {a : Option Addr} {R : List (List Int)} (h : OwnMC w B C (.slice a n cap) R) (i j : Nat) (hi : i < n) (hj : j < (R.getD i []).length) :
    ∃ g q L c x, a = some ⟨g, 0, none⟩ ∧ B ≤ g ∧ g < C ∧ B ≤ q ∧ q < C ∧ q ≠ g ∧ L = (R.getD i []).length ∧ x = (R.getD i []).getD j 0 ∧ w.cell? ⟨g, i, none⟩ = some (.slice (some ⟨q, 0, none⟩) L c) ∧ w.cell? ⟨q, j, none⟩ = some (.int .i64 x) ∧ w.frozen? ⟨q, j, none⟩ = false ∧
      ∀ y, OwnMC (w.setCell ⟨q, j, none⟩ (.int .i64 y)) B C (.slice a n cap) (R.set i ((R.getD i []).set j y)) := by
  obtain ⟨V, ⟨h1, h2, h3, h4, h5⟩, h6, h7⟩ := h
  obtain ⟨a', c', hv, hc, hm, hg⟩ := own_form h2
  injection hv with e1 e2 e3
  subst e1 e2 e3
  obtain ⟨g, rfl, hBg, hlt⟩ := hg (by omega)
  have hrow := h3 i hi
  obtain ⟨ra, rc, hrv, hrc, hrm, hrg⟩ := own_form hrow
  obtain ⟨q, rfl, hBq, hqlt⟩ := hrg (by omega)
  have hcell := World.ownsRow.cellAt h2 i (by omega)
  have hVi : V[i]? = some (V.getD i (.slice none 0 0)) := by simp [h1, hi]
  have hrow' := hrow
  rw [hrv] at hrow'
  have hcell2 := World.ownsRow.cellAt hrow' j (by omega)
  have hqg : q ≠ g := fun e => h4 i hi q (by rw [hrv]; rfl) (by rw [e]; rfl)
  refine ⟨g, q, _, rc, _, rfl, hBg, h6 g rfl, hBq, h7 i hi q (by rw [hrv]; rfl), hqg, rfl, rfl, ?_, ?_, World.ownsRow.frozenAt hrow' j, fun y => ?_⟩
  · rw [hcell, hVi, hrv]
  · rw [hcell2]
    generalize R.getD i [] = l at hj
    simp [hj]
  · refine ⟨V, ⟨by simpa using h1, ?_, ?_, ?_, ?_⟩, h6, fun t ht => h7 t (by simpa using ht)⟩
    · rw [List.length_set]
      exact ownsRow_keep h2 (fun k hv => Below.heap_setCell _ _ _ _ (by
        simp only [Value.ownBlock, Option.some.injEq] at hv; show k ≠ q; omega))
    · intro t ht
      simp only [List.length_set] at ht
      rw [getD_set _ _ _ _ _ (by omega)]
      by_cases e : t = i
      · subst e
        rw [if_pos rfl, hrv]
        exact Own.set hrow' j y
      · rw [if_neg e]
        refine ownsRow_keep (h3 t ht) (fun k hv => Below.heap_setCell _ _ _ _ ?_)
        show k ≠ q
        intro e2
        subst e2
        exact h5 t i ht hi e k hv (by rw [hrv]; rfl)
    · intro t ht
      simp only [List.length_set] at ht
      exact h4 t ht
    · intro t s ht hs
      simp only [List.length_set] at ht hs
      exact h5 t s ht hs
/-- A store where the row is known to lie. -/
theorem OwnMC.put {w : World} {B C n cap o k t q L c : Nat} {R : List (List Int)} (h : OwnMC w B C (.slice (some ⟨o, 0, none⟩) n cap) R) (hi : k < n) (hj : t < (R.getD k []).length) (hc : w.cell? ⟨o, k, none⟩ = some (.slice (some ⟨q, 0, none⟩) L c)) (y : Int) :
    B ≤ q ∧ q < C ∧ q ≠ o ∧ OwnMC (w.setCell ⟨q, t, none⟩ (.int .i64 y)) B C (.slice (some ⟨o, 0, none⟩) n cap) (R.set k ((R.getD k []).set t y)) := by
  obtain ⟨g, q', L', c', x, hg, _, _, h1, h2, h3, _, _, hc', _, _, hw⟩ := h.at k t hi hj
  injection hg with hg
  injection hg with hg
  subst hg
  rw [hc] at hc'
  injection hc' with hc'
  injection hc' with e1 e2 e3
  injection e1 with e1
  injection e1 with e1
  subst e1
  exact ⟨h1, h2, h3, hw y⟩

/-- A square matrix below C and a list from C on, while the source draws. -/
def D3 (g B C n cap o : Nat) (vx : Value) (l : List Int) (w0 w : World) : Prop :=
  ∃ R, Rect R n n ∧ OwnMC w B C (.slice (some ⟨o, 0, none⟩) n cap) R ∧ Own w C vx l ∧ C ≤ w.heap.size ∧ Src w g ∧ Thr g w0 w
theorem D3.next {g B C n cap o : Nat} {vx : Value} {l : List Int} {w0 w w' : World} (h : D3 g B C n cap o vx l w0 w) (hB : g < B) (hC : B ≤ C) (hs : Src w' g) (ht : Thr g w w') : D3 g B C n cap o vx l w0 w' := by
  obtain ⟨R, h1, h2, h3, h4, h5, h6⟩ := h
  exact ⟨R, h1, h2.keep (fun k k1 k2 => ht.other k (by omega) (by omega)), h3.thr ht (by omega), Nat.le_trans h4 ht.below.size, hs, h6.trans ht⟩
theorem D3.drew {g B C n cap o : Nat} {vx : Value} {l : List Int} {w0 w : World} (h : D3 g B C n cap o vx l w0 w) : D3 g B C n cap o vx l w0 w.drew := by
  obtain ⟨R, h1, h2, h3, h4, h5, h6⟩ := h
  exact ⟨R, h1, h2.keep (fun _ _ _ => rfl), h3.keep (fun _ _ _ => rfl), h4, h5, h6.drew⟩
theorem D3.store {g B C n cap o k t q L c : Nat} {vx : Value} {l : List Int} {w0 w : World} (h : D3 g B C n cap o vx l w0 w) (hB : g < B) (hB0 : w0.heap.size ≤ B) (hi : k < n) (hj : t < n) (hc : w.cell? ⟨o, k, none⟩ = some (.slice (some ⟨q, 0, none⟩) L c)) (y : Int) :
    D3 g B C n cap o vx l w0 (w.setCell ⟨q, t, none⟩ (.int .i64 y)) := by
  obtain ⟨R, h1, h2, h3, h4, h5, h6⟩ := h
  obtain ⟨q1, q2, q3, hp⟩ := h2.put hi (by rw [h1.2 k hi]; exact hj) hc y
  refine ⟨_, h1.set k t y hi, hp, h3.keep (fun b b1 _ => Below.heap_setCell _ _ _ _ (by show b ≠ q; omega)), by simpa [World.setCell] using h4, ?_, ?_⟩
  · exact h5.below ((Below.refl _ _).setCell (p := ⟨q, t, none⟩) (by show g + 1 ≤ q; omega) _)
  · exact ⟨h6.below.setCell (p := ⟨q, t, none⟩) (by show g ≤ q; omega) _, fun b b1 b2 => by
      rw [Below.heap_setCell _ _ _ _ (by show b ≠ q; omega)]; exact h6.other b b1 b2⟩
/-- What one round reads: a row, and two of the numbers. -/
theorem D3.cells {g B C n cap o N c : Nat} {b : Option Addr} {l : List Int} {w0 w : World} (h : D3 g B C n cap o (.slice b N c) l w0 w) (hB : g < B) (k t : Nat) (hi : k < n) (hj : t < n) (hk : k < N) (ht : t < N) :
    ∃ q c2 x xb, b = some ⟨xb, 0, none⟩ ∧ B ≤ q ∧ q < C ∧ C ≤ xb ∧ q ≠ o ∧ B ≤ o ∧ o < C ∧ w.cell? ⟨o, k, none⟩ = some (.slice (some ⟨q, 0, none⟩) n c2) ∧ w.cell? ⟨q, t, none⟩ = some (.int .i64 x) ∧ w.frozen? ⟨q, t, none⟩ = false ∧
      w.cell? ⟨xb, k, none⟩ = some (.int .i64 (l.getD k 0)) ∧ w.cell? ⟨xb, t, none⟩ = some (.int .i64 (l.getD t 0)) := by
  obtain ⟨R, h1, h2, h3, h4, h5, h6⟩ := h
  obtain ⟨g2, q, L, c2, x, hg, o1, o2, q1, q2, q3, hL, hx, c1, c2', f1, _⟩ := h2.at k t hi (by rw [h1.2 k hi]; exact hj)
  injection hg with hg
  injection hg with hg
  subst hg
  rw [h1.2 k hi] at hL
  subst hL
  obtain ⟨b', c', hv, _, _, hg⟩ := own_form h3
  have hl := h3.len
  injection hv with e1 e2 e3
  subst e1
  obtain ⟨xb, rfl, hxb, _⟩ := hg (by omega)
  exact ⟨q, c2, x, xb, rfl, q1, q2, hxb, q3, o1, o2, c1, c2', f1, h3.cellAt k hk, h3.cellAt t ht⟩
/-- The cells outlive a draw. -/
theorem d3_next {g B C n cap o q c2 xb k t : Nat} {vx u1 u2 : Value} {l : List Int} {w0 w wx : World} (h : w.cell? ⟨o, k, none⟩ = some (.slice (some ⟨q, 0, none⟩) n c2) ∧ w.cell? ⟨xb, k, none⟩ = some u1 ∧ w.cell? ⟨xb, t, none⟩ = some u2 ∧ D3 g B C n cap o vx l w0 w) (hB : g < B) (hC : B ≤ C) (ho : B ≤ o) (hx : C ≤ xb) (hs : Src wx g) (ht : Thr g w wx) :
    wx.cell? ⟨o, k, none⟩ = some (.slice (some ⟨q, 0, none⟩) n c2) ∧ wx.cell? ⟨xb, k, none⟩ = some u1 ∧ wx.cell? ⟨xb, t, none⟩ = some u2 ∧ D3 g B C n cap o vx l w0 wx := by
  obtain ⟨h1, h2, h3, h4⟩ := h
  refine ⟨?_, ?_, ?_, h4.next hB hC hs ht⟩
  · rw [ht.cell (p := ⟨o, k, none⟩) (cell_lt h1) (by show o ≠ g; omega)]; exact h1
  · rw [ht.cell (p := ⟨xb, k, none⟩) (cell_lt h2) (by show xb ≠ g; omega)]; exact h2
  · rw [ht.cell (p := ⟨xb, t, none⟩) (cell_lt h3) (by show xb ≠ g; omega)]; exact h3
/-- .. and a store into the row. -/
theorem d3_store {g B C n cap o q c2 xb k t : Nat} {vx u1 u2 : Value} {l : List Int} {w0 w : World} (h : w.cell? ⟨o, k, none⟩ = some (.slice (some ⟨q, 0, none⟩) n c2) ∧ w.cell? ⟨xb, k, none⟩ = some u1 ∧ w.cell? ⟨xb, t, none⟩ = some u2 ∧ D3 g B C n cap o vx l w0 w) (hB : g < B) (hB0 : w0.heap.size ≤ B) (hi : k < n) (hj : t < n) (hqo : q ≠ o) (hq : q < C) (hx : C ≤ xb) (y : Int) :
    (w.setCell ⟨q, t, none⟩ (.int .i64 y)).cell? ⟨o, k, none⟩ = some (.slice (some ⟨q, 0, none⟩) n c2) ∧ (w.setCell ⟨q, t, none⟩ (.int .i64 y)).cell? ⟨xb, k, none⟩ = some u1 ∧ (w.setCell ⟨q, t, none⟩ (.int .i64 y)).cell? ⟨xb, t, none⟩ = some u2 ∧ D3 g B C n cap o vx l w0 (w.setCell ⟨q, t, none⟩ (.int .i64 y)) := by
  obtain ⟨h1, h2, h3, h4⟩ := h
  refine ⟨?_, ?_, ?_, h4.store hB hB0 hi hj h1 y⟩
  · exact (World.cell?_of_block (w := w) (Below.heap_setCell _ _ _ _ (show o ≠ q from fun e => hqo e.symm))).trans h1
  · exact (World.cell?_of_block (w := w) (Below.heap_setCell _ _ _ _ (show xb ≠ q by omega))).trans h2
  · exact (World.cell?_of_block (w := w) (Below.heap_setCell _ _ _ _ (show xb ≠ q by omega))).trans h3
theorem d3_of {A1 A2 A3 A4 : Prop} (h : A1 ∧ A2 ∧ A3 ∧ A4) : A4 := h.2.2.2
end Go.Proofs.Ytnnajlehhfmjfaa.V

namespace Go.Proofs.Ytnnajlehhfmjfaa.V
open Go.RowKit

set_option maxRecDepth 100000 in
set_option maxHeartbeats 4000000 in
theorem draw3 (g : Nat) (w : World) (h : Src w g) : Calls Try.prog 87 #[.pointer (some ⟨g, 0, none⟩)] w (DrawMB g w) := by
  have HS := Lib.hid h
  have hgl := h.lt
  clear h
  go_enter Try.func87, Try.ntmps87
  go_wp2_with fail
  refine (drawSquareB g _ HS.out).mono ?_
  rintro e w1 ⟨a, n, cap, R, rfl, hn200, ho, hs1, ht1⟩
  have HO1 := Lib.hid ho
  have HS1 := Lib.hid hs1
  have HT1 := Lib.hid ht1
  have hz1 : w.heap.size ≤ w1.heap.size := ht1.below.size
  clear ho hs1 ht1
  by_cases hq : M.sqB R = true
  · have HQ := Lib.hid hq
    obtain ⟨-, hr, -, n1, n2⟩ := sq_of HO1.out.mat hq
    have HR := Lib.hid hr
    clear hq hr
    go_wp2_with fail
    refine (sSquare_b _ _ _ R _ true HQ.out HO1.out.mat).mono ?_
    rintro e w' ⟨rfl, q, rfl⟩
    have HO2 : Hid (OwnM (w1.drewN q) w.heap.size (.slice a n cap) R) := HO1.out.below (b_draws _ _)
    have HS2 : Hid (Src (w1.drewN q) g) := HS1.out.below (by have := HS1.out.lt; exact (b_draws w1 q).mono (by omega))
    have HT2 : Hid (Thr g w (w1.drewN q)) := HT1.out.drewN q
    have hz2 : w.heap.size ≤ (w1.drewN q).heap.size := hz1
    generalize w1.drewN q = w2 at HO2 HS2 HT2 hz2
    clear HO1 HS1 HT1 hz1
    go_wp2_with fail
    refine (next g 4 _ (by decide) HS2.out).mono ?_
    rintro e w3 ⟨x, rfl, hx1, -, hs3, ht3⟩
    have HO3 := Lib.hid (HO2.out.thr ht3 hgl)
    have HS3 := Lib.hid hs3
    have HT3 := Lib.hid (HT2.out.trans ht3)
    have hz3 : w.heap.size ≤ w3.heap.size := HT3.out.below.size
    clear hs3 ht3 HO2 HS2 HT2
    by_cases hx0 : x = 0
    · subst hx0
      go_wp2
      go_ret
      exact ⟨_, _, _, _, rfl, hn200, HO3.out, HS3.out, HT3.out⟩
    · have e0 : (x == 0) = false := by simpa using hx0
      have hg3 : g < w3.heap.size := by omega
      have HL0 : Hid (DL g w3.heap.size (.slice (some ⟨w3.heap.size, 0, none⟩) 0 0) [] w3 (w3.alloc (.cells #[] 2))) :=
        ⟨own_lit0 w3 _ (Nat.le_refl _), HS3.out.alloc _, (Thr.refl _ _).alloc (Nat.le_of_lt hg3) _⟩
      have HB0 : Hid (∀ x ∈ ([] : List Int), 0 ≤ x ∧ x < 20) := fun x hx => absurd hx (by simp)
      go_wp2
      go_loopw [4, 5] (fun out i wr => ∃ (t : Nat) (l : List Int) (b : Option Addr) (c : Nat), t ≤ n ∧ i = .int .i64 t ∧ out = .slice b t c ∧ Hid (DL g w3.heap.size (.slice b t c) l w3 wr) ∧ Hid (∀ x ∈ l, 0 ≤ x ∧ x < 20)) (fun _ i _ => n - (intOf i).toNat)
      case atStart => exact ⟨0, [], _, _, Nat.zero_le _, rfl, rfl, HL0, HB0⟩
      case round =>
        obtain ⟨t, l, b, c, ht, rfl, rfl, HJ, HBl⟩ := hrel
        clear HL0 HB0
        by_cases hlt : t < n
        · have hti : (t : Int) < (n : Int) := by omega
          go_wp2_with fail
          refine (next g 20 _ (by decide) HJ.out.2.1).mono ?_
          rintro e w4 ⟨y, rfl, hy1, hy2, hs4, ht4⟩
          have HJ1 := Lib.hid (HJ.out.next hg3 hs4 ht4)
          have hz4 : w3.heap.size ≤ w4.heap.size := HJ1.out.2.2.below.size
          have HLn := Lib.hid HJ1.out.1.len
          have HBl2 : Hid (∀ x ∈ l ++ [y], 0 ≤ x ∧ x < 20) := fun x hx => by
            rcases List.mem_append.1 hx with h | h
            · exact HBl.out x h
            · simp at h; subst h; omega
          clear hs4 ht4 hy2 HJ
          go_wp2_with (at_builtin; refine append1 _ rfl (.tmp 26) (.tmp 29) rfl w3.heap.size _ _ _ t HJ1.out.1.len.symm rfl HJ1.out.1 rfl (by rw [← HLn.out]; omega) hz4 ?_)
          intro b2 c2 w5 hO5 hb5 _
          have HJ2 := Lib.hid (HJ1.out.app hg3 hO5 hb5)
          clear hO5 hb5 HJ1
          go_wp2
          go_roundw
          case rel => exact ⟨t + 1, _, _, _, by omega, by go_num, rfl, HJ2, HBl2⟩
          case measure => simp [intOf]; omega
        · obtain rfl : t = n := by omega
          obtain ⟨o, -, -, -, -, rfl, -⟩ := HO3.out.at 0 0 (by omega) (by rw [HR.out.2 0 (by omega)]; omega)
          have hzr : w3.heap.size ≤ wr.heap.size := HJ.out.2.2.below.size
          have HD0 : Hid (D3 g w.heap.size w3.heap.size t cap o (.slice b t c) l w wr) :=
            ⟨R, HR.out, HO3.out.upto.keep (fun k k1 k2 => HJ.out.2.2.other k (by omega) k2), HJ.out.1, hzr, HJ.out.2.1, HT3.out.trans HJ.out.2.2⟩
          have HLn := Lib.hid HJ.out.1.len
          have HBx : Hid (∀ k, k < t → 0 ≤ l.getD k 0 ∧ l.getD k 0 < 20) := fun k hk => by
            have hk2 : k < l.length := by rw [← HLn.out]; exact hk
            have := HBl.out l[k] (List.getElem_mem hk2)
            simpa [hk2] using this
          clear HJ HO3 HS3 HT3
          go_wp2
          go_loopw [6, 7] (fun i _ wr => ∃ k : Nat, k ≤ t ∧ i = .int .i64 k ∧ Hid (D3 g w.heap.size w3.heap.size t cap o (.slice b t c) l w wr)) (fun i _ _ => t - (intOf i).toNat)
          case atStart => exact ⟨0, Nat.zero_le _, rfl, HD0⟩
          case round =>
            obtain ⟨k, hk, rfl, HD⟩ := hrel
            obtain ⟨wo, rfl⟩ : ∃ x, x = wr := ⟨_, rfl⟩
            clear HD0
            by_cases hlt : k < t
            · have hki : (k : Int) < (t : Int) := by omega
              go_wp2
              go_loopw [7] (fun i wr => ∃ s : Nat, s ≤ t ∧ i = .int .i64 s ∧ Hid (D3 g w.heap.size w3.heap.size t cap o (.slice b t c) l w wr)) (fun i _ => t - (intOf i).toNat)
              case atStart => exact ⟨0, Nat.zero_le _, rfl, HD⟩
              case round =>
                obtain ⟨s, hs, rfl, HE⟩ := hrel
                obtain ⟨wp, rfl⟩ : ∃ x, x = wr := ⟨_, rfl⟩
                clear HD
                by_cases hsl : s < t
                · have hsi : (s : Int) < (t : Int) := by omega
                  obtain ⟨q, c2, x, xb, rfl, hq1, hq2, hxb, hqo, ho1, ho2, c1, c2', f1, d1, d2⟩ := HE.out.cells hgl k s hlt hsl hlt hsl
                  obtain ⟨u, hu⟩ : ∃ u, u = l.getD k 0 := ⟨_, rfl⟩
                  obtain ⟨v, hv⟩ : ∃ v, v = l.getD s 0 := ⟨_, rfl⟩
                  have hub := HBx.out k hlt
                  have hvb := HBx.out s hsl
                  rw [← hu] at d1 hub
                  rw [← hv] at d2 hvb
                  obtain ⟨hu1, hu2⟩ := hub
                  obtain ⟨hv1, hv2⟩ := hvb
                  obtain ⟨bf, hbf⟩ : ∃ bf, bf = M.isFin x := ⟨_, rfl⟩
                  have HCf : ∀ w, Calls Try.prog 102 #[.int .i64 x] w fun e w' => e = .returned (.bool bf) ∧ w = w' := fun w => by rw [hbf]; exact sFinite x w
                  obtain ⟨bi, hbi⟩ : ∃ bi, bi = (decide (-100 ≤ x) && decide (x ≤ 100)) := ⟨_, rfl⟩
                  have HCi : ∀ w, Calls Try.prog 103 #[.int .i64 x, .int .i64 (-100), .int .i64 100] w fun e w' => e = .returned (.bool bi) ∧ w = w' := fun w => by rw [hbi]; exact sIn x _ _ w
                  clear hu hv hbf hbi
                  cases bf with
                  | false =>
                    go_wp2_with (go_at_call 102; refine (HCf _).mono ?_; rintro e w' ⟨rfl, rfl⟩)
                    go_roundw
                    case rel => exact ⟨s + 1, by omega, by go_num, HE⟩
                    case measure => simp [intOf]; omega
                  | true =>
                    cases bi with
                    | false =>
                      go_wp2_with (first | (go_at_call 102; refine (HCf _).mono ?_; rintro e w' ⟨rfl, rfl⟩) | (go_at_call 103; refine (HCi _).mono ?_; rintro e w' ⟨rfl, rfl⟩))
                      go_roundw
                      case rel => exact ⟨s + 1, by omega, by go_num, HE⟩
                      case measure => simp [intOf]; omega
                    | true =>
                      go_wp2_with (first | (go_at_call 102; refine (HCf _).mono ?_; rintro e w' ⟨rfl, rfl⟩) | (go_at_call 103; refine (HCi _).mono ?_; rintro e w' ⟨rfl, rfl⟩))
                      have HE1 := Lib.hid HE.out.drew
                      go_region_held3 (fun w' => w'.cell? ⟨o, k, none⟩ = some (.slice (some ⟨q, 0, none⟩) t c2) ∧ w'.cell? ⟨xb, k, none⟩ = some (.int .i64 u) ∧ w'.cell? ⟨xb, s, none⟩ = some (.int .i64 v) ∧ D3 g w.heap.size w3.heap.size t cap o (.slice (some ⟨xb, 0, none⟩) t c) l w w')
                        (first
                          | exact ⟨c1, d1, d2, HE1.out⟩
                          | exact d3_next ‹_ ∧ _ ∧ _ ∧ D3 _ _ _ _ _ _ _ _ _ _› hgl hz3 ho1 hxb HSx.out HTx.out
                          | exact d3_store ‹_ ∧ _ ∧ _ ∧ D3 _ _ _ _ _ _ _ _ _ _› hgl (Nat.le_refl _) hlt hsl hqo hq2 hxb _)
                        ((go_at_call 79; refine (next g 12 _ (by decide) HE1.out.choose_spec.2.2.2.2.1).mono ?_; rintro e wx ⟨y, rfl, hy1, hy2, hsx, htx⟩; have HSx := Lib.hid hsx; have HTx := Lib.hid htx; have cqx : wx.cell? ⟨q, s, none⟩ = some (.int .i64 x) := (htx.cell (p := ⟨q, s, none⟩) (cell_lt c2') (show q ≠ g by omega)).trans c2'; have fqx : wx.frozen? ⟨q, s, none⟩ = false := (htx.frozen (p := ⟨q, s, none⟩) (cell_lt c2') (show g < q by omega)).trans f1; clear hsx htx))
                      obtain ⟨ws, hws⟩ : ∃ ws, ws = wx.setCell ⟨q, s, none⟩ (.int .i64 (IntKind.i64.wrap (IntKind.i64.wrap (u - v) - y))) := ⟨_, rfl⟩
                      have HEs : Hid (D3 g w.heap.size w3.heap.size t cap o (.slice (some ⟨xb, 0, none⟩) t c) l w ws) := by
                        show D3 _ _ _ _ _ _ _ _ _ _
                        rw [hws]
                        exact d3_of (d3_store (d3_next (w := wp.drew) ⟨c1, d1, d2, HE1.out⟩ hgl hz3 ho1 hxb HSx.out HTx.out) hgl (Nat.le_refl _) hlt hsl hqo hq2 hxb _)
                      rw [← hws]
                      clear hws c1 c2' f1 d1 d2 cqx fqx
                      go_wp2_with fail
                      refine (next g 30 _ (by decide) HEs.out.choose_spec.2.2.2.2.1).mono ?_
                      rintro e w7 ⟨z, rfl, hz71, -, hs7, ht7⟩
                      have HE7 := Lib.hid (HEs.out.next hgl hz3 hs7 ht7)
                      clear hs7 ht7
                      by_cases hz0 : z = 0
                      · subst hz0
                        obtain ⟨q7, c27, x7, xb7, hxb7, hq71, hq72, hxb77, hqo7, -, -, c17, c27', f17, -, -⟩ := HE7.out.cells hgl k s hlt hsl hlt hsl
                        have HE8 : Hid (∀ y, D3 g w.heap.size w3.heap.size t cap o (.slice (some ⟨xb, 0, none⟩) t c) l w (w7.drew.setCell ⟨q7, s, none⟩ (.int .i64 y))) := fun y => HE7.out.drew.store hgl (Nat.le_refl _) hlt hsl c17 y
                        clear hxb7
                        go_wp2
                        go_still_tail 14, (by kernel_rfl)
                        change wpList _ _ _ _ _ w7.drew
                        go_wp2
                        go_roundw
                        case rel => exact ⟨s + 1, by omega, by go_num, HE8.out _⟩
                        case measure => simp [intOf]; omega
                      · have hz1' : (z == 0) = false := by simpa using hz0
                        go_wp2
                        go_roundw
                        case rel => exact ⟨s + 1, by omega, by go_num, HE7⟩
                        case measure => simp [intOf]; omega
                · obtain rfl : s = t := by omega
                  go_wp2
                  go_roundw
                  case rel => exact ⟨k + 1, by omega, by go_num, HE⟩
                  case measure => simp [intOf]; omega
            · obtain rfl : k = t := by omega
              obtain ⟨R2, -, h2, -, -, h5, h6⟩ := HD.out
              go_wp2
              go_ret
              exact ⟨_, _, _, _, rfl, hn200, h2.own, h5, h6⟩
  · simp only [Bool.not_eq_true] at hq
    have HQ := Lib.hid hq
    clear hq
    go_wp2_with fail
    refine (sSquare_b _ _ _ R _ false HQ.out HO1.out.mat).mono ?_
    rintro e w' ⟨rfl, q, rfl⟩
    have hlt := HS1.out.lt
    go_wp2
    go_ret
    exact ⟨_, _, _, _, rfl, hn200, HO1.out.below (b_draws _ _), HS1.out.below ((b_draws w1 q).mono (by omega)), HT1.out.drewN q⟩
end Go.Proofs.Ytnnajlehhfmjfaa.V

namespace Go.Proofs.Ytnnajlehhfmjfaa.V
open Go.RowKit


/-- A drawn matrix and two drawn numbers. -/
def DrawnMII (w : World) (e : Ending) (w' : World) : Prop :=
  ∃ (a : Option Addr) (n cap : Nat) (R : List (List Int)) (x y : Int), e = .returned (.tuple #[.slice a n cap, .int .i64 x, .int .i64 y]) ∧ Mat w' a n R ∧ Below w.heap.size w w'
end Go.Proofs.Ytnnajlehhfmjfaa.V

namespace Go.Proofs.Ytnnajlehhfmjfaa.V
open Go.RowKit

set_option maxRecDepth 100000 in
set_option maxHeartbeats 4000000 in
theorem drawNodes (g n cap B : Nat) (a : Option Addr) (R : List (List Int)) (w : World) (h : Src w g) (ho : OwnM w B (.slice a n cap) R) (hB : g < B) (hn : n ≤ 200) :
    Calls Try.prog 127 #[.pointer (some ⟨g, 0, none⟩), .slice a n cap] w (DrawV g w) := by
  have hgs := h.lt
  have HS := Lib.hid h
  have HO := Lib.hid ho
  clear h ho
  by_cases hn0 : n = 0
  · subst hn0
    go_enter Try.func127, Try.ntmps127
    go_wp2
    go_ret
    exact ⟨_, _, _, [0], rfl, World.ownsRow_lit w #[.int .i64 0] 1 (Nat.le_refl _) (by decide) rfl, HS.out.alloc _, (Thr.refl _ _).alloc (Nat.le_of_lt hgs) _⟩
  · have e0 : (n == 0) = false := by simpa using hn0
    have e1 : ((n : Int) == 0) = false := by simp; omega
    have hwn : (Lit.int .i64 (n : Int)).wf = true := wf_small _ (by omega) (by omega)
    have HWN := Lib.hid hwn
    clear hwn
    go_enter Try.func127, Try.ntmps127
    go_wp2_with fail
    refine (next _ _ _ HWN.out HS.out).mono ?_
    rintro e w1 ⟨x, rfl, hx1, hx2, hs1, ht1⟩
    have hz1 : w.heap.size ≤ w1.heap.size := ht1.below.size
    have HJ0 : Hid (DL g w.heap.size (.slice (some ⟨w1.heap.size, 0, none⟩) 1 1) [x] w (w1.alloc (.cells #[.int .i64 x] 2))) :=
      ⟨World.ownsRow_lit w1 #[.int .i64 x] 1 hz1 (by decide) rfl, hs1.alloc _, ht1.alloc (by omega) _⟩
    have HL0 : Hid (∀ y ∈ [x], 0 ≤ y ∧ y < (n : Int)) := fun y hy => by
      simp at hy
      subst hy
      omega
    clear hx2 hs1 ht1
    go_wp2_with fail
    refine (next g 6 _ (by decide) HJ0.out.2.1).mono ?_
    rintro e w2 ⟨kk, rfl, hk1, hk2, hs2, ht2⟩
    obtain ⟨kk, rfl⟩ := Int.eq_ofNat_of_zero_le hk1
    have hk6 : kk < 6 := by omega
    have HJ1 := Lib.hid (HJ0.out.next hgs hs2 ht2)
    clear hs2 ht2 HJ0 hk2 hk1
    go_wp2
    go_loopw [6, 7, 8, 9, 10] (fun out i _ _ _ wr => ∃ (j t : Nat) (l : List Int) (b : Option Addr) (c : Nat), j + t ≤ 6 ∧ i = .int .i64 j ∧ out = .slice b (t + 1) c ∧ Hid (DL g w.heap.size (.slice b (t + 1) c) l w wr) ∧ Hid (∀ y ∈ l, 0 ≤ y ∧ y < (n : Int))) (fun _ i _ _ _ _ => (intOf i).toNat)
    case atStart => exact ⟨kk, 0, _, _, _, by omega, rfl, rfl, HJ1, HL0⟩
    case round =>
      obtain ⟨j, t, l, b, c, hjt, rfl, rfl, HJ, HL⟩ := hrel
      obtain ⟨wo, rfl⟩ : ∃ x, x = wr := ⟨_, rfl⟩
      clear HJ1 HL0
      by_cases hj : 0 < j
      · have hji : (0 : Int) < (j : Int) := by omega
        go_wp2_with fail
        refine (next _ _ _ HWN.out HJ.out.2.1).mono ?_
        rintro e w3 ⟨y, rfl, hy1, hy2, hs3, ht3⟩
        obtain ⟨y, rfl⟩ := Int.eq_ofNat_of_zero_le hy1
        have hyn : y < n := by omega
        have HJ2 := Lib.hid (HJ.out.next hgs hs3 ht3)
        clear hs3 ht3 hy2 hy1 HJ
        have hlen := HJ2.out.1.len
        have HLn := Lib.hid hlen
        have hz2 : w.heap.size ≤ w3.heap.size := HJ2.out.2.2.below.size
        obtain ⟨d, od, x1, rfl, -, hx1', cx⟩ := HJ2.out.1.ints'.at t (by omega)
        have hxm : x1 ∈ l := by
          have : t < l.length := by omega
          rw [hx1']
          simp only [List.getD_eq_getElem?_getD, List.getElem?_eq_getElem this, Option.getD_some]
          exact List.getElem_mem this
        obtain ⟨hxa, hxb⟩ := HL.out x1 hxm
        obtain ⟨x2, rfl⟩ := Int.eq_ofNat_of_zero_le hxa
        have hx2n : x2 < n := by omega
        have HOw := Lib.hid (HO.out.thr HJ2.out.2.2 hB)
        have ht1 : ((t : Int) + 1 - 1) = (t : Int) := by omega
        have hN0 : (0 : Int) < (n : Int) := by omega
        clear hlen hx1' hxm hxa hxb
        go_wp2
        clear cx ht1
        go_loopw [8, 10] (fun nx i wr => ∃ (p q : Nat), p < n ∧ q ≤ n ∧ nx = .int .i64 p ∧ i = .int .i64 q ∧ wr = w3) (fun _ i _ => n - (intOf i).toNat)
        case atStart => exact ⟨y, 0, hyn, Nat.zero_le _, rfl, rfl, rfl⟩
        case round =>
          obtain ⟨p, q, hp, hq, rfl, rfl, rfl⟩ := hrel
          have hpi : (p : Int) < (n : Int) := by omega
          have HLx : Hid (∀ z ∈ l ++ [(p : Int)], 0 ≤ z ∧ z < (n : Int)) := fun z hz => by
            rcases List.mem_append.1 hz with h | h
            · exact HL.out z h
            · simp at h; omega
          have HJq : Hid (DL g w.heap.size (.slice (some ⟨d, od, none⟩) (t + 1) c) l w wr) := HJ2
          have hzr : w.heap.size ≤ wr.heap.size := hz2
          have hmod : ((p : Int) + 1) % (n : Int) = (((p + 1) % n : Nat) : Int) := by first | norm_cast | (push_cast; rfl) | simp
          have hmn : (p + 1) % n < n := Nat.mod_lt _ (by omega)
          have HEnd : Hid (∀ b2 c2 w4, Own w4 w.heap.size (.slice b2 (t + 1 + 1) c2) (l ++ [(p : Int)]) → Below w.heap.size wr w4 → DL g w.heap.size (.slice b2 (t + 1 + 1) c2) (l ++ [(p : Int)]) w w4) := fun b2 c2 w4 h1 h2 => HJ2.out.app hgs h1 h2
          by_cases hq0 : q < n
          · have hqi : (q : Int) < (n : Int) := by omega
            obtain ⟨ab, ao, ra, rc, Lr, lr, hab, -, hlr, cr, hIr⟩ := HOw.out.mat.at p hp
            by_cases hl : x2 < Lr
            · have hli : (x2 : Int) < (Lr : Int) := by omega
              obtain ⟨rb, ro, z, rfl, -, hz, cz⟩ := hIr.at x2 hl
              clear hlr hz hIr
              subst hab
              have HM := Lib.hid hmod
              clear hmod
              by_cases hb : z = -1000000000000000
              · subst hb
                go_wp2
                rw [HM.out]
                go_roundw
                case rel => exact ⟨_, q + 1, hmn, by omega, rfl, by go_num, trivial⟩
                case measure => simp [intOf]; omega
              · have hb2 : (z == -1000000000000000) = false := by simpa using hb
                go_wp2_with (at_builtin; refine append1 _ rfl (.tmp 63) (.tmp 65) rfl w.heap.size _ _ _ (t + 1) HLn.out.symm rfl HJq.out.1 rfl (by rw [← HLn.out]; omega) hzr ?_)
                intro b2 c2 w4 hO4 hb4 _
                have HJ4 := Lib.hid (HEnd.out _ _ _ hO4 hb4)
                clear hO4 hb4
                go_wp2
                go_roundw
                case rel => exact ⟨j - 1, t + 1, _, _, _, by omega, by go_num, rfl, HJ4, HLx⟩
                case measure => simp [intOf]; omega
            · have hli : ¬ ((x2 : Int) < (Lr : Int)) := by omega
              have hli2 : (Lr : Int) ≤ (x2 : Int) := by omega
              clear hlr hIr hmod
              subst hab
              go_wp2_with (at_builtin; refine append1 _ rfl (.tmp 63) (.tmp 65) rfl w.heap.size _ _ _ (t + 1) HLn.out.symm rfl HJq.out.1 rfl (by rw [← HLn.out]; omega) hzr ?_)
              intro b2 c2 w4 hO4 hb4 _
              have HJ4 := Lib.hid (HEnd.out _ _ _ hO4 hb4)
              clear hO4 hb4
              go_wp2
              go_roundw
              case rel => exact ⟨j - 1, t + 1, _, _, _, by omega, by go_num, rfl, HJ4, HLx⟩
              case measure => simp [intOf]; omega
          · obtain rfl : q = n := by omega
            clear hmod
            go_wp2_with (at_builtin; refine append1 _ rfl (.tmp 63) (.tmp 65) rfl w.heap.size _ _ _ (t + 1) HLn.out.symm rfl HJq.out.1 rfl (by rw [← HLn.out]; omega) hzr ?_)
            intro b2 c2 w4 hO4 hb4 _
            have HJ4 := Lib.hid (HEnd.out _ _ _ hO4 hb4)
            clear hO4 hb4
            go_wp2
            go_roundw
            case rel => exact ⟨j - 1, t + 1, _, _, _, by omega, by go_num, rfl, HJ4, HLx⟩
            case measure => simp [intOf]; omega
      · obtain rfl : j = 0 := by omega
        go_wp2_with fail
        refine (next g 40 _ (by decide) HJ.out.2.1).mono ?_
        rintro e w3 ⟨x5, rfl, -, -, hs3, ht3⟩
        have HJ3 := Lib.hid (HJ.out.next hgs hs3 ht3)
        have hz3 : w.heap.size ≤ w3.heap.size := HJ3.out.2.2.below.size
        clear hs3 ht3 HJ
        by_cases hx0 : x5 = 0
        · subst hx0
          have hlit : Hid (∀ i, i < 2 → ∃ x : Int, (Lit.int .i64 x).wf = true ∧ (w3.alloc (.cells #[.int .i64 (-1), .int .i64 n] 2)).cell? ⟨w3.heap.size, 0 + i, none⟩ = some (.int .i64 x)) := fun i hi => by
            rcases (show i = 0 ∨ i = 1 by omega) with rfl | rfl
            · exact ⟨-1, by decide, by simp⟩
            · exact ⟨n, HWN.out, by simp⟩
          go_wp2_with fail
          refine (pick g _ 0 2 2 _ (HJ3.out.2.1.alloc _) (by omega) (by omega) (Nat.lt_of_lt_of_le hgs hz3) hlit.out).mono ?_
          rintro e w4 ⟨y, rfl, hyw, hs4, ht4⟩
          have HJ4 : Hid (DL g w.heap.size (.slice b (t + 1) c) l w w4) := ⟨((HJ3.out.1.below (b_alloc w3 (.cells #[.int .i64 (-1), .int .i64 n] 2))).thr ht4 hgs), hs4, (HJ3.out.2.2.alloc (Nat.le_trans (Nat.le_of_lt hgs) hz3) _).trans ht4⟩
          have hz4 : w.heap.size ≤ w4.heap.size := HJ4.out.2.2.below.size
          have HLn := Lib.hid HJ4.out.1.len
          clear hs4 ht4 hyw HJ3
          go_wp2_with (at_builtin; refine append1 _ rfl (.tmp 71) (.tmp 76) rfl w.heap.size _ _ _ (t + 1) HLn.out.symm rfl HJ4.out.1 rfl (by rw [← HLn.out]; omega) hz4 ?_)
          intro b2 c2 w5 hO5 hb5 _
          have HJ5 := Lib.hid (HJ4.out.app hgs hO5 hb5)
          clear hO5 hb5
          go_wp2
          go_ret
          exact ⟨_, _, _, _, rfl, HJ5.out.1, HJ5.out.2.1, HJ5.out.2.2⟩
        · have e0 : (x5 == 0) = false := by simpa using hx0
          by_cases hx1' : x5 = 1
          · subst hx1'
            go_wp2
            go_ret
            exact ⟨_, _, _, [], rfl, own_nil _ _, HJ3.out.2.1, HJ3.out.2.2⟩
          · have e1 : (x5 == 1) = false := by simpa using hx1'
            go_wp2
            go_ret
            exact ⟨_, _, _, _, rfl, HJ3.out.1, HJ3.out.2.1, HJ3.out.2.2⟩
end Go.Proofs.Ytnnajlehhfmjfaa.V

namespace Go.Proofs.Ytnnajlehhfmjfaa
namespace M
/-- The least number from k on that fits, within so many. -/
def lv (p : Nat → Bool) : Nat → Nat → Nat
  | 0, k => k
  | f + 1, k => if p k then k else lv p f (k + 1)
theorem lv_is {p : Nat → Bool} {m : Nat} (hm : p m = true) (f : Nat) : ∀ k, k ≤ m → m < k + f → (∀ v, k ≤ v → v < m → p v = false) → lv p f k = m := by
  induction f with
  | zero => intro k h1 h2; omega
  | succ f ih =>
    intro k h1 h2 h3
    by_cases e : k = m
    · subst e; show (if p k then k else _) = _; rw [if_pos hm]
    · show (if p k then k else _) = _
      rw [h3 k (Nat.le_refl _) (by omega), if_neg (by simp)]
      exact ih (k + 1) (by omega) (by omega) fun v h4 h5 => h3 v (by omega) h5
theorem lv_ex {p : Nat → Bool} {n : Nat} (h : ∃ m, m < n ∧ p m = true) : p (lv p n 0) = true ∧ lv p n 0 < n ∧ ∀ v, v < lv p n 0 → p v = false := by
  have key : ∀ n, (∃ m, m < n ∧ p m = true) → ∃ m, m < n ∧ p m = true ∧ ∀ v, v < m → p v = false := by
    intro n
    induction n with
    | zero => rintro ⟨m, hm, _⟩; omega
    | succ n ih =>
      rintro ⟨m, hm, hp⟩
      by_cases e : ∃ m, m < n ∧ p m = true
      · obtain ⟨m, h1, h2, h3⟩ := ih e
        exact ⟨m, by omega, h2, h3⟩
      · refine ⟨m, hm, hp, fun v hv => ?_⟩
        cases h : p v with
        | false => rfl
        | true => exact absurd ⟨v, by omega, h⟩ e
  obtain ⟨m, h1, h2, h3⟩ := key n h
  rw [lv_is h2 n 0 (Nat.zero_le _) (by omega) fun v _ hv => h3 v hv]
  exact ⟨h2, h1, h3⟩
/-- Whether a heaviest path with s + 1 arcs goes on from x by v. -/
def stepB (A : Nat → Nat → Int) (n t s x v : Nat) : Bool := decide (times (cpw A n s t v) (A v x) = cpw A n (s + 1) t x)
def nxt (A : Nat → Nat → Int) (n t s x : Nat) : Nat := lv (stepB A n t s x) n 0
/-- The number of arcs. -/
def arcs (A : Nat → Nat → Int) (n f t : Nat) : Nat := lv (fun s => decide (cpw A n s t f = starF A n t f)) 11 0
/-- The nodes of the path. -/
def xs (A : Nat → Nat → Int) (n t s f : Nat) : Nat → Nat
  | 0 => f
  | k + 1 => nxt A n t (s - 1 - k) (xs A n t s f k)
def hvL (A : Nat → Nat → Int) (n t s f : Nat) (k : Nat) : List Int := (List.range k).map fun i => ((xs A n t s f i : Nat) : Int)
def heavyRes (R : List (List Int)) (f t : Int) : List Int × Int :=
  if sqB R then (if inN R.length f && inN R.length t then (if noPos (ent R) R.length then (if starF (ent R) R.length t.toNat f.toNat = -1000000000000000 then ([], 4)
    else (hvL (ent R) R.length t.toNat (arcs (ent R) R.length f.toNat t.toNat) f.toNat (arcs (ent R) R.length f.toNat t.toNat + 1), 0)) else ([], 5)) else ([], 2)) else ([], 1)
theorem hvL_len (A : Nat → Nat → Int) (n t s f k : Nat) : (hvL A n t s f k).length = k := by simp [hvL]
theorem hvL_succ (A : Nat → Nat → Int) (n t s f k : Nat) : hvL A n t s f (k + 1) = hvL A n t s f k ++ [((xs A n t s f k : Nat) : Int)] := by
  unfold hvL; rw [List.range_succ]; simp
theorem hvL_at (A : Nat → Nat → Int) (n t s f k i : Nat) (h : i < k) : (hvL A n t s f k).getD i 0 = ((xs A n t s f i : Nat) : Int) := by
  simp [hvL, h]
theorem lv_le (p : Nat → Bool) (f : Nat) : ∀ k, lv p f k ≤ k + f := by
  induction f with
  | zero => intro k; exact Nat.le_refl _
  | succ f ih =>
    intro k
    show (if p k then k else _) ≤ _
    split
    · omega
    · have := ih (k + 1); omega
theorem heavyRes_len (R : List (List Int)) (f t : Int) : (heavyRes R f t).1.length ≤ 12 := by
  unfold heavyRes
  split
  · split
    · split
      · split
        · simp
        · rw [hvL_len]
          have := lv_le (fun s => decide (cpw (ent R) R.length s t.toNat f.toNat = starF (ent R) R.length t.toNat f.toNat)) 11 0
          unfold arcs
          omega
      · simp
    · simp
  · simp
section
variable {A : Nat → Nat → Int} {n : Nat} (hn : n ≤ 10) (hA : ∀ i j, i < n → j < n → Sm 1000001000000 (A i j))
include hn hA
/-- There is a number of arcs with which the weight in the star is reached. -/
theorem arcs_is (hp : noPos A n = true) {f t : Nat} (hf : f < n) (ht : t < n) (h : starF A n t f ≠ -1000000000000000) :
    cpw A n (arcs A n f t) t f = starF A n t f ∧ arcs A n f t ≤ 10 ∧ ∀ s, s < arcs A n f t → cpw A n s t f ≠ starF A n t f := by
  have hd := o_diag hn hA hp
  have e1 : o (starF A n t f) = obm (fun i j => o (A i j)) n n t f := by
    unfold starF
    rw [← clo_star hn hA hp ht hf, o_cbm hA n (by omega) t f ht hf]
  obtain ⟨s, hs, hle⟩ := opw_star (f := fun i j => o (A i j)) ht hf (by rw [← e1]; exact fun e => h (o_none.1 e))
  have hge := opw_le hd ht hf s
  have e2 := ole_anti hge hle
  rw [← o_cpw hA s (by omega) t f ht hf, ← e1] at e2
  have e3 := o_inj e2
  obtain ⟨h1, h2, h3⟩ := lv_ex (p := fun s => decide (cpw A n s t f = starF A n t f)) (n := 11) ⟨s, by omega, by simpa using e3⟩
  refine ⟨of_decide_eq_true h1, by unfold arcs; omega, fun s hs => ?_⟩
  have := h3 s hs
  simpa using this
end
section
variable {A : Nat → Nat → Int} {n : Nat} (hA : ∀ i j, i < n → j < n → Sm 1000001000000 (A i j))
include hA
/-- A heaviest path with more than no arcs goes on. -/
theorem nxt_is {t s x : Nat} (hs : s ≤ 10) (ht : t < n) (hx : x < n) (h : cpw A n (s + 1) t x ≠ -1000000000000000) :
    nxt A n t s x < n ∧ times (cpw A n s t (nxt A n t s x)) (A (nxt A n t s x) x) = cpw A n (s + 1) t x ∧ ∀ v, v < nxt A n t s x → times (cpw A n s t v) (A v x) ≠ cpw A n (s + 1) t x := by
  have hex : ∃ v, v < n ∧ stepB A n t s x v = true := by
    have e := o_cpw hA (s + 1) (by omega) t x ht hx
    rcases osum_att n (fun u => omul (opw (fun i j => o (A i j)) n s t u) (o (A u x))) with k | ⟨u, hu, k⟩
    · exact absurd (o_none.1 (e.trans k)) h
    · refine ⟨u, hu, ?_⟩
      unfold stepB
      rw [decide_eq_true_eq]
      refine o_inj ?_
      rw [o_times (cpw_sm hA s t u ht hu) (hA u x hu hx) (by omega) (by omega), o_cpw hA s (by omega) t u ht hu]
      exact (e.trans k).symm
  obtain ⟨h1, h2, h3⟩ := lv_ex hex
  refine ⟨h2, of_decide_eq_true h1, fun v hv => ?_⟩
  have := h3 v hv
  simpa [stepB] using this
theorem nxt_fin {t s x : Nat} (hs : s ≤ 10) (ht : t < n) (hx : x < n) (h : cpw A n (s + 1) t x ≠ -1000000000000000) :
    cpw A n s t (nxt A n t s x) ≠ -1000000000000000 ∧ A (nxt A n t s x) x ≠ -1000000000000000 := by
  obtain ⟨h1, h2, -⟩ := nxt_is hA hs ht hx h
  refine ⟨fun e => h ?_, fun e => h ?_⟩
  · rw [← h2, e, bot_times]
  · rw [← h2, e, times_bot]
/-- Along the path the rest stays a heaviest one. -/
theorem xs_inv {t s f : Nat} (hs : s ≤ 10) (ht : t < n) (hf : f < n) (h : cpw A n s t f ≠ -1000000000000000) (k : Nat) (hk : k ≤ s) :
    xs A n t s f k < n ∧ cpw A n (s - k) t (xs A n t s f k) ≠ -1000000000000000 := by
  induction k with
  | zero => exact ⟨hf, h⟩
  | succ k ih =>
    obtain ⟨h1, h2⟩ := ih (by omega)
    have e : s - k = s - 1 - k + 1 := by omega
    rw [e] at h2
    show nxt A n t (s - 1 - k) (xs A n t s f k) < n ∧ cpw A n (s - (k + 1)) t (nxt A n t (s - 1 - k) (xs A n t s f k)) ≠ _
    rw [show s - (k + 1) = s - 1 - k by omega]
    exact ⟨(nxt_is hA (by omega) ht h1 h2).1, (nxt_fin hA (by omega) ht h1 h2).1⟩
/-- What is left of the weight. -/
theorem xs_need {t s f : Nat} (hs : s ≤ 10) (ht : t < n) (hf : f < n) (h : cpw A n s t f ≠ -1000000000000000) (k : Nat) (hk : k < s) :
    cpw A n (s - (k + 1)) t (xs A n t s f (k + 1)) = cpw A n (s - k) t (xs A n t s f k) - A (xs A n t s f (k + 1)) (xs A n t s f k) := by
  obtain ⟨h1, h2⟩ := xs_inv hA hs ht hf h k (by omega)
  have e : s - k = s - 1 - k + 1 := by omega
  rw [e] at h2
  have h3 := (nxt_is hA (by omega) ht h1 h2).2.1
  have h4 := nxt_fin hA (by omega) ht h1 h2
  rw [show s - (k + 1) = s - 1 - k by omega, e]
  show cpw A n (s - 1 - k) t (nxt A n t (s - 1 - k) (xs A n t s f k)) = _ - A (nxt A n t (s - 1 - k) (xs A n t s f k)) _
  unfold times at h3
  rw [if_neg (by rintro (e | e); exact h4.1 e; exact h4.2 e)] at h3
  omega
theorem xs_end {t s f : Nat} (hs : s ≤ 10) (ht : t < n) (hf : f < n) (h : cpw A n s t f ≠ -1000000000000000) : xs A n t s f s = t := by
  obtain ⟨h1, h2⟩ := xs_inv hA hs ht hf h s (Nat.le_refl _)
  rw [Nat.sub_self] at h2
  have h2 : unit t (xs A n t s f s) ≠ -1000000000000000 := h2
  unfold unit at h2
  split at h2
  · next e => exact e.symm
  · exact absurd rfl h2
end
end M
end Go.Proofs.Ytnnajlehhfmjfaa

namespace Go.Proofs.Ytnnajlehhfmjfaa.V
open Go.RowKit

/-- The matrix whose diagonal is 0 before row k. -/
def M.diaF (A : Nat → Nat → Int) (n k i j : Nat) : Int := if i = j ∧ i < k then 0 else M.cfw A n i j
set_option maxRecDepth 100000 in
set_option maxHeartbeats 1000000 in
theorem starOf (a : Option Addr) (n cap : Nat) (R : List (List Int)) (w : World) (h : Sq w a n R) :
    Calls Try.prog 101 #[.slice a n cap] w (CPost (M.starL R n) w) := by
  have HS := Lib.hid h
  obtain ⟨n1, n2⟩ := h.2.2.2
  clear h
  obtain ⟨r, hr⟩ : ∃ r, r = M.plusL R n := ⟨_, rfl⟩
  have HC : Calls Try.prog 136 #[.slice a n cap] w (CPost r w) := by rw [hr]; exact plusOf _ _ _ _ _ HS.out
  by_cases hp : M.noPos (M.ent R) n = true
  · have hr2 : r = (M.plusM R n, true) := by rw [hr]; unfold M.plusL; rw [hp]; rfl
    have HF : Hid (M.starL R n = (M.starM R n, true)) := by show _ = _; unfold M.starL; rw [hp]; rfl
    clear hr hp
    subst hr2
    go_enter Try.func101, Try.ntmps101
    go_wp2_with fail
    refine HC.mono ?_
    rintro e w1 ⟨a2, m, cap2, rfl, hO, hb⟩
    obtain rfl : m = n := by have := hO.len; simpa [M.plusM] using this
    have HO0 : Hid (OwnM w1 w.heap.size (.slice a2 m cap2) (M.mk m m (M.diaF (M.ent R) m 0))) :=
      (congrArg (OwnM _ _ _) (M.mk_congr fun i _ j _ => by unfold M.diaF; rw [if_neg (by omega)])).mp hO
    have HB0 := Lib.hid hb
    clear hO hb HC
    go_wp2
    go_loopw [6, 14] (fun _ i wr => ∃ k : Nat, k ≤ m ∧ i = .int .i64 k ∧ OwnM wr w.heap.size (.slice a2 m cap2) (M.mk m m (M.diaF (M.ent R) m k)) ∧ Below w.heap.size w wr) (fun _ i _ => m - (intOf i).toNat)
    case atStart => exact ⟨0, Nat.zero_le _, rfl, HO0.out, HB0.out⟩
    case round =>
      obtain ⟨k, hk, rfl, hO, hb⟩ := hrel
      have HO := Lib.hid hO
      have HB := Lib.hid hb
      clear hO hb HO0 HB0
      by_cases hlt : k < m
      · obtain ⟨g, q, L, c, x, rfl, hg, hq, hL, hx, h1, h2, h3, h4⟩ := HO.out.at k k hlt (by rw [M.mk_rowlen _ _ _ _ hlt]; exact hlt)
        rw [M.mk_rowlen _ _ _ _ hlt] at hL
        obtain rfl : m = L := hL.symm
        have hN := h4 0
        rw [M.mk_set _ _ _ _ _ _ hlt] at hN
        have HN := Lib.hid hN
        have hki : (k : Int) < (m : Int) := by omega
        clear hx h4 hN
        go_wp2
        go_roundw
        case rel =>
          refine ⟨k + 1, by omega, by go_num, (congrArg (OwnM _ _ _) (M.mk_congr fun i _ j _ => ?_)).mp HN.out, HB.out.setCell hq _⟩
          unfold M.diaF
          by_cases e : i = k
          · subst e
            by_cases e2 : j = i
            · subst e2; simp
            · rw [if_pos rfl, if_neg e2, if_neg (by omega), if_neg (by omega)]
          · rw [if_neg e]
            by_cases e2 : i = j ∧ i < k
            · rw [if_pos e2, if_pos (by omega)]
            · rw [if_neg e2, if_neg (by omega)]
        case measure => simp [intOf]; omega
      · obtain rfl : k = m := by omega
        go_wp2
        go_ret2
        rw [HF.out]
        refine ⟨_, _, _, rfl, (congrArg (OwnM _ _ _) (M.mk_congr fun i hi j _ => ?_)).mp HO.out, HB.out⟩
        unfold M.diaF M.starF
        by_cases e : i = j
        · rw [if_pos ⟨e, hi⟩, if_pos e]
        · rw [if_neg (by omega), if_neg e]
  · simp only [Bool.not_eq_true] at hp
    have hr2 : r = ([], false) := by rw [hr]; unfold M.plusL; rw [hp]; rfl
    have HF : Hid (M.starL R n = ([], false)) := by show _ = _; unfold M.starL; rw [hp]; rfl
    clear hr hp
    subst hr2
    go_enter Try.func101, Try.ntmps101
    go_wp2_with fail
    refine HC.mono ?_
    rintro e w1 ⟨a2, m, cap2, rfl, hO, hb⟩
    obtain rfl : m = 0 := by have := hO.len; simpa using this
    have HB0 := Lib.hid hb
    have HO0 := Lib.hid hO
    clear hO hb HC
    go_wp2
    go_loop [14] (fun i => i = .int .i64 0) (fun _ => 0)
    case atStart => rfl
    case round =>
      subst hrel
      go_wp2
      go_ret2
      rw [HF.out]
      exact ⟨_, _, _, rfl, HO0.out, HB0.out⟩



end Go.Proofs.Ytnnajlehhfmjfaa.V
