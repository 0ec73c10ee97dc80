/- Texts laid together: DrawM, DrawM2, DrawPw, DrawV, D3a, D3b, D3c, D3d, D3e, MatJ, D3z. -/
import Derived.Test.YtcofjjipjcekjaaGreatRows
import Derived.Test.YtcofjjipjcekjaaGreatQy1
import Derived.Test.YtcofjjipjcekjaaGreatQy2
import Derived.WalkKit
import Derived.ProofKit
import Derived.WalkSmall
import Derived.Deep.QuietTactic
import Derived.BigQuiet
import Derived.BigRegion
import Derived.Deep.Draws
import Derived.Lib.Hide
import Derived.OpenShut
import Derived.Deep.OwnRows
import Derived.Test.YtcofjjipjcekjaaGreatQy12
import Derived.Deep.RegionHeld3
import Derived.Maps.AppendAt
import Derived.Test.YtcofjjipjcekjaaGreatQy5
import Derived.StillTailTactics
import Derived.IntWalk
import Derived.Test.YtcofjjipjcekjaaGreatQy6
import Derived.Test.YtcofjjipjcekjaaGreatQy10
import Derived.Test.YtcofjjipjcekjaaGreatQy9
set_option linter.unusedSimpArgs false
set_option linter.unusedVariables false
set_option linter.unusedSectionVars false
namespace Go.Proofs.YtcofjjipjcekjaaGreat.V
open Go.RowKit

theorem Own.thr {w w' : World} {B g : Nat} {v : Value} {l : List Int} (h : Own w B v l) (ht : Thr g w w') (hB : g < B) : Own w' B v l := h.keep (fun k h1 h2 => ht.other k (by omega) h2)
theorem OwnM.thr {w w' : World} {B g : Nat} {v : Value} {R : List (List Int)} (h : OwnM w B v R) (ht : Thr g w w') (hB : g < B) : OwnM w' B v R := h.keep (fun k h1 h2 => ht.other k (by omega) h2)
theorem Thr.of_below {g : Nat} {w w' : World} (h : Below w.heap.size w w') (hg : g ≤ w.heap.size) : Thr g w w' := ⟨h.mono hg, fun k _ h2 => h.block k h2⟩
theorem Thr.frozen {g : Nat} {w w' : World} (h : Thr g w w') {p : Addr} (hp : p.block < w.heap.size) (hne : g < p.block) : w'.frozen? p = w.frozen? p := World.frozen?_of_block (w := w) (h.other _ hne hp)

/-- A matrix that is being drawn: the source is block g, the matrix lies in blocks from B on; only these have changed since w0. -/
def DJ (g B : Nat) (v : Value) (R : List (List Int)) (w0 w : World) : Prop := OwnM w B v R ∧ Src w g ∧ Thr g w0 w
theorem DJ.next {g B : Nat} {v : Value} {R : List (List Int)} {w0 w w' : World} (h : DJ g B v R w0 w) (hB : g < B) (hs : Src w' g) (ht : Thr g w w') : DJ g B v R w0 w' :=
  ⟨h.1.thr ht hB, hs, h.2.2.trans ht⟩

/-- A store into an entry whose row is known. -/
theorem OwnM.put {w : World} {B n cap o k t q L c : Nat} {R : List (List Int)} (h : OwnM w B (.slice (some ⟨o, 0, none⟩) n cap) R) (hi : k < n) (hj : t < (R.getD k []).length) (hc : w.cell? ⟨o, k, none⟩ = some (.slice (some ⟨q, 0, none⟩) L c)) (y : Int) :
    OwnM (w.setCell ⟨q, t, none⟩ (.int .i64 y)) B (.slice (some ⟨o, 0, none⟩) n cap) (R.set k ((R.getD k []).set t y)) := by
  obtain ⟨g, q', L', c', x, hg, -, -, -, -, h1, -, -, h2⟩ := h.at k t hi hj
  injection hg with hg
  injection hg with hg
  subst hg
  rw [hc] at h1
  injection h1 with h1
  injection h1 with h1
  injection h1 with h1
  injection h1 with h1
  subst h1
  exact h2 y

theorem Rect.set {R : List (List Int)} {n L : Nat} (h : Rect R n L) (i j : Nat) (y : Int) (hi : i < n) : Rect (R.set i ((R.getD i []).set j y)) n L := by
  refine ⟨by simpa using h.1, fun k hk => ?_⟩
  rw [getD_set _ _ _ _ _ (by rw [h.1]; exact hi)]
  by_cases e : k = i
  · rw [if_pos e]; simpa using h.2 i hi
  · rw [if_neg e]; exact h.2 k hk

/-- A store into a matrix that is being drawn. -/
theorem DJ.store {g B q t n cap : Nat} {a : Option Addr} {R R' : List (List Int)} {w0 w : World} {x : Int} (h : DJ g B (.slice a n cap) R w0 w) (hB : w0.heap.size ≤ B) (hg : g < B) (hq : B ≤ q)
    (ho : OwnM (w.setCell ⟨q, t, none⟩ (.int .i64 x)) B (.slice a n cap) R') : DJ g B (.slice a n cap) R' w0 (w.setCell ⟨q, t, none⟩ (.int .i64 x)) := by
  refine ⟨ho, h.2.1.below ?_, ?_⟩
  · exact (Below.refl _ _).setCell (p := ⟨q, t, none⟩) (by show g + 1 ≤ q; omega) _
  · refine ⟨h.2.2.below.setCell (p := ⟨q, t, none⟩) (by show g ≤ q; omega) _, fun k h1 h2 => ?_⟩
    rw [Below.heap_setCell _ _ _ _ (by show k ≠ q; omega)]
    exact h.2.2.other k h1 h2

theorem DJ.drew {g B : Nat} {v : Value} {R : List (List Int)} {w0 w : World} (h : DJ g B v R w0 w) : DJ g B v R w0 w.drew := ⟨h.1.keep (fun _ _ _ => rfl), h.2.1, h.2.2.drew⟩
theorem dj_keep {g B a k q t : Nat} {u v val : Value} {R : List (List Int)} {w0 w' wx : World} (h : w'.cell? ⟨a, k, none⟩ = some u ∧ w'.cell? ⟨q, t, none⟩ = some v ∧ w'.frozen? ⟨q, t, none⟩ = false ∧ DJ g B val R w0 w') (hB : g < B) (ha : B ≤ a) (hq : B ≤ q) (hs : Src wx g) (ht : Thr g w' wx) :
    wx.cell? ⟨a, k, none⟩ = some u ∧ wx.cell? ⟨q, t, none⟩ = some v ∧ wx.frozen? ⟨q, t, none⟩ = false ∧ DJ g B val R w0 wx := by
  obtain ⟨h1, h2, h3, h4⟩ := h
  have l1 := cell_lt h1
  have l2 := cell_lt h2
  refine ⟨?_, ?_, ?_, h4.next hB hs ht⟩
  · rw [ht.cell (p := ⟨a, k, none⟩) l1 (by show a ≠ g; omega)]; exact h1
  · rw [ht.cell (p := ⟨q, t, none⟩) l2 (by show q ≠ g; omega)]; exact h2
  · rw [ht.frozen (p := ⟨q, t, none⟩) l2 (by show g < q; omega)]; exact h3

/-- What a drawn matrix is: some list of lists of integers, in new memory. -/
def DrawM (g : Nat) (w : World) (e : Ending) (w' : World) : Prop :=
  ∃ (a : Option Addr) (n cap : Nat) (R : List (List Int)), e = .returned (.slice a n cap) ∧ OwnM w' w.heap.size (.slice a n cap) R ∧ Src w' g ∧ Thr g w w'

/-- .. with few rows. -/
def DrawMB (g : Nat) (w : World) (e : Ending) (w' : World) : Prop :=
  ∃ (a : Option Addr) (n cap : Nat) (R : List (List Int)), e = .returned (.slice a n cap) ∧ n ≤ 200 ∧ OwnM w' w.heap.size (.slice a n cap) R ∧ Src w' g ∧ Thr g w w'
theorem DrawMB.less {g : Nat} {w w' : World} {e : Ending} (h : DrawMB g w e w') : DrawM g w e w' := by
  obtain ⟨a, n, cap, R, h1, -, h2⟩ := h
  exact ⟨a, n, cap, R, h1, h2⟩

set_option maxRecDepth 100000 in
set_option maxHeartbeats 4000000 in
theorem drawSizeB (g m n : Nat) (w : World) (h : Src w g) (m1 : 1 ≤ m) (m2 : m ≤ 100) (n1 : 1 ≤ n) (n2 : n ≤ 100) :
    Calls Tryz.prog 81 #[.pointer (some ⟨g, 0, none⟩), .int .i64 m, .int .i64 n] w (DrawMB g w) := by
  have hgs := h.lt
  have HS := Lib.hid h
  clear h
  go_enter Tryz.func81, Tryz.ntmps81
  go_wp2_with fail
  refine (sBottom m n _ m2 n2).mono ?_
  rintro e w1 ⟨a2, cap2, rfl, ho, hb⟩
  have hz1 := hb.size
  have HO1 := Lib.hid ho
  have HS1 := Lib.hid (HS.out.below (hb.mono (show g + 1 ≤ w.heap.size from hgs)))
  have HT1 := Lib.hid (Thr.of_below (g := g) hb (Nat.le_of_lt hgs))
  clear ho hb
  go_wp2_with fail
  refine (pick g _ 0 3 3 _ (HS1.out.alloc _) (by omega) (by omega) HS1.out.lt (litCells _ [2, 3, 5] _ _ rfl (by decide))).mono ?_
  rintro e w2 ⟨many, rfl, hmany, hs2, ht2⟩
  have HMW := Lib.hid hmany
  have hJ0 : DJ g w.heap.size (.slice a2 m cap2) (M.botM m n) w w2 :=
    ⟨(HO1.out.keep (w' := w1.alloc _) (fun k _ h2 => Below.heap_alloc _ _ _ h2)).thr ht2 hgs, hs2, (HT1.out.alloc (by omega) _).trans ht2⟩
  have HJ0 := Lib.hid hJ0
  clear hs2 ht2 hJ0 hmany HO1 HS1 HT1
  go_wp2
  go_loopw [9] (fun i wr => ∃ (k : Nat) (R : List (List Int)), k ≤ m ∧ i = .int .i64 k ∧ Hid (Rect R m n) ∧ Hid (DJ g w.heap.size (.slice a2 m cap2) R w wr)) (fun i _ => m - (intOf i).toNat)
  case atStart => exact ⟨0, _, Nat.zero_le _, rfl, rect_mk _ _ _, HJ0⟩
  case round =>
    obtain ⟨k, R, hk, rfl, HR, HJ⟩ := hrel
    obtain ⟨wo, rfl⟩ : ∃ x, x = wr := ⟨_, rfl⟩
    clear HJ0
    by_cases hlt : k < m
    · have hki : (k : Int) < (m : Int) := by omega
      go_wp2
      go_loopw [10] (fun j wr => ∃ (t : Nat) (R : List (List Int)), t ≤ n ∧ j = .int .i64 t ∧ Hid (Rect R m n) ∧ Hid (DJ g w.heap.size (.slice a2 m cap2) R w wr)) (fun j _ => n - (intOf j).toNat)
      case atStart => exact ⟨0, _, Nat.zero_le _, rfl, HR, HJ⟩
      case round =>
        obtain ⟨t, R2, ht, rfl, HR2, HJ2⟩ := hrel
        clear HR HJ
        by_cases htl : t < n
        · have hti : (t : Int) < (n : Int) := by omega
          go_wp2_with fail
          refine (next g many _ HMW.out HJ2.out.2.1).mono ?_
          rintro e w3 ⟨x, rfl, hx1, -, hs3, ht3⟩
          have HJ3 := Lib.hid (HJ2.out.next hgs hs3 ht3)
          clear hs3 ht3
          by_cases hx : 0 < x
          · obtain ⟨go_, q, L3, c3, x3, rfl, hg3, hq3, hL3, -, c31, c32, f31, ho3⟩ := HJ3.out.1.at k t hlt (by rw [HR2.out.2 k hlt]; exact htl)
            rw [HR2.out.2 k hlt] at hL3
            subst hL3
            clear ho3
            have HJ4 := Lib.hid HJ3.out.drew
            go_wp2
            go_region_with (first | (go_at_call 35; refine (next g 26 _ (by decide) HJ4.out.2.1).mono ?_; rintro e wx ⟨xx, rfl, hxx, -, hs, ht⟩; obtain ⟨c31x, c32x, f31x, hjx⟩ := dj_keep (w' := w3.drew) ⟨c31, c32, f31, HJ4.out⟩ hgs hg3 hq3 hs ht; have HJX := Lib.hid hjx; clear hs ht hjx))
            all_goals
              go_wp2
              exact ⟨⟨t + 1, _, by omega, by go_num, HR2.out.set k t _ hlt, HJX.out.store (Nat.le_refl _) hgs hq3 (HJX.out.1.put hlt (by rw [HR2.out.2 k hlt]; exact htl) c31x _)⟩, by simp [intOf]; omega⟩
          · go_wp2
            go_roundw
            case rel => exact ⟨t + 1, R2, by omega, by go_num, HR2, HJ3⟩
            case measure => simp [intOf]; omega
        · obtain rfl : t = n := by omega
          go_wp2
          go_roundw
          case rel => exact ⟨k + 1, R2, by omega, by go_num, HR2, HJ2⟩
          case measure => simp [intOf]; omega
    · obtain rfl : k = m := by omega
      go_wp2_with fail
      refine (next g 60 _ (by decide) HJ.out.2.1).mono ?_
      rintro e w3 ⟨x, rfl, hx1, -, hs3, ht3⟩
      have HJ3 := Lib.hid (HJ.out.next hgs hs3 ht3)
      clear hs3 ht3
      by_cases hx0 : x = 0
      · subst hx0
        obtain ⟨go_, q, L3, c3, x3, rfl, hg3, hq3, hL3, -, c31, c32, f31, ho3⟩ := HJ3.out.1.at 0 0 (by omega) (by rw [HR.out.2 0 (by omega)]; omega)
        rw [HR.out.2 0 (by omega)] at hL3
        subst hL3
        clear ho3
        have HJ4 := Lib.hid HJ3.out.drew
        go_wp2
        go_region_with (first | (go_at_call 98; refine (drawValue g _ HJ4.out.2.1).mono ?_; rintro e wx ⟨xx, rfl, hxx, hs, ht⟩; obtain ⟨c31x, c32x, f31x, hjx⟩ := dj_keep (w' := w3.drew) ⟨c31, c32, f31, HJ4.out⟩ hgs hg3 hq3 hs ht; have HJX := Lib.hid hjx; clear hs ht hjx))
        all_goals
          go_wp2
          go_ret
          have hfin := HJX.out.store (Nat.le_refl _) hgs hq3 (HJX.out.1.put (by omega) (by rw [HR.out.2 0 (by omega)]; omega) c31x xx)
          exact ⟨_, _, _, _, rfl, by omega, hfin.1, hfin.2.1, hfin.2.2⟩
      · have e0 : (x == 0) = false := by simpa using hx0
        by_cases hx1' : x = 1
        · subst hx1'
          have hz3 : w.heap.size ≤ w3.heap.size := HJ3.out.2.2.below.size
          have hro : Hid (Own (w3.alloc (.cells #[] 2)) w3.heap.size (.slice (some ⟨w3.heap.size, 0, none⟩) 0 0) []) := own_lit0 w3 _ (Nat.le_refl _)
          have hlen := HJ3.out.1.len
          have HLn := Lib.hid hlen
          clear hlen
          go_wp2_with (at_builtin; refine appendRow w3 _ rfl (.tmp 52) (.tmp 54) rfl w.heap.size _ _ _ _ k HJ3.out.1.len.symm rfl HJ3.out.1 (b_alloc w3 _) hro.out (by go_simp) (by rw [← HLn.out]; omega) hz3 ?_)
          intro b2 c2 w4 hO4 hb4 hk4
          have hg4 : ∀ j, g ≤ j → j < w.heap.size → w4.heap[j]? = w3.heap[j]? := fun j _ h2 => by
            rw [hb4.block j h2]; exact Below.heap_alloc _ _ _ (by omega)
          have hO5 := Lib.hid hO4
          have hT4 : Hid (Thr g w w4) := by
            refine ⟨HJ3.out.2.2.below.trans (((b_alloc w3 (.cells #[] 2)).mono (show g ≤ w3.heap.size by omega)).trans (hb4.mono (show g ≤ w.heap.size by omega))), fun j h1 h2 => ?_⟩
            rw [hg4 j (by omega) h2]
            exact HJ3.out.2.2.other j h1 h2
          have hS4 : Hid (Src w4 g) := by
            obtain ⟨sa, sn, sc, st, ss, q1, q2, q3⟩ := HJ3.out.2.1
            refine ⟨sa, sn, sc, st, ss, q1.of_block (hg4 g (Nat.le_refl _) hgs), ?_, q3⟩
            exact q2.below (((b_alloc w3 (.cells #[] 2)).mono (show g ≤ w3.heap.size by omega)).trans (hb4.mono (show g ≤ w.heap.size by omega)))
          clear hO4 hb4 hk4 hg4
          go_wp2
          go_ret
          exact ⟨_, _, _, _, rfl, by omega, hO5.out, hS4.out, hT4.out⟩
        · have e1 : (x == 1) = false := by simpa using hx1'
          by_cases hx2 : x = 2
          · subst hx2
            go_wp2
            go_ret
            exact ⟨_, _, _, [], rfl, by omega, ownM_nil _ _, HJ3.out.2.1, HJ3.out.2.2⟩
          · have e2 : (x == 2) = false := by simpa using hx2
            go_wp2
            go_ret
            exact ⟨_, _, _, _, rfl, by omega, HJ3.out.1, HJ3.out.2.1, HJ3.out.2.2⟩
theorem drawSize (g m n : Nat) (w : World) (h : Src w g) (m1 : 1 ≤ m) (m2 : m ≤ 100) (n1 : 1 ≤ n) (n2 : n ≤ 100) :
    Calls Tryz.prog 81 #[.pointer (some ⟨g, 0, none⟩), .int .i64 m, .int .i64 n] w (DrawM g w) :=
  (drawSizeB g m n w h m1 m2 n1 n2).mono fun _ _ h => h.less
end Go.Proofs.YtcofjjipjcekjaaGreat.V

namespace Go.Proofs.YtcofjjipjcekjaaGreat.V
open Go.RowKit


/-- A drawn matrix, as a law is handed it. -/
def DrawnM (w : World) (e : Ending) (w' : World) : Prop :=
  ∃ (a : Option Addr) (n cap : Nat) (R : List (List Int)), e = .returned (.slice a n cap) ∧ Mat w' a n R ∧ Below w.heap.size w w'

end Go.Proofs.YtcofjjipjcekjaaGreat.V

namespace Go.Proofs.YtcofjjipjcekjaaGreat.V
open Go.RowKit

/-- A matrix of one row that is not its own. -/
theorem mat_one' (w : World) (a : Option Addr) (n cap : Nat) (l : List Int) (h : Ints .i64 w a n l) : Mat (w.alloc (.cells #[.slice a n cap] 26)) (some ⟨w.heap.size, 0, none⟩) 1 [l] := by
  refine ⟨rfl, by decide, .inr ⟨_, _, rfl, by simp, fun i hi => ?_⟩⟩
  obtain rfl : i = 0 := by omega
  have hc := cell_one_new w (.slice a n cap) 26 0 _ rfl
  refine ⟨a, cap, ?_, ?_⟩
  · show _ = some (Value.slice a l.length cap)
    rw [h.1]; exact hc
  · show Ints _ _ _ l.length l
    rw [h.1]; exact h.below (b_alloc w _)

set_option maxRecDepth 100000 in
set_option maxHeartbeats 1000000 in
theorem drawSquareB (g : Nat) (w : World) (h : Src w g) : Calls Tryz.prog 51 #[.pointer (some ⟨g, 0, none⟩)] w (DrawMB g w) := by
  have HS := Lib.hid h
  have hgl := h.lt
  clear h
  go_enter Tryz.func51, Tryz.ntmps51
  go_wp2_with fail
  refine (next g 5 _ (by decide) HS.out).mono ?_
  rintro e w1 ⟨x, rfl, hx1, hx2, hs1, ht1⟩
  obtain ⟨x, rfl⟩ := Int.eq_ofNat_of_zero_le hx1
  have hx3 : x < 5 := by omega
  have HS1 := Lib.hid hs1
  have HT1 := Lib.hid ht1
  have e1 : (1 : Int) + (x : Int) = ((1 + x : Nat) : Int) := by omega
  have E1 := Lib.hid e1
  clear e1 hs1 ht1 hx2 hx1
  go_wp2_with fail
  rw [E1.out]
  refine (drawSizeB g (1 + x) (1 + x) _ HS1.out (by omega) (by omega) (by omega) (by omega)).mono ?_
  rintro e w3 ⟨a, n, cap, R, rfl, hn, ho, hs3, ht3⟩
  have HO := Lib.hid (ho.mono HT1.out.below.size)
  have HS3 := Lib.hid hs3
  have HT3 := Lib.hid (HT1.out.trans ht3)
  clear ho hs3 ht3
  go_wp2
  go_ret
  exact ⟨a, n, cap, R, rfl, hn, HO.out, HS3.out, HT3.out⟩
theorem drawSquare (g : Nat) (w : World) (h : Src w g) : Calls Tryz.prog 51 #[.pointer (some ⟨g, 0, none⟩)] w (DrawM g w) :=
  (drawSquareB g w h).mono fun _ _ h => h.less

/-- A drawn matrix and a drawn integer. -/
def DrawnMI (w : World) (e : Ending) (w' : World) : Prop :=
  ∃ (a : Option Addr) (n cap : Nat) (R : List (List Int)) (x : Int), e = .returned (.tuple #[.slice a n cap, .int .i64 x]) ∧ Mat w' a n R ∧ Below w.heap.size w w'


/-- A drawn integer; two of them. -/
def DrawnI (w : World) (e : Ending) (w' : World) : Prop := ∃ x : Int, e = .returned (.int .i64 x) ∧ Below w.heap.size w w'
def DrawnII (w : World) (e : Ending) (w' : World) : Prop := ∃ x y : Int, e = .returned (.tuple #[.int .i64 x, .int .i64 y]) ∧ Below w.heap.size w w'


end Go.Proofs.YtcofjjipjcekjaaGreat.V

namespace Go.Proofs.YtcofjjipjcekjaaGreat.V
open Go.RowKit

theorem Thr.then {g : Nat} {w wx w' : World} (h : Thr g w wx) (hb : Below w.heap.size wx w') (hg : g ≤ w.heap.size) : Thr g w w' :=
  ⟨h.below.trans (hb.mono hg), fun k h1 h2 => (hb.block k h2).trans (h.other k h1 h2)⟩
theorem Src.then {g : Nat} {wx w' : World} {B : Nat} (h : Src wx g) (hb : Below B wx w') (hg : g < B) : Src w' g := h.below (hb.mono hg)

/-- A list that is being drawn. -/
def DL (g B : Nat) (v : Value) (l : List Int) (w0 w : World) : Prop := Own w B v l ∧ Src w g ∧ Thr g w0 w
theorem DL.next {g B : Nat} {v : Value} {l : List Int} {w0 w w' : World} (h : DL g B v l w0 w) (hB : g < B) (hs : Src w' g) (ht : Thr g w w') : DL g B v l w0 w' :=
  ⟨h.1.thr ht hB, hs, h.2.2.trans ht⟩
theorem DL.app {g : Nat} {v v' : Value} {l l' : List Int} {w0 w w' : World} (h : DL g w0.heap.size v l w0 w) (hg : g < w0.heap.size) (ho : Own w' w0.heap.size v' l') (hb : Below w0.heap.size w w') : DL g w0.heap.size v' l' w0 w' :=
  ⟨ho, h.2.1.then hb hg, h.2.2.then hb (Nat.le_of_lt hg)⟩

/-- A drawn vector: some list of integers, in new memory. -/
def DrawV (g : Nat) (w : World) (e : Ending) (w' : World) : Prop :=
  ∃ (a : Option Addr) (n cap : Nat) (l : List Int), e = .returned (.slice a n cap) ∧ Own w' w.heap.size (.slice a n cap) l ∧ Src w' g ∧ Thr g w w'

set_option maxRecDepth 100000 in
set_option maxHeartbeats 4000000 in
theorem drawVector (g n : Nat) (w : World) (h : Src w g) (n2 : n ≤ 1000) :
    Calls Tryz.prog 71 #[.pointer (some ⟨g, 0, none⟩), .int .i64 n] w (DrawV g w) := by
  have hgs := h.lt
  have HJ0 : Hid (DL g w.heap.size (.slice (some ⟨w.heap.size, 0, none⟩) 0 0) [] w (w.alloc (.cells #[] 2))) :=
    ⟨own_lit0 w _ (Nat.le_refl _), h.alloc _, (Thr.refl _ _).alloc (Nat.le_of_lt hgs) _⟩
  clear h
  go_enter Tryz.func71, Tryz.ntmps71
  go_wp2
  go_loopw [1, 5] (fun i out wr => ∃ (j t : Nat) (l : List Int) (b : Option Addr) (c : Nat), j + t ≤ n ∧ i = .int .i64 j ∧ out = .slice b t c ∧ Hid (DL g w.heap.size (.slice b t c) l w wr)) (fun i _ _ => (intOf i).toNat)
  case atStart => exact ⟨n, 0, [], _, _, by omega, rfl, rfl, HJ0⟩
  case round =>
    obtain ⟨j, t, l, b, c, hjt, rfl, rfl, HJ⟩ := hrel
    clear HJ0
    have hj1000 : j ≤ 1000 := by omega
    have ht1000 : t ≤ 1000 := by omega
    by_cases hj : 0 < j
    · have hji : (0 : Int) < (j : Int) := by omega
      go_wp2_with fail
      refine (next g 31 _ (by decide) HJ.out.2.1).mono ?_
      rintro e w1 ⟨x, rfl, hx1, hx2, hs1, ht1⟩
      have hx3 : x < 31 := by omega
      have HJ1 := Lib.hid (HJ.out.next hgs hs1 ht1)
      have hz1 : w.heap.size ≤ w1.heap.size := HJ1.out.2.2.below.size
      have hlen := HJ1.out.1.len
      have HLn := Lib.hid hlen
      clear hs1 ht1 hx2 HJ hlen
      go_wp2_with (at_builtin; refine append1 _ rfl (.tmp 11) (.tmp 15) rfl w.heap.size _ _ _ t HJ1.out.1.len.symm rfl HJ1.out.1 rfl (by rw [← HLn.out]; omega) hz1 ?_)
      intro b2 c2 w2 hO2 hb2 _
      have HJ2 := Lib.hid (HJ1.out.app hgs hO2 hb2)
      clear hO2 hb2 HJ1
      go_wp2_with fail
      refine (next g 8 _ (by decide) HJ2.out.2.1).mono ?_
      rintro e w3 ⟨y, rfl, hy1, -, hs3, ht3⟩
      have HJ3 := Lib.hid (HJ2.out.next hgs hs3 ht3)
      clear hs3 ht3 HJ2
      by_cases hy : y = 0
      · subst hy
        obtain ⟨b3, c3, hv3, -, -, hg3⟩ := own_form HJ3.out.1
        injection hv3 with e1 e2 e3
        subst e1 e3
        rw [← e2] at hg3
        obtain ⟨q, rfl, hq, -⟩ := hg3 (by omega)
        have hcl := HJ3.out.1.cellAt t (by omega)
        have hfz := HJ3.out.1.frozenAt t
        have hN := HJ3.out.1.set t (-1000000000000000)
        have HJ4 := Lib.hid (HJ3.out.app hgs hN ((Below.refl _ _).setCell (p := ⟨q, t, none⟩) hq _))
        obtain ⟨x5, hx5⟩ : ∃ x5, x5 = (l ++ [x - 15]).getD t 0 := ⟨_, rfl⟩
        rw [← hx5] at hcl
        clear hN e2 hx5
        go_wp2
        go_roundw
        case rel => exact ⟨j - 1, t + 1, _, _, _, by omega, by go_num, rfl, HJ4⟩
        case measure => simp [intOf]; omega
      · have ey : (y == 0) = false := by simpa using hy
        go_wp2
        go_roundw
        case rel => exact ⟨j - 1, t + 1, _, _, _, by omega, by go_num, rfl, HJ3⟩
        case measure => simp [intOf]; omega
    · obtain rfl : j = 0 := by omega
      go_wp2_with fail
      refine (next g 60 _ (by decide) HJ.out.2.1).mono ?_
      rintro e w1 ⟨x, rfl, hx1, -, hs1, ht1⟩
      have HJ1 := Lib.hid (HJ.out.next hgs hs1 ht1)
      clear hs1 ht1 HJ
      by_cases hx0 : x = 0
      · subst hx0
        go_wp2_with fail
        refine (drawValue g _ HJ1.out.2.1).mono ?_
        rintro e w2 ⟨z, rfl, hz, hs2, ht2⟩
        have HJ2 := Lib.hid (HJ1.out.next hgs hs2 ht2)
        have hz1 : w.heap.size ≤ w2.heap.size := HJ2.out.2.2.below.size
        have hlen := HJ2.out.1.len
        have HLn := Lib.hid hlen
        clear hs2 ht2 HJ1 hlen
        go_wp2_with (at_builtin; refine append1 _ rfl (.tmp 29) (.tmp 32) rfl w.heap.size _ _ _ t HJ2.out.1.len.symm rfl HJ2.out.1 rfl (by rw [← HLn.out]; omega) hz1 ?_)
        intro b2 c2 w3 hO2 hb2 _
        have HJ3 := Lib.hid (HJ2.out.app hgs hO2 hb2)
        clear hO2 hb2 HJ2
        go_wp2
        go_ret
        exact ⟨_, _, _, _, rfl, HJ3.out.1, HJ3.out.2.1, HJ3.out.2.2⟩
      · have e0 : (x == 0) = false := by simpa using hx0
        by_cases hx1' : x = 1
        · subst hx1'
          go_wp2
          go_ret
          exact ⟨_, _, _, [], rfl, own_nil _ _, HJ1.out.2.1, HJ1.out.2.2⟩
        · have e1 : (x == 1) = false := by simpa using hx1'
          go_wp2
          go_ret
          exact ⟨_, _, _, _, rfl, HJ1.out.1, HJ1.out.2.1, HJ1.out.2.2⟩

/-- A drawn matrix and a drawn vector, as a law is handed them. -/
def DrawnMV (w : World) (e : Ending) (w' : World) : Prop :=
  ∃ (a : Option Addr) (n cap : Nat) (R : List (List Int)) (a' : Option Addr) (n' cap' : Nat) (l : List Int), e = .returned (.tuple #[.slice a n cap, .slice a' n' cap']) ∧ Mat w' a n R ∧ Ints .i64 w' a' n' l ∧ Below w.heap.size w w'

end Go.Proofs.YtcofjjipjcekjaaGreat.V

namespace Go.Proofs.YtcofjjipjcekjaaGreat.V
open Go.RowKit

/-- An owned matrix in blocks from B on and below C. -/
def OwnMC (w : World) (B C : Nat) (v : Value) (R : List (List Int)) : Prop :=
  ∃ V, OwnV w B v R V ∧ (∀ k, v.ownBlock = some k → k < C) ∧ ∀ i, i < R.length → ∀ k, (V.getD i (.slice none 0 0)).ownBlock = some k → k < C
theorem OwnM.upto {w : World} {B : Nat} {v : Value} {R : List (List Int)} (h : OwnM w B v R) : OwnMC w B w.heap.size v R := by
  obtain ⟨V, hV⟩ := h
  exact ⟨V, hV, fun k hk => (own_lt hV.2.1 hk).2, fun i hi k hk => (own_lt (hV.2.2.1 i hi) hk).2⟩
theorem OwnMC.own {w : World} {B C : Nat} {v : Value} {R : List (List Int)} (h : OwnMC w B C v R) : OwnM w B v R := ⟨h.choose, h.choose_spec.1⟩
theorem OwnMC.keep {w w' : World} {B C : Nat} {v : Value} {R : List (List Int)} (h : OwnMC w B C v R) (hk : ∀ k, B ≤ k → k < C → w'.heap[k]? = w.heap[k]?) : OwnMC w' B C v R := by
  obtain ⟨V, ⟨h1, h2, h3, h4, h5⟩, h6, h7⟩ := h
  exact ⟨V, ⟨h1, ownsRow_keep h2 (fun k hv => hk k (own_lt h2 hv).1 (h6 k hv)), fun i hi => ownsRow_keep (h3 i hi) (fun k hv => hk k (own_lt (h3 i hi) hv).1 (h7 i hi k hv)), h4, h5⟩, h6, h7⟩
/-- What is needed to read and to write one entry. -/
theorem OwnMC.at {w : World} {B C n cap : Nat} {a : Option Addr} {R : List (List Int)} (h : OwnMC w B C (.slice a n cap) R) (i j : Nat) (hi : i < n) (hj : j < (R.getD i []).length) :
    ∃ g q L c x, a = some ⟨g, 0, none⟩ ∧ B ≤ g ∧ g < C ∧ B ≤ q ∧ q < C ∧ q ≠ g ∧ L = (R.getD i []).length ∧ x = (R.getD i []).getD j 0 ∧ w.cell? ⟨g, i, none⟩ = some (.slice (some ⟨q, 0, none⟩) L c) ∧ w.cell? ⟨q, j, none⟩ = some (.int .i64 x) ∧ w.frozen? ⟨q, j, none⟩ = false ∧
      ∀ y, OwnMC (w.setCell ⟨q, j, none⟩ (.int .i64 y)) B C (.slice a n cap) (R.set i ((R.getD i []).set j y)) := by
  obtain ⟨V, ⟨h1, h2, h3, h4, h5⟩, h6, h7⟩ := h
  obtain ⟨a', c', hv, hc, hm, hg⟩ := own_form h2
  injection hv with e1 e2 e3
  subst e1 e2 e3
  obtain ⟨g, rfl, hBg, hlt⟩ := hg (by omega)
  have hrow := h3 i hi
  obtain ⟨ra, rc, hrv, hrc, hrm, hrg⟩ := own_form hrow
  obtain ⟨q, rfl, hBq, hqlt⟩ := hrg (by omega)
  have hcell := World.ownsRow.cellAt h2 i (by omega)
  have hVi : V[i]? = some (V.getD i (.slice none 0 0)) := by simp [h1, hi]
  have hrow' := hrow
  rw [hrv] at hrow'
  have hcell2 := World.ownsRow.cellAt hrow' j (by omega)
  have hqg : q ≠ g := fun e => h4 i hi q (by rw [hrv]; rfl) (by rw [e]; rfl)
  refine ⟨g, q, _, rc, _, rfl, hBg, h6 g rfl, hBq, h7 i hi q (by rw [hrv]; rfl), hqg, rfl, rfl, ?_, ?_, World.ownsRow.frozenAt hrow' j, fun y => ?_⟩
  · rw [hcell, hVi, hrv]
  · rw [hcell2]
    generalize R.getD i [] = l at hj
    simp [hj]
  · refine ⟨V, ⟨by simpa using h1, ?_, ?_, ?_, ?_⟩, h6, fun t ht => h7 t (by simpa using ht)⟩
    · rw [List.length_set]
      exact ownsRow_keep h2 (fun k hv => Below.heap_setCell _ _ _ _ (by
        simp only [Value.ownBlock, Option.some.injEq] at hv; show k ≠ q; omega))
    · intro t ht
      simp only [List.length_set] at ht
      rw [getD_set _ _ _ _ _ (by omega)]
      by_cases e : t = i
      · subst e
        rw [if_pos rfl, hrv]
        exact Own.set hrow' j y
      · rw [if_neg e]
        refine ownsRow_keep (h3 t ht) (fun k hv => Below.heap_setCell _ _ _ _ ?_)
        show k ≠ q
        intro e2
        subst e2
        exact h5 t i ht hi e k hv (by rw [hrv]; rfl)
    · intro t ht
      simp only [List.length_set] at ht
      exact h4 t ht
    · intro t s ht hs
      simp only [List.length_set] at ht hs
      exact h5 t s ht hs
/-- A store where the row is known to lie. -/
theorem OwnMC.put {w : World} {B C n cap o k t q L c : Nat} {R : List (List Int)} (h : OwnMC w B C (.slice (some ⟨o, 0, none⟩) n cap) R) (hi : k < n) (hj : t < (R.getD k []).length) (hc : w.cell? ⟨o, k, none⟩ = some (.slice (some ⟨q, 0, none⟩) L c)) (y : Int) :
    B ≤ q ∧ q < C ∧ q ≠ o ∧ OwnMC (w.setCell ⟨q, t, none⟩ (.int .i64 y)) B C (.slice (some ⟨o, 0, none⟩) n cap) (R.set k ((R.getD k []).set t y)) := by
  obtain ⟨g, q', L', c', x, hg, _, _, h1, h2, h3, _, _, hc', _, _, hw⟩ := h.at k t hi hj
  injection hg with hg
  injection hg with hg
  subst hg
  rw [hc] at hc'
  injection hc' with hc'
  injection hc' with e1 e2 e3
  injection e1 with e1
  injection e1 with e1
  subst e1
  exact ⟨h1, h2, h3, hw y⟩

/-- A square matrix below C and a list from C on, while the source draws. -/
def D3 (g B C n cap o : Nat) (vx : Value) (l : List Int) (w0 w : World) : Prop :=
  ∃ R, Rect R n n ∧ OwnMC w B C (.slice (some ⟨o, 0, none⟩) n cap) R ∧ Own w C vx l ∧ C ≤ w.heap.size ∧ Src w g ∧ Thr g w0 w
theorem D3.next {g B C n cap o : Nat} {vx : Value} {l : List Int} {w0 w w' : World} (h : D3 g B C n cap o vx l w0 w) (hB : g < B) (hC : B ≤ C) (hs : Src w' g) (ht : Thr g w w') : D3 g B C n cap o vx l w0 w' := by
  obtain ⟨R, h1, h2, h3, h4, h5, h6⟩ := h
  exact ⟨R, h1, h2.keep (fun k k1 k2 => ht.other k (by omega) (by omega)), h3.thr ht (by omega), Nat.le_trans h4 ht.below.size, hs, h6.trans ht⟩
theorem D3.drew {g B C n cap o : Nat} {vx : Value} {l : List Int} {w0 w : World} (h : D3 g B C n cap o vx l w0 w) : D3 g B C n cap o vx l w0 w.drew := by
  obtain ⟨R, h1, h2, h3, h4, h5, h6⟩ := h
  exact ⟨R, h1, h2.keep (fun _ _ _ => rfl), h3.keep (fun _ _ _ => rfl), h4, h5, h6.drew⟩
theorem D3.store {g B C n cap o k t q L c : Nat} {vx : Value} {l : List Int} {w0 w : World} (h : D3 g B C n cap o vx l w0 w) (hB : g < B) (hB0 : w0.heap.size ≤ B) (hi : k < n) (hj : t < n) (hc : w.cell? ⟨o, k, none⟩ = some (.slice (some ⟨q, 0, none⟩) L c)) (y : Int) :
    D3 g B C n cap o vx l w0 (w.setCell ⟨q, t, none⟩ (.int .i64 y)) := by
  obtain ⟨R, h1, h2, h3, h4, h5, h6⟩ := h
  obtain ⟨q1, q2, q3, hp⟩ := h2.put hi (by rw [h1.2 k hi]; exact hj) hc y
  refine ⟨_, h1.set k t y hi, hp, h3.keep (fun b b1 _ => Below.heap_setCell _ _ _ _ (by show b ≠ q; omega)), by simpa [World.setCell] using h4, ?_, ?_⟩
  · exact h5.below ((Below.refl _ _).setCell (p := ⟨q, t, none⟩) (by show g + 1 ≤ q; omega) _)
  · exact ⟨h6.below.setCell (p := ⟨q, t, none⟩) (by show g ≤ q; omega) _, fun b b1 b2 => by
      rw [Below.heap_setCell _ _ _ _ (by show b ≠ q; omega)]; exact h6.other b b1 b2⟩
/-- What one round reads: a row, and two of the numbers. -/
theorem D3.cells {g B C n cap o N c : Nat} {b : Option Addr} {l : List Int} {w0 w : World} (h : D3 g B C n cap o (.slice b N c) l w0 w) (hB : g < B) (k t : Nat) (hi : k < n) (hj : t < n) (hk : k < N) (ht : t < N) :
    ∃ q c2 x xb, b = some ⟨xb, 0, none⟩ ∧ B ≤ q ∧ q < C ∧ C ≤ xb ∧ q ≠ o ∧ B ≤ o ∧ o < C ∧ w.cell? ⟨o, k, none⟩ = some (.slice (some ⟨q, 0, none⟩) n c2) ∧ w.cell? ⟨q, t, none⟩ = some (.int .i64 x) ∧ w.frozen? ⟨q, t, none⟩ = false ∧
      w.cell? ⟨xb, k, none⟩ = some (.int .i64 (l.getD k 0)) ∧ w.cell? ⟨xb, t, none⟩ = some (.int .i64 (l.getD t 0)) := by
  obtain ⟨R, h1, h2, h3, h4, h5, h6⟩ := h
  obtain ⟨g2, q, L, c2, x, hg, o1, o2, q1, q2, q3, hL, hx, c1, c2', f1, _⟩ := h2.at k t hi (by rw [h1.2 k hi]; exact hj)
  injection hg with hg
  injection hg with hg
  subst hg
  rw [h1.2 k hi] at hL
  subst hL
  obtain ⟨b', c', hv, _, _, hg⟩ := own_form h3
  have hl := h3.len
  injection hv with e1 e2 e3
  subst e1
  obtain ⟨xb, rfl, hxb, _⟩ := hg (by omega)
  exact ⟨q, c2, x, xb, rfl, q1, q2, hxb, q3, o1, o2, c1, c2', f1, h3.cellAt k hk, h3.cellAt t ht⟩
/-- The cells outlive a draw. -/
theorem d3_next {g B C n cap o q c2 xb k t : Nat} {vx u1 u2 : Value} {l : List Int} {w0 w wx : World} (h : w.cell? ⟨o, k, none⟩ = some (.slice (some ⟨q, 0, none⟩) n c2) ∧ w.cell? ⟨xb, k, none⟩ = some u1 ∧ w.cell? ⟨xb, t, none⟩ = some u2 ∧ D3 g B C n cap o vx l w0 w) (hB : g < B) (hC : B ≤ C) (ho : B ≤ o) (hx : C ≤ xb) (hs : Src wx g) (ht : Thr g w wx) :
    wx.cell? ⟨o, k, none⟩ = some (.slice (some ⟨q, 0, none⟩) n c2) ∧ wx.cell? ⟨xb, k, none⟩ = some u1 ∧ wx.cell? ⟨xb, t, none⟩ = some u2 ∧ D3 g B C n cap o vx l w0 wx := by
  obtain ⟨h1, h2, h3, h4⟩ := h
  refine ⟨?_, ?_, ?_, h4.next hB hC hs ht⟩
  · rw [ht.cell (p := ⟨o, k, none⟩) (cell_lt h1) (by show o ≠ g; omega)]; exact h1
  · rw [ht.cell (p := ⟨xb, k, none⟩) (cell_lt h2) (by show xb ≠ g; omega)]; exact h2
  · rw [ht.cell (p := ⟨xb, t, none⟩) (cell_lt h3) (by show xb ≠ g; omega)]; exact h3
/-- .. and a store into the row. -/
theorem d3_store {g B C n cap o q c2 xb k t : Nat} {vx u1 u2 : Value} {l : List Int} {w0 w : World} (h : w.cell? ⟨o, k, none⟩ = some (.slice (some ⟨q, 0, none⟩) n c2) ∧ w.cell? ⟨xb, k, none⟩ = some u1 ∧ w.cell? ⟨xb, t, none⟩ = some u2 ∧ D3 g B C n cap o vx l w0 w) (hB : g < B) (hB0 : w0.heap.size ≤ B) (hi : k < n) (hj : t < n) (hqo : q ≠ o) (hq : q < C) (hx : C ≤ xb) (y : Int) :
    (w.setCell ⟨q, t, none⟩ (.int .i64 y)).cell? ⟨o, k, none⟩ = some (.slice (some ⟨q, 0, none⟩) n c2) ∧ (w.setCell ⟨q, t, none⟩ (.int .i64 y)).cell? ⟨xb, k, none⟩ = some u1 ∧ (w.setCell ⟨q, t, none⟩ (.int .i64 y)).cell? ⟨xb, t, none⟩ = some u2 ∧ D3 g B C n cap o vx l w0 (w.setCell ⟨q, t, none⟩ (.int .i64 y)) := by
  obtain ⟨h1, h2, h3, h4⟩ := h
  refine ⟨?_, ?_, ?_, h4.store hB hB0 hi hj h1 y⟩
  · exact (World.cell?_of_block (w := w) (Below.heap_setCell _ _ _ _ (show o ≠ q from fun e => hqo e.symm))).trans h1
  · exact (World.cell?_of_block (w := w) (Below.heap_setCell _ _ _ _ (show xb ≠ q by omega))).trans h2
  · exact (World.cell?_of_block (w := w) (Below.heap_setCell _ _ _ _ (show xb ≠ q by omega))).trans h3
theorem d3_of {A1 A2 A3 A4 : Prop} (h : A1 ∧ A2 ∧ A3 ∧ A4) : A4 := h.2.2.2
end Go.Proofs.YtcofjjipjcekjaaGreat.V

namespace Go.Proofs.YtcofjjipjcekjaaGreat.V
open Go.RowKit

end Go.Proofs.YtcofjjipjcekjaaGreat.V

namespace Go.Proofs.YtcofjjipjcekjaaGreat.V
open Go.RowKit


/-- A drawn matrix and two drawn numbers. -/
def DrawnMII (w : World) (e : Ending) (w' : World) : Prop :=
  ∃ (a : Option Addr) (n cap : Nat) (R : List (List Int)) (x y : Int), e = .returned (.tuple #[.slice a n cap, .int .i64 x, .int .i64 y]) ∧ Mat w' a n R ∧ Below w.heap.size w w'
end Go.Proofs.YtcofjjipjcekjaaGreat.V

namespace Go.Proofs.YtcofjjipjcekjaaGreat.V
open Go.RowKit

end Go.Proofs.YtcofjjipjcekjaaGreat.V

namespace Go.Proofs.YtcofjjipjcekjaaGreat.V
open Go.RowKit

theorem wrap100 (y : Nat) (h : y < 4) : IntKind.i64.wrap (100 + (y : Int)) = ((100 + y : Nat) : Int) := by
  rw [IntWalk.i64_in _ (by omega)]; omega
theorem made_ints3 (w : World) (n : Nat) (hn : n ≤ maxLen) : Ints .i64 (w.alloc (.cells (madeCells #[.int .i64 0] n) 2)) (some ⟨w.heap.size, 0, none⟩) n (List.replicate n 0) := by
  have hr := World.rowIs_made w (.int .i64 0) n 2
  refine ⟨by simp, hn, .inr ⟨_, _, rfl, by simp, fun i hi => ?_⟩⟩
  rw [Nat.zero_add, hr.cell hi]
  simp [hi]

theorem rlit0 (w : World) (B : Nat) (h : B ≤ w.heap.size) : Own (w.alloc (.cells #[.int .i64 0] 2)) B (.slice (some ⟨w.heap.size, 0, none⟩) 1 1) [0] := World.ownsRow_lit w #[.int .i64 0] 1 h (by decide) rfl
theorem mlit0 (w : World) (B : Nat) (h : B ≤ w.heap.size) : OwnM ((w.alloc (.cells #[.int .i64 0] 2)).alloc (.cells #[.slice (some ⟨w.heap.size, 0, none⟩) 1 1] 26)) B (.slice (some ⟨w.heap.size + 1, 0, none⟩) 1 1) [[0]] := by
  have := ownM_lit1 (w.alloc (.cells #[.int .i64 0] 2)) B (by simp; omega) (rlit0 w B h)
  simpa using this
theorem b_up {w X : World} (h : Below w.heap.size w X) (o : Obj) : Below w.heap.size w (X.alloc o) := h.alloc h.size _
/-- What the six orders leave. -/
def Fin6 (w w' : World) (a' a : Option Addr) (y : Nat) : Prop := Mat w' a' 1 [[0]] ∧ Ints .i64 w' a (100 + y) (List.replicate (100 + y) 0) ∧ Below w.heap.size w w'
theorem fin_a (w w3 w6 : World) (y : Nat) (hy : y < 2) (hg : w.heap.size < w3.heap.size) (hb : Below w.heap.size w w3) (ht : Thr w.heap.size ((w3.alloc (.cells #[.int .i64 0] 2)).alloc (.cells #[.slice (some ⟨w3.heap.size, 0, none⟩) 1 1] 26)).drew w6) :
    Fin6 w (w6.alloc (.cells (madeCells #[.int .i64 0] (100 + y)) 2)) (some ⟨w3.heap.size + 1, 0, none⟩) (some ⟨w6.heap.size, 0, none⟩) y :=
  ⟨(((mlit0 w3 w3.heap.size (Nat.le_refl _)).keep (w' := ((w3.alloc (.cells #[.int .i64 0] 2)).alloc (.cells #[.slice (some ⟨w3.heap.size, 0, none⟩) 1 1] 26)).drew) (fun _ _ _ => rfl)).thr ht hg).mat.below (b_alloc _ _), made_ints3 _ _ (by unfold maxLen; omega), b_up ((b_up (b_up hb _) _).drew.trans ht.below) _⟩
theorem fin_b (w w3 w6 : World) (y : Nat) (hy : y < 2) (hg : w.heap.size < w3.heap.size) (hb : Below w.heap.size w w3) (ht : Thr w.heap.size (w3.alloc (.cells #[.int .i64 0] 2)).drew w6) :
    Fin6 w ((w6.alloc (.cells #[.slice (some ⟨w3.heap.size, 0, none⟩) 1 1] 26)).alloc (.cells (madeCells #[.int .i64 0] (100 + y)) 2)) (some ⟨w6.heap.size, 0, none⟩) (some ⟨w6.heap.size + 1, 0, none⟩) y := by
  have h1 : Own (w3.alloc (.cells #[.int .i64 0] 2)).drew w3.heap.size (.slice (some ⟨w3.heap.size, 0, none⟩) 1 1) [0] := rlit0 w3 w3.heap.size (Nat.le_refl _)
  have hz : w3.heap.size ≤ w6.heap.size := by have := ht.below.size; simp at this; omega
  have h2 := made_ints3 (w6.alloc (.cells #[.slice (some ⟨w3.heap.size, 0, none⟩) 1 1] 26)) (100 + y) (by unfold maxLen; omega)
  exact ⟨(ownM_lit1 w6 w3.heap.size hz (h1.thr ht hg)).mat.below (b_alloc _ _), by simpa using h2, b_up (b_up ((b_up hb _).drew.trans ht.below) _) _⟩
theorem fin_c (w w3 w6 : World) (y : Nat) (hy : y < 2) (hg : w.heap.size < w3.heap.size) (hb : Below w.heap.size w w3) (ht : Thr w.heap.size (w3.alloc (.cells #[.int .i64 0] 2)).drew w6) :
    Fin6 w ((w6.alloc (.cells (madeCells #[.int .i64 0] (100 + y)) 2)).alloc (.cells #[.slice (some ⟨w3.heap.size, 0, none⟩) 1 1] 26)) (some ⟨w6.heap.size + 1, 0, none⟩) (some ⟨w6.heap.size, 0, none⟩) y := by
  have h1 : Own (w3.alloc (.cells #[.int .i64 0] 2)).drew w3.heap.size (.slice (some ⟨w3.heap.size, 0, none⟩) 1 1) [0] := rlit0 w3 w3.heap.size (Nat.le_refl _)
  have hz : w3.heap.size ≤ w6.heap.size := by have := ht.below.size; simp at this; omega
  have h2 := made_ints3 w6 (100 + y) (by unfold maxLen; omega)
  have h3 := ownM_lit1 (w6.alloc (.cells (madeCells #[.int .i64 0] (100 + y)) 2)) w3.heap.size (by simp; omega) ((h1.thr ht hg).below (b_alloc w6 _))
  exact ⟨by simpa using h3.mat, h2.below (b_alloc _ _), b_up (b_up ((b_up hb _).drew.trans ht.below) _) _⟩
theorem fin_d (w w3 w6 : World) (y : Nat) (hy : y < 2) (hb : Below w.heap.size w w3) (ht : Thr w.heap.size w3.drew w6) :
    Fin6 w (((w6.alloc (.cells #[.int .i64 0] 2)).alloc (.cells #[.slice (some ⟨w6.heap.size, 0, none⟩) 1 1] 26)).alloc (.cells (madeCells #[.int .i64 0] (100 + y)) 2)) (some ⟨w6.heap.size + 1, 0, none⟩) (some ⟨w6.heap.size + 1 + 1, 0, none⟩) y := by
  have h2 := made_ints3 ((w6.alloc (.cells #[.int .i64 0] 2)).alloc (.cells #[.slice (some ⟨w6.heap.size, 0, none⟩) 1 1] 26)) (100 + y) (by unfold maxLen; omega)
  exact ⟨(mlit0 w6 _ (Nat.le_refl _)).mat.below (b_alloc _ _), by simpa using h2, b_up (b_up (b_up (hb.drew.trans ht.below) _) _) _⟩
theorem fin_e (w w3 w6 : World) (y : Nat) (hy : y < 2) (hb : Below w.heap.size w w3) (ht : Thr w.heap.size w3.drew w6) :
    Fin6 w (((w6.alloc (.cells #[.int .i64 0] 2)).alloc (.cells (madeCells #[.int .i64 0] (100 + y)) 2)).alloc (.cells #[.slice (some ⟨w6.heap.size, 0, none⟩) 1 1] 26)) (some ⟨w6.heap.size + 1 + 1, 0, none⟩) (some ⟨w6.heap.size + 1, 0, none⟩) y := by
  have h2 := made_ints3 (w6.alloc (.cells #[.int .i64 0] 2)) (100 + y) (by unfold maxLen; omega)
  have h3 := ownM_lit1 ((w6.alloc (.cells #[.int .i64 0] 2)).alloc (.cells (madeCells #[.int .i64 0] (100 + y)) 2)) w6.heap.size (by simp; omega) ((rlit0 w6 _ (Nat.le_refl _)).below (b_alloc _ _))
  exact ⟨by simpa using h3.mat, by simpa using h2.below (b_alloc _ _), b_up (b_up (b_up (hb.drew.trans ht.below) _) _) _⟩
theorem fin_f (w w3 w6 : World) (y : Nat) (hy : y < 2) (hb : Below w.heap.size w w3) (ht : Thr w.heap.size w3.drew w6) :
    Fin6 w (((w6.alloc (.cells (madeCells #[.int .i64 0] (100 + y)) 2)).alloc (.cells #[.int .i64 0] 2)).alloc (.cells #[.slice (some ⟨w6.heap.size + 1, 0, none⟩) 1 1] 26)) (some ⟨w6.heap.size + 1 + 1, 0, none⟩) (some ⟨w6.heap.size, 0, none⟩) y := by
  have h2 := made_ints3 w6 (100 + y) (by unfold maxLen; omega)
  have h3 := mlit0 (w6.alloc (.cells (madeCells #[.int .i64 0] (100 + y)) 2)) _ (Nat.le_refl _)
  exact ⟨by simpa using h3.mat, (h2.below (b_alloc _ _)).below (b_alloc _ _), b_up (b_up (b_up (hb.drew.trans ht.below) _) _) _⟩

/-- A drawn matrix and a drawn list of nodes. -/
def DrawnMN (w : World) (e : Ending) (w' : World) : Prop :=
  ∃ (a : Option Addr) (n cap : Nat) (R : List (List Int)) (a' : Option Addr) (N cap' : Nat) (l : List Int), e = .returned (.tuple #[.slice a n cap, .slice a' N cap']) ∧ Mat w' a n R ∧ Ints .i64 w' a' N l ∧ N ≤ cap' ∧ cap' ≤ maxLen ∧ Below w.heap.size w w'
theorem fin_out {w w' : World} {a' a : Option Addr} (y : Nat) (hy : y < 2) (h : Fin6 w w' a' a y) : DrawnMN w (.returned (.tuple #[.slice a' 1 1, .slice a (100 + y) (100 + y)])) w' :=
  ⟨_, _, _, _, _, _, _, _, rfl, h.1, h.2.1, Nat.le_refl _, by unfold maxLen; omega, h.2.2⟩
end Go.Proofs.YtcofjjipjcekjaaGreat.V

namespace Go.Proofs.YtcofjjipjcekjaaGreat
namespace M
section
variable {R : List (List Int)} {n : Nat} (hn : n ≤ 10) (hA : ∀ i j, i < n → j < n → Sm 1000001000000 (ent R i j))
include hn hA
/-- No path is heavier than the star says. -/
theorem along_star (hp : noPos (ent R) n = true) {l : List Int} (h1 : 1 ≤ l.length) (h2 : l.length ≤ 100) (hv : nodesB n l = true) : alongW R l ≤ starF (ent R) n (vx l (l.length - 1)) (vx l 0) := by
  have hd := o_diag hn hA hp
  have hx : ∀ u, u ≤ l.length - 1 → vx l u < n := fun u hu => by
    have := nodesB_at hv (k := u) (by omega)
    unfold vx; omega
  have hs : ∀ u, u < l.length - 1 → Sm 1000001000000 (ent R (vx l (u + 1)) (vx l u)) := fun u hu => hA _ _ (hx _ (by omega)) (hx _ (by omega))
  have e1 : o (starF (ent R) n (vx l (l.length - 1)) (vx l 0)) = obm (fun i j => o (ent R i j)) n n (vx l (l.length - 1)) (vx l 0) := by
    unfold starF
    rw [← clo_star hn hA hp (hx _ (Nat.le_refl _)) (hx 0 (Nat.zero_le _)), o_cbm hA n (by omega) _ _ (hx _ (Nat.le_refl _)) (hx 0 (Nat.zero_le _))]
  have e2 := owk_star hd (vx l) (l.length - 1) hx
  rw [← e1, ← o_wkc (by omega) hs] at e2
  exact (o_le (L := 100000000000000) (sm_up (wkc_sm hs) (by omega)) (sm_up (star_sm hn hA hp (hx _ (Nat.le_refl _)) (hx 0 (Nat.zero_le _))) (by omega)) (by omega)).1 e2
end
section
variable {R : List (List Int)} {n : Nat} (hA : ∀ i j, i < n → j < n → Sm 1000001000000 (ent R i j))
include hA
theorem hv_wkc {t s f : Nat} (hs : s ≤ 10) (ht : t < n) (hf : f < n) (h : cpw (ent R) n s t f ≠ -1000000000000000) (k : Nat) (hk : k ≤ s) :
    wkc (ent R) (xs (ent R) n t s f) k = cpw (ent R) n s t f - cpw (ent R) n (s - k) t (xs (ent R) n t s f k) := by
  induction k with
  | zero => show (0 : Int) = cpw (ent R) n s t f - cpw (ent R) n s t f; omega
  | succ k ih =>
    obtain ⟨h1, h2⟩ := xs_inv hA hs ht hf h k (by omega)
    obtain ⟨h3, h4⟩ := xs_inv hA hs ht hf h (k + 1) hk
    have h5 := xs_need hA hs ht hf h k (by omega)
    have b0 := cpw_sm hA s t f ht hf
    have b1 := cpw_sm hA (s - k) t _ ht h1
    have b2 := cpw_sm hA (s - (k + 1)) t _ ht h3
    have b3 := hA _ _ h3 h1
    have hs' : (1000001000000 : Int) * (s : Int) ≤ 10000010000000 := by omega
    have hk1 : (1000001000000 : Int) * ((s - k : Nat) : Int) ≤ 10000010000000 := by omega
    have hk2 : (1000001000000 : Int) * ((s - (k + 1) : Nat) : Int) ≤ 10000010000000 := by omega
    show times (wkc (ent R) (xs (ent R) n t s f) k) (ent R (xs (ent R) n t s f (k + 1)) (xs (ent R) n t s f k)) = _
    rw [ih (by omega), h5]
    rw [h5] at b2 h4
    unfold Sm at b0 b1 b2 b3
    unfold times
    rw [if_neg (by omega)]
    omega
theorem hv_along {t s f : Nat} (hs : s ≤ 10) (ht : t < n) (hf : f < n) (h : cpw (ent R) n s t f ≠ -1000000000000000) :
    alongW R (hvL (ent R) n t s f (s + 1)) = cpw (ent R) n s t f := by
  have e : wkc (ent R) (vx (hvL (ent R) n t s f (s + 1))) s = wkc (ent R) (xs (ent R) n t s f) s := wkc_congr fun u hu => by
    unfold vx; rw [hvL_at _ _ _ _ _ _ _ (by omega)]; simp
  unfold alongW
  rw [hvL_len, show s + 1 - 1 = s by omega, e, hv_wkc hA hs ht hf h s (Nat.le_refl _), Nat.sub_self, xs_end hA hs ht hf h]
  show _ - unit t t = _
  unfold unit
  rw [if_pos rfl]; omega
theorem hv_nodes {t s f : Nat} (hs : s ≤ 10) (ht : t < n) (hf : f < n) (h : cpw (ent R) n s t f ≠ -1000000000000000) : nodesB n (hvL (ent R) n t s f (s + 1)) = true := by
  unfold nodesB hvL
  rw [List.all_map, List.all_eq_true]
  intro i hi
  have := (xs_inv hA hs ht hf h i (by have := List.mem_range.1 hi; omega)).1
  simp [inN]; omega
end
/-- What an answer of HeaviestPath says. -/
theorem heavy_t {R : List (List Int)} {f t : Int} (h : (heavyRes R f t).2 = 0) : sqB R = true ∧ inN R.length f = true ∧ inN R.length t = true ∧ noPos (ent R) R.length = true ∧ starF (ent R) R.length t.toNat f.toNat ≠ -1000000000000000 ∧ heavyRes R f t = (hvL (ent R) R.length t.toNat (arcs (ent R) R.length f.toNat t.toNat) f.toNat (arcs (ent R) R.length f.toNat t.toNat + 1), 0) := by
  unfold heavyRes at h ⊢
  by_cases h1 : sqB R = true
  · rw [if_pos h1] at h ⊢
    by_cases h2 : (inN R.length f && inN R.length t) = true
    · rw [if_pos h2] at h ⊢
      rw [Bool.and_eq_true] at h2
      by_cases h3 : noPos (ent R) R.length = true
      · rw [if_pos h3] at h ⊢
        by_cases h4 : starF (ent R) R.length t.toNat f.toNat = -1000000000000000
        · rw [if_pos h4] at h; simp at h
        · rw [if_neg h4]; exact ⟨h1, h2.1, h2.2, h3, h4, rfl⟩
      · rw [if_neg h3] at h; simp at h
    · rw [if_neg h2] at h; simp at h
  · rw [if_neg h1] at h; simp at h
theorem path_t {R : List (List Int)} {l : List Int} (h : (pathRes R l).2 = 0) : sqB R = true ∧ 1 ≤ l.length ∧ l.length ≤ 100 ∧ nodesB R.length l = true ∧ pathRes R l = (alongW R l, 0) := by
  unfold pathRes at h ⊢
  by_cases h1 : sqB R = true
  · rw [if_pos h1] at h ⊢
    by_cases h2 : 1 ≤ l.length ∧ l.length ≤ 100 ∧ nodesB R.length l = true
    · rw [if_pos h2] at h ⊢
      by_cases h3 : alongW R l = -1000000000000000
      · rw [if_pos h3] at h; simp at h
      · rw [if_neg h3] at h ⊢
        unfold chk at h ⊢
        by_cases h4 : isVal (alongW R l) = true
        · rw [if_pos h4]; exact ⟨h1, h2.1, h2.2.1, h2.2.2, rfl⟩
        · rw [if_neg h4] at h; simp at h
    · rw [if_neg h2] at h; simp at h
  · rw [if_neg h1] at h; simp at h
theorem star_t {R : List (List Int)} (h : (starRes R).2 = 0) : sqB R = true ∧ noPos (ent R) R.length = true ∧ isMat (starM R R.length) = true ∧ starRes R = (starM R R.length, 0) := by
  unfold starRes at h ⊢
  by_cases h1 : sqB R = true
  · rw [if_pos h1] at h ⊢
    by_cases h3 : noPos (ent R) R.length = true
    · rw [if_pos h3] at h ⊢
      by_cases h4 : isMat (starM R R.length) = true
      · rw [if_pos h4]; exact ⟨h1, h3, h4, rfl⟩
      · rw [if_neg h4] at h; simp at h
    · rw [if_neg h3] at h; simp at h
  · rw [if_neg h1] at h; simp at h
theorem star_l {R : List (List Int)} (h1 : sqB R = true) (h3 : noPos (ent R) R.length = true) (h : (starRes R).2 ≠ 0) : starRes R = ([], 3) := by
  unfold starRes at h ⊢
  rw [if_pos h1, if_pos h3] at h ⊢
  by_cases h4 : isMat (starM R R.length) = true
  · rw [if_pos h4] at h; simp at h
  · rw [if_neg h4]
theorem starM_len (R : List (List Int)) (n : Nat) : (starM R n).length = n := mk_length _ _ _
theorem starM_wid (R : List (List Int)) {n : Nat} (h : 0 < n) : wid (starM R n) = n := mk_wid _ _ _ h
theorem starM_ent (R : List (List Int)) {n i j : Nat} (hi : i < n) (hj : j < n) : ent (starM R n) i j = starF (ent R) n i j := ent_mk _ _ _ _ _ hi hj
theorem starM_row (R : List (List Int)) {n i : Nat} (hi : i < n) : ((starM R n).getD i []).length = n := mk_rowlen _ _ _ _ hi
theorem isMat_ent {R : List (List Int)} (h : isMat R = true) {i j : Nat} (hi : i < R.length) (hj : j < wid R) : isVal (ent R i j) = true := (isMat_t h).2.2.2.2.2 i hi j hj
end M
end Go.Proofs.YtcofjjipjcekjaaGreat


