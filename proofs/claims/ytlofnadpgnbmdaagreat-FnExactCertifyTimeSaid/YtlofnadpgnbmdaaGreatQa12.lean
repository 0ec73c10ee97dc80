/- Texts laid together: Sh2, ShX, Rck, Clo3, Clo4. -/
import Derived.Test.YtlofnadpgnbmdaaGreatQa10
import Derived.Test.YtlofnadpgnbmdaaGreatQa11
import Derived.Test.YtlofnadpgnbmdaaGreatQa8
import Derived.Deep.RegionWith
import Derived.Deep.RegionHeld3
set_option linter.unusedSimpArgs false
set_option linter.unusedVariables false
set_option linter.unusedSectionVars false
namespace Go.Proofs.YtlofnadpgnbmdaaGreat
namespace M
/-- A matrix that is being written: the entries before i, j are the new ones. -/
def midG (f g : Nat → Nat → Int) (i j s t : Nat) : Int := if s < i ∨ (s = i ∧ t < j) then f s t else g s t
theorem midG_next (f g : Nat → Nat → Int) (n i j : Nat) (hi : i < n) :
    (mk n n (midG f g i j)).set i (((mk n n (midG f g i j)).getD i []).set j (f i j)) = mk n n (midG f g i (j + 1)) := by
  rw [mk_set _ _ _ _ _ _ hi]
  refine mk_congr fun s _ t _ => ?_
  unfold midG
  by_cases e : s = i
  · subst e
    rw [if_pos rfl]
    by_cases e2 : t = j
    · subst e2; rw [if_pos rfl, if_pos (by omega)]
    · rw [if_neg e2]
      by_cases e3 : t < j
      · rw [if_pos (by omega), if_pos (by omega)]
      · rw [if_neg (by omega), if_neg (by omega)]
  · rw [if_neg e]
    by_cases e3 : s < i
    · rw [if_pos (by omega), if_pos (by omega)]
    · rw [if_neg (by omega), if_neg (by omega)]
/-- An entry that stays. -/
theorem midG_same (f g : Nat → Nat → Int) (n i j : Nat) (h : f i j = g i j) : mk n n (midG f g i j) = mk n n (midG f g i (j + 1)) :=
  mk_congr fun s _ t _ => by
    unfold midG
    by_cases e : s < i ∨ (s = i ∧ t < j)
    · rw [if_pos e, if_pos (by omega)]
    · by_cases e2 : s = i ∧ t = j
      · obtain ⟨rfl, rfl⟩ := e2
        rw [if_neg e, if_pos (by omega), h]
      · rw [if_neg e, if_neg (by omega)]
theorem midG_row_end (f g : Nat → Nat → Int) (n i : Nat) : mk n n (midG f g i n) = mk n n (midG f g (i + 1) 0) :=
  mk_congr fun s _ t ht => by
    unfold midG
    by_cases e : s < i ∨ (s = i ∧ t < n)
    · rw [if_pos e, if_pos (by omega)]
    · rw [if_neg e, if_neg (by omega)]
theorem midG_zero (f g : Nat → Nat → Int) (n : Nat) : mk n n (midG f g 0 0) = mk n n g :=
  mk_congr fun s _ t _ => by unfold midG; rw [if_neg (by omega)]
theorem midG_end (f g : Nat → Nat → Int) (n : Nat) : mk n n (midG f g n 0) = mk n n f :=
  mk_congr fun s hs t _ => by unfold midG; rw [if_pos (by omega)]
theorem midG_at (f g : Nat → Nat → Int) (i j : Nat) : midG f g i j i j = g i j := by unfold midG; rw [if_neg (by omega)]
end M
namespace V
open Go.RowKit
abbrev rbox (a b : Int) : Obj := .cells #[.int .i64 a, .int .i64 b] 37
/-- The row's own block is not that of the rows. -/
theorem row_ne {w : World} {g q : Nat} {t : Nat} {x : Int} {a : Option Addr} {n c : Nat} (h1 : w.cell? ⟨q, t, none⟩ = some (.int .i64 x)) (h2 : w.cell? ⟨g, t, none⟩ = some (.slice a n c)) : q ≠ g := by
  rintro rfl
  rw [h1] at h2
  cases h2
end V
end Go.Proofs.YtlofnadpgnbmdaaGreat

namespace Go.Proofs.YtlofnadpgnbmdaaGreat.V
open Go.RowKit
theorem isRatio_b (n d : Int) (b : Bool) (hb : M.isRat n d = b) (w : World) :
    Calls Tryz.prog 67 #[.agg #[.int .i64 n, .int .i64 d]] w fun e w' => e = .returned (.bool b) ∧ Below w.heap.size w w' := by
  subst hb; exact isRatio n d w
theorem sIsRatio_b (n d : Int) (b : Bool) (hb : M.isRat n d = b) (w : World) :
    Calls Tryz.prog 71 #[.agg #[.int .i64 n, .int .i64 d]] w fun e w' => e = .returned (.bool b) ∧ Below w.heap.size w w' := by
  subst hb; exact sIsRatio n d w
/-- A boxed ratio and what becomes of it. -/
structure Boxed (w0 w : World) (num den : Int) : Prop where
  below : Below w0.heap.size w0 w
  size : w.heap.size = w0.heap.size + 1
  c0 : w.cell? ⟨w0.heap.size, 0, none⟩ = some (.int .i64 num)
  c1 : w.cell? ⟨w0.heap.size, 1, none⟩ = some (.int .i64 den)
theorem boxed (w0 : World) (num den : Int) : Boxed w0 (w0.alloc (rbox num den)) num den := ⟨b_alloc _ _, by simp, by simp, by simp⟩
theorem Boxed.cells {w0 w wr : World} {num den : Int} (h : Boxed w0 w num den) (hb : Below w.heap.size w wr) : wr.cell? ⟨w0.heap.size, 0, none⟩ = some (.int .i64 num) ∧ wr.cell? ⟨w0.heap.size, 1, none⟩ = some (.int .i64 den) := by
  have := h.size
  exact ⟨(hb.cell (p := ⟨w0.heap.size, 0, none⟩) (by show w0.heap.size < _; omega)).trans h.c0, (hb.cell (p := ⟨w0.heap.size, 1, none⟩) (by show w0.heap.size < _; omega)).trans h.c1⟩
theorem Boxed.trans {w0 w wr : World} {num den : Int} (h : Boxed w0 w num den) (hb : Below w.heap.size w wr) : Below w0.heap.size w0 wr := h.below.trans (hb.mono h.below.size)
theorem sq_parts {w : World} {a : Option Addr} {n : Nat} {R : List (List Int)} (h : Mat w a n R) (hs : M.sqB R = true) : Rect R n n ∧ 1 ≤ n ∧ n ≤ 10 ∧ ∀ i j, i < n → j < n → M.Sm 1000000 (M.ent R i j) := by
  have hq := sq_of h hs
  have e := (M.sq_sm hs).2.2
  rw [h.1] at e
  exact ⟨hq.2.1, hq.2.2.2.1, hq.2.2.2.2, e⟩
end Go.Proofs.YtlofnadpgnbmdaaGreat.V

namespace Go.Proofs.YtlofnadpgnbmdaaGreat
namespace M
theorem shiftRes_ok (R : List (List Int)) (a b : Int) : okM (shiftRes R a b).1 := by
  unfold shiftRes
  split
  · split
    · next h => exact .inr h
    · exact .inl rfl
  · exact .inl rfl
theorem potRes_len (R : List (List Int)) (a b : Int) : (potRes R a b).1.length ≤ 10 := by
  unfold potRes
  split
  · split
    · split
      · next h => exact (isVec_t h).2.1
      · simp
    · simp
  · simp
theorem bestRes_len (R : List (List Int)) : (bestRes R).1.length ≤ 10 := by
  unfold bestRes
  split
  · split
    · next h1 h2 => exact (best_cyc h1 h2).2.2.2
    · simp
  · simp
end M
namespace V
open Go.RowKit
theorem low3 {w1 w2 : World} {P Q : Prop} (h : P ∧ Q ∧ Below w1.heap.size w1 w2) : Below w1.heap.size w1 w2 := h.2.2
theorem keep3 {w0 w1 w2 : World} {b i j : Nat} {x y : Value} (hb0 : b < w0.heap.size) (h : w1.cell? ⟨b, i, none⟩ = some x ∧ w1.cell? ⟨b, j, none⟩ = some y ∧ Below w0.heap.size w0 w1) (hb : Below w1.heap.size w1 w2) : w2.cell? ⟨b, i, none⟩ = some x ∧ w2.cell? ⟨b, j, none⟩ = some y ∧ Below w0.heap.size w0 w2 := by
  have := h.2.2.size
  exact ⟨(hb.cell (p := ⟨b, i, none⟩) (by show b < _; omega)).trans h.1, (hb.cell (p := ⟨b, j, none⟩) (by show b < _; omega)).trans h.2.1, h.2.2.trans (hb.mono this)⟩
end V
end Go.Proofs.YtlofnadpgnbmdaaGreat

namespace Go.Proofs.YtlofnadpgnbmdaaGreat.V
open Go.RowKit
/-- A ratio and a code. -/
def retQ (r : (Int × Int) × Int) : Ending := .returned (.tuple #[.agg #[.int .i64 r.1.1, .int .i64 r.1.2], .int .i64 r.2])
theorem bel2s {w w1 : World} {o o' : Obj} {i j : Nat} {u v : Value} (hb : Below ((w.alloc o).alloc o').heap.size ((w.alloc o).alloc o') w1) : Below w.heap.size w ((w1.setCell ⟨w.heap.size + 1, i, none⟩ u).setCell ⟨w.heap.size + 1, j, none⟩ v) :=
  ((bel2 hb).setCell (by show w.heap.size ≤ w.heap.size + 1; omega) u).setCell (by show w.heap.size ≤ w.heap.size + 1; omega) v
set_option maxRecDepth 100000 in
set_option maxHeartbeats 400000 in
theorem ratioChecked (n d : Int) (w : World) :
    Calls Tryz.prog 112 #[.agg #[.int .i64 n, .int .i64 d]] w fun e w' => e = retQ (M.lim (n, d)) ∧ Below w.heap.size w w' := by
  by_cases hr : M.isRat n d = true
  · have HE : Hid (M.lim (n, d) = ((n, d), 0)) := by show _ = _; unfold M.lim; rw [if_pos hr]
    go_enter Tryz.func112, Tryz.ntmps112
    go_wp2_with fail
    refine (isRatio_b _ _ true hr _).mono ?_
    rintro e w1 ⟨rfl, hb⟩
    obtain ⟨hc, hf⟩ := bcell hb
    have hz := hb.size
    simp at hz
    have z1 : w.heap.size < w1.heap.size := by omega
    have z2 : w.heap.size + 1 < w1.heap.size := by omega
    go_wp2
    exact bodyPost_ret (v := .tuple #[.agg #[.int .i64 n, .int .i64 d], .int .i64 0]) (by simp [results, Tryz.results112, go_sem, z1, z2, hc]) rfl ⟨by rw [HE.out]; rfl, bel2s hb⟩
  · simp only [Bool.not_eq_true] at hr
    have HE : Hid (M.lim (n, d) = ((0, 0), 3)) := by show _ = _; unfold M.lim; rw [if_neg (by rw [hr]; exact Bool.false_ne_true)]
    go_enter Tryz.func112, Tryz.ntmps112
    go_wp2_with fail
    refine (isRatio_b _ _ false hr _).mono ?_
    rintro e w1 ⟨rfl, hb⟩
    obtain ⟨hc, hf⟩ := bcell hb
    have hz := hb.size
    simp at hz
    have z1 : w.heap.size < w1.heap.size := by omega
    have z2 : w.heap.size + 1 < w1.heap.size := by omega
    go_wp2
    exact bodyPost_ret (v := .tuple #[.agg #[.int .i64 0, .int .i64 0], .int .i64 3]) (by simp [results, Tryz.results112, go_sem, z1, z2, hc]) rfl ⟨by rw [HE.out]; rfl, bel2s hb⟩
end Go.Proofs.YtlofnadpgnbmdaaGreat.V

namespace Go.Proofs.YtlofnadpgnbmdaaGreat.V
open Go.RowKit

/-- The matrix whose diagonal is 0 before row k. -/
def M.diaF (A : Nat → Nat → Int) (n k i j : Nat) : Int := if i = j ∧ i < k then 0 else M.cfw A n i j
set_option maxRecDepth 100000 in
set_option maxHeartbeats 1000000 in
theorem starOf (a : Option Addr) (n cap : Nat) (R : List (List Int)) (w : World) (h : Sq w a n R) :
    Calls Tryz.prog 97 #[.slice a n cap] w (CPost (M.starL R n) w) := by
  have HS := Lib.hid h
  obtain ⟨n1, n2⟩ := h.2.2.2
  clear h
  obtain ⟨r, hr⟩ : ∃ r, r = M.plusL R n := ⟨_, rfl⟩
  have HC : Calls Tryz.prog 144 #[.slice a n cap] w (CPost r w) := by rw [hr]; exact plusOf _ _ _ _ _ HS.out
  by_cases hp : M.noPos (M.ent R) n = true
  · have hr2 : r = (M.plusM R n, true) := by rw [hr]; unfold M.plusL; rw [hp]; rfl
    have HF : Hid (M.starL R n = (M.starM R n, true)) := by show _ = _; unfold M.starL; rw [hp]; rfl
    clear hr hp
    subst hr2
    go_enter Tryz.func97, Tryz.ntmps97
    go_wp2_with fail
    refine HC.mono ?_
    rintro e w1 ⟨a2, m, cap2, rfl, hO, hb⟩
    obtain rfl : m = n := by have := hO.len; simpa [M.plusM] using this
    have HO0 : Hid (OwnM w1 w.heap.size (.slice a2 m cap2) (M.mk m m (M.diaF (M.ent R) m 0))) :=
      (congrArg (OwnM _ _ _) (M.mk_congr fun i _ j _ => by unfold M.diaF; rw [if_neg (by omega)])).mp hO
    have HB0 := Lib.hid hb
    clear hO hb HC
    go_wp2
    go_loopw [6, 14] (fun _ i wr => ∃ k : Nat, k ≤ m ∧ i = .int .i64 k ∧ OwnM wr w.heap.size (.slice a2 m cap2) (M.mk m m (M.diaF (M.ent R) m k)) ∧ Below w.heap.size w wr) (fun _ i _ => m - (intOf i).toNat)
    case atStart => exact ⟨0, Nat.zero_le _, rfl, HO0.out, HB0.out⟩
    case round =>
      obtain ⟨k, hk, rfl, hO, hb⟩ := hrel
      have HO := Lib.hid hO
      have HB := Lib.hid hb
      clear hO hb HO0 HB0
      by_cases hlt : k < m
      · obtain ⟨g, q, L, c, x, rfl, hg, hq, hL, hx, h1, h2, h3, h4⟩ := HO.out.at k k hlt (by rw [M.mk_rowlen _ _ _ _ hlt]; exact hlt)
        rw [M.mk_rowlen _ _ _ _ hlt] at hL
        obtain rfl : m = L := hL.symm
        have hN := h4 0
        rw [M.mk_set _ _ _ _ _ _ hlt] at hN
        have HN := Lib.hid hN
        have hki : (k : Int) < (m : Int) := by omega
        clear hx h4 hN
        go_wp2
        go_roundw
        case rel =>
          refine ⟨k + 1, by omega, by go_num, (congrArg (OwnM _ _ _) (M.mk_congr fun i _ j _ => ?_)).mp HN.out, HB.out.setCell hq _⟩
          unfold M.diaF
          by_cases e : i = k
          · subst e
            by_cases e2 : j = i
            · subst e2; simp
            · rw [if_pos rfl, if_neg e2, if_neg (by omega), if_neg (by omega)]
          · rw [if_neg e]
            by_cases e2 : i = j ∧ i < k
            · rw [if_pos e2, if_pos (by omega)]
            · rw [if_neg e2, if_neg (by omega)]
        case measure => simp [intOf]; omega
      · obtain rfl : k = m := by omega
        go_wp2
        go_ret2
        rw [HF.out]
        refine ⟨_, _, _, rfl, (congrArg (OwnM _ _ _) (M.mk_congr fun i hi j _ => ?_)).mp HO.out, HB.out⟩
        unfold M.diaF M.starF
        by_cases e : i = j
        · rw [if_pos ⟨e, hi⟩, if_pos e]
        · rw [if_neg (by omega), if_neg e]
  · simp only [Bool.not_eq_true] at hp
    have hr2 : r = ([], false) := by rw [hr]; unfold M.plusL; rw [hp]; rfl
    have HF : Hid (M.starL R n = ([], false)) := by show _ = _; unfold M.starL; rw [hp]; rfl
    clear hr hp
    subst hr2
    go_enter Tryz.func97, Tryz.ntmps97
    go_wp2_with fail
    refine HC.mono ?_
    rintro e w1 ⟨a2, m, cap2, rfl, hO, hb⟩
    obtain rfl : m = 0 := by have := hO.len; simpa using this
    have HB0 := Lib.hid hb
    have HO0 := Lib.hid hO
    clear hO hb HC
    go_wp2
    go_loop [14] (fun i => i = .int .i64 0) (fun _ => 0)
    case atStart => rfl
    case round =>
      subst hrel
      go_wp2
      go_ret2
      rw [HF.out]
      exact ⟨_, _, _, rfl, HO0.out, HB0.out⟩



end Go.Proofs.YtlofnadpgnbmdaaGreat.V

namespace Go.Proofs.YtlofnadpgnbmdaaGreat.V
open Go.RowKit

set_option maxRecDepth 100000 in
set_option maxHeartbeats 400000 in
theorem sSame (a : Option Addr) (n cap : Nat) (l : List Int) (a' : Option Addr) (n' cap' : Nat) (l' : List Int) (w : World) (h : Ints .i64 w a n l) (h' : Ints .i64 w a' n' l') :
    Calls Tryz.prog 154 #[.slice a n cap, .slice a' n' cap'] w fun e w' => ∃ b, e = .returned (.bool b) ∧ Hid (b = decide (l = l')) ∧ ∃ q, w' = w.drewN q := by
  have HI := Lib.hid h
  have HI' := Lib.hid h'
  have HL := Lib.hid h.1
  have HL' := Lib.hid h'.1
  have hm := h.2.1
  unfold maxLen at hm
  clear h h'
  by_cases hn : n = n'
  · subst hn
    have hD0 : Hid (∀ i, i < 0 → l.getD i 0 = l'.getD i 0) := fun i hi => absurd hi (Nat.not_lt_zero i)
    go_enter Tryz.func154, Tryz.ntmps154
    go_wp2
    go_loopw [5] (fun i wr => ∃ k : Nat, k ≤ n ∧ i = .int .i64 k ∧ Hid (∀ i, i < k → l.getD i 0 = l'.getD i 0) ∧ ∃ q, wr = w.drewN q) (fun i _ => n - (intOf i).toNat)
    case atStart => exact ⟨0, Nat.zero_le _, rfl, hD0, 0, rfl⟩
    case round =>
      obtain ⟨k, hk, rfl, HD, q2, rfl⟩ := hrel
      clear hD0
      by_cases hlt : k < n
      · have hki : (k : Int) < (n : Int) := by omega
        obtain ⟨b, off, x, rfl, hd, hx, c1⟩ := HI.out.at k hlt
        obtain ⟨b', off', y, rfl, hd', hy, c2⟩ := HI'.out.at k hlt
        have HX := Lib.hid hx
        have HY := Lib.hid hy
        clear hx hy hd hd'
        by_cases e : x = y
        · have HD2 : Hid (∀ i, i < k + 1 → l.getD i 0 = l'.getD i 0) := fun i hi => by
            by_cases ei : i = k
            · subst ei; rw [← HX.out, ← HY.out, e]
            · exact HD.out i (by omega)
          subst e
          go_wp2
          go_quiet (fail)
          go_wp2
          go_roundw
          case rel => exact ⟨k + 1, by omega, by go_num, HD2, _, rfl⟩
          case measure => simp [intOf]; omega
        · have e2 : (x == y) = false := by simpa using e
          have e3 : (x != y) = true := by simpa using e
          have HF : Hid (l ≠ l') := fun he => e (by rw [HX.out, HY.out, he])
          go_wp2
          go_quiet (fail)
          go_wp2
          go_ret
          exact ⟨_, rfl, (decide_eq_false HF.out).symm, _, World.drewN_drewN _ _ _⟩
      · obtain rfl : k = n := by omega
        have HF : Hid (l = l') := by
          show l = l'
          apply List.ext_getElem
          · rw [HL.out, HL'.out]
          · intro i h1 h2
            have := HD.out i (by have := HL.out; omega)
            simpa [h1, h2] using this
        go_wp2
        go_ret
        exact ⟨_, rfl, (decide_eq_true HF.out).symm, _, rfl⟩
  · have e2 : (n == n') = false := by simpa using hn
    have e3 : ((n : Int) != (n' : Int)) = true := by simp; omega
    have HF : Hid (l ≠ l') := fun he => hn (by rw [← HL.out, ← HL'.out, he])
    go_enter Tryz.func154, Tryz.ntmps154
    go_wp2
    go_ret
    exact ⟨_, rfl, (decide_eq_false HF.out).symm, 0, rfl⟩

set_option maxRecDepth 100000 in
set_option maxHeartbeats 1000000 in
theorem sSameM (a : Option Addr) (n cap : Nat) (R : List (List Int)) (a' : Option Addr) (cap' : Nat) (R' : List (List Int)) (w : World) (h : Mat w a n R) (h' : Mat w a' n R') (hn : n ≤ 1000) :
    Calls Tryz.prog 124 #[.slice a n cap, .slice a' n cap'] w fun e w' => e = .returned (.bool (decide (R = R'))) ∧ ∃ q, w' = w.drewN q := by
  have HA := Lib.hid h
  have HA' := Lib.hid h'
  have HL := Lib.hid h.1
  have HL' := Lib.hid h'.1
  clear h h'
  have hD0 : Hid (∀ i, i < 0 → R.getD i [] = R'.getD i []) := fun i hi => absurd hi (Nat.not_lt_zero i)
  go_enter Tryz.func124, Tryz.ntmps124
  go_wp2
  go_loopw [5] (fun i wr => ∃ k : Nat, k ≤ n ∧ i = .int .i64 k ∧ Hid (∀ i, i < k → R.getD i [] = R'.getD i []) ∧ ∃ q, wr = w.drewN q) (fun i _ => n - (intOf i).toNat)
  case atStart => exact ⟨0, Nat.zero_le _, rfl, hD0, 0, rfl⟩
  case round =>
    obtain ⟨k, hk, rfl, HD, q2, rfl⟩ := hrel
    clear hD0
    by_cases hlt : k < n
    · have hki : (k : Int) < (n : Int) := by omega
      obtain ⟨b, off, ra, rc, L, l, rfl, hb, hl, hc, hI⟩ := HA.out.at k hlt
      obtain ⟨b', off', ra', rc', L', l', rfl, hb', hl', hc', hI'⟩ := HA'.out.at k hlt
      have HI := Lib.hid hI
      have HI' := Lib.hid hI'
      have HX := Lib.hid hl
      have HY := Lib.hid hl'
      obtain ⟨z, hz⟩ : ∃ z, z = decide (l = l') := ⟨_, rfl⟩
      have HZ := Lib.hid hz
      have HC : ∀ q3, Calls Tryz.prog 154 #[.slice ra L rc, .slice ra' L' rc'] (w.drewN q3) fun e w' => e = .returned (.bool z) ∧ ∃ q, w' = (w.drewN q3).drewN q := by
        intro q3
        refine (sSame _ _ _ _ _ _ _ _ _ (HI.out.below (b_draws w _)) (HI'.out.below (b_draws w _))).mono ?_
        rintro e w' ⟨b, rfl, hb, hq⟩
        exact ⟨by rw [HZ.out, hb.out], hq⟩
      clear hl hl' hI hI' hz hb hb'
      cases z with
      | true =>
        have HD2 : Hid (∀ i, i < k + 1 → R.getD i [] = R'.getD i []) := fun i hi => by
          by_cases ei : i = k
          · subst ei; rw [← HX.out, ← HY.out]; exact of_decide_eq_true HZ.out.symm
          · exact HD.out i (by omega)
        go_wp2
        go_quiet ((go_at_call 154; exact q_more (HC _)))
        go_wp2
        go_roundw
        case rel => exact ⟨k + 1, by omega, by go_num, HD2, _, rfl⟩
        case measure => simp [intOf]; omega
      | false =>
        have HF : Hid (R ≠ R') := fun he => of_decide_eq_false HZ.out.symm (by rw [HX.out, HY.out, he])
        go_wp2
        go_quiet ((go_at_call 154; exact q_more (HC _)))
        go_wp2
        go_ret
        exact ⟨retB (decide_eq_false HF.out).symm, _, World.drewN_drewN _ _ _⟩
    · obtain rfl : k = n := by omega
      have HF : Hid (R = R') := by
        show R = R'
        apply List.ext_getElem
        · rw [HL.out, HL'.out]
        · intro i h1 h2
          have := HD.out i (by have := HL.out; omega)
          simpa [h1, h2] using this
      go_wp2
      go_ret
      exact ⟨retB (decide_eq_true HF.out).symm, _, rfl⟩

set_option maxRecDepth 100000 in
set_option maxHeartbeats 1000000 in
theorem sStar (a : Option Addr) (n cap : Nat) (R : List (List Int)) (w : World) (h : Sq w a n R) :
    Calls Tryz.prog 72 #[.slice a n cap] w fun e w' => ∃ b c, e = .returned (.tuple #[.slice b n c, .bool (M.noPos (M.ent R) n)]) ∧ OwnM w' w.heap.size (.slice b n c) (M.bmM R n n) ∧ Below w.heap.size w w' := by
  have HS := Lib.hid h
  obtain ⟨n1, n2⟩ := h.2.2.2
  have HSm : Hid (∀ i j, i < n → j < n → M.Sm 1000001000000 (M.ent R i j)) := h.2.2.1
  have HRB : Hid (∀ i j, i < n → j < n → M.Big (M.ent R i j)) := fun i j hi hj => M.big_sm (HSm.out i j hi hj) (by omega)
  have HBB : Hid (∀ t, t ≤ n → ∀ i j, i < n → j < n → M.Big (M.ent (M.bmM R n t) i j)) := fun t ht i j hi hj => M.bm_big HSm.out (by omega) hi hj
  clear h
  go_enter Tryz.func72, Tryz.ntmps72
  go_wp2_with (go_at_call 122; refine (sUnit n _ (by omega)).mono ?_; rintro e w1 ⟨a2, cap2, rfl, hO, hb⟩; rw [M.bm_zero R] at hO; have HO0 := Lib.hid hO; have HB0 := Lib.hid hb; clear hO hb)
  go_loopw [5, 6] (fun o i wr => ∃ (k : Nat) (b : Option Addr) (c : Nat), k ≤ n ∧ i = .int .i64 k ∧ o = .slice b n c ∧ OwnM wr w.heap.size (.slice b n c) (M.bmM R n k) ∧ Below w.heap.size w wr) (fun _ i _ => n - (intOf i).toNat)
  case atStart => exact ⟨0, _, _, Nat.zero_le _, rfl, rfl, HO0.out, HB0.out⟩
  case round =>
    obtain ⟨k, b, c, hk, rfl, rfl, hO, hb⟩ := hrel
    obtain ⟨wo, rfl⟩ : ∃ x, x = wr := ⟨_, rfl⟩
    have HO := Lib.hid hO
    have HB := Lib.hid hb
    clear hO hb HO0 HB0
    by_cases hlt : k < n
    · have hki : (k : Int) < (n : Int) := by omega
      go_wp2_with fail
      refine (sUnit n _ (by omega)).mono ?_
      rintro e w2 ⟨a3, cap3, rfl, hU, hb2⟩
      have HU2 := Lib.hid hU
      have HB2 := Lib.hid (bnext HB.out hb2)
      have HO2 := Lib.hid (HO.out.below hb2)
      clear hU hb2 HO HB
      go_wp2_with fail
      refine (sMultiplyB _ _ _ n R _ _ n (M.bmM R n k) _ (HS.out.1.below HB2.out) HO2.out.mat HS.out.2.1 (rect_mk _ _ _) HRB.out (HBB.out k (by omega)) n1 n2 n1 n2 n1 n2).mono ?_
      rintro e w3 ⟨a4, cap4, rfl, hP, hb3⟩
      have HP3 := Lib.hid hP
      have HB3 := Lib.hid (bnext HB2.out hb3)
      have HU3 := Lib.hid (HU2.out.below hb3)
      clear hP hb3 HO2 HU2
      go_wp2_with fail
      refine (sAddB _ _ _ _ _ _ _ n _ HU3.out.mat HP3.out.mat (rect_mk _ _ _) (rect_mk _ _ _) n1 n2 n1 n2).mono ?_
      rintro e w4 ⟨a5, cap5, rfl, hN, hb4⟩
      rw [M.bm_step] at hN
      have HN4 := Lib.hid (hN.mono HB3.out.size)
      have HB4 := Lib.hid (bnext HB3.out hb4)
      clear hN hb4 HU3 HP3
      go_wp2
      go_roundw
      case rel => exact ⟨k + 1, _, _, by omega, by go_num, rfl, HN4.out, HB4.out⟩
      case measure => simp [intOf]; omega
    · obtain rfl : k = n := by omega
      go_wp2_with fail
      refine (sUnit k _ (by omega)).mono ?_
      rintro e w2 ⟨a3, cap3, rfl, hU, hb2⟩
      have HU2 := Lib.hid hU
      have HB2 := Lib.hid (bnext HB.out hb2)
      have HO2 := Lib.hid (HO.out.below hb2)
      clear hU hb2 HO HB
      go_wp2_with fail
      refine (sMultiplyB _ _ _ k R _ _ k (M.bmM R k k) _ (HS.out.1.below HB2.out) HO2.out.mat HS.out.2.1 (rect_mk _ _ _) HRB.out (HBB.out k (by omega)) n1 n2 n1 n2 n1 n2).mono ?_
      rintro e w3 ⟨a4, cap4, rfl, hP, hb3⟩
      have HP3 := Lib.hid hP
      have HB3 := Lib.hid (bnext HB2.out hb3)
      have HU3 := Lib.hid (HU2.out.below hb3)
      have HO3 := Lib.hid (HO2.out.below hb3)
      clear hP hb3 HO2 HU2
      go_wp2_with fail
      refine (sAddB _ _ _ _ _ _ _ k _ HU3.out.mat HP3.out.mat (rect_mk _ _ _) (rect_mk _ _ _) n1 n2 n1 n2).mono ?_
      rintro e w4 ⟨a5, cap5, rfl, hN, hb4⟩
      rw [M.bm_step] at hN
      have HN4 := Lib.hid hN
      have HB4 := Lib.hid (bnext HB3.out hb4)
      have HO4 := Lib.hid (HO3.out.below hb4)
      clear hN hb4 HU3 HP3 HO3
      go_wp2_with fail
      refine (sSameM _ _ _ _ _ _ _ _ HN4.out.mat HO4.out.mat (by omega)).mono ?_
      rintro e w5 ⟨rfl, q, rfl⟩
      rw [M.bm_same n2 HSm.out]
      go_wp2
      go_ret2
      exact ⟨_, _, rfl, HO4.out.below (b_draws _ _), below_drewN HB4.out _⟩
end Go.Proofs.YtlofnadpgnbmdaaGreat.V
