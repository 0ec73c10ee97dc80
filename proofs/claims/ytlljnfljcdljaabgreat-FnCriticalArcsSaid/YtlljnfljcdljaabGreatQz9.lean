/- Texts laid together: Rat, Sh2, End1, End2, ShX. -/
import Derived.Test.YtlljnfljcdljaabGreatRows
import Derived.Test.YtlljnfljcdljaabGreatQz2
import Derived.Test.YtlljnfljcdljaabGreatQz7
import Derived.WalkKit
import Derived.ProofKit
import Derived.Deep.QuietTactic
import Derived.BigQuiet
import Derived.Deep.Draws
import Derived.Test.YtlljnfljcdljaabGreatQz4
import Derived.WalkSmall
import Derived.BigRegion
import Derived.Test.YtlljnfljcdljaabGreatQz8
import Derived.Test.YtlljnfljcdljaabGreatQz3
import Derived.Test.YtlljnfljcdljaabGreatQz6
set_option linter.unusedSimpArgs false
set_option linter.unusedVariables false
set_option linter.unusedSectionVars false
namespace Go.Proofs.YtlljnfljcdljaabGreat.V
open Go.RowKit

set_option maxRecDepth 100000 in
set_option maxHeartbeats 400000 in
theorem divisor (a b : Int) (w : World) (a1 : -1000000000000 ≤ a) (a2 : a ≤ 1000000000000) (b1 : -1000000000000 ≤ b) (b2 : b ≤ 1000000000000) :
    Calls Tryz.prog 115 #[.int .i64 a, .int .i64 b] w fun e w' => e = .returned (.int .i64 (Int.gcd a b)) ∧ w = w' := by
  go_enter Tryz.func115, Tryz.ntmps115
  go_wp2
  go_loop [0, 1] (fun p q => ∃ x y : Int, p = .int .i64 x ∧ q = .int .i64 y ∧ Int.gcd x y = Int.gcd a b ∧ -1000000000000 ≤ x ∧ x ≤ 1000000000000 ∧ -1000000000000 ≤ y ∧ y ≤ 1000000000000) (fun p _ => (intOf p).natAbs)
  case atStart => exact ⟨a, b, rfl, rfl, rfl, a1, a2, b1, b2⟩
  case round =>
    obtain ⟨x, y, rfl, rfl, hg, x1, x2, y1, y2⟩ := hrel
    have HG : Hid (Int.gcd x y = Int.gcd a b) := hg
    clear hg
    by_cases hx : x = 0
    · subst hx
      by_cases hy : y < 0
      · go_wp2
        go_ret
        exact ⟨retI (by have := HG.out; rw [← this, M.gcd_zero, if_pos hy]), rfl⟩
      · go_wp2
        go_ret
        exact ⟨retI (by have := HG.out; rw [← this, M.gcd_zero, if_neg (by omega)]), rfl⟩
    · have hx' : (x != 0) = true := by simpa using hx
      have hx'' : (x == 0) = false := by simpa using hx
      have hl := M.tmod_lt x y hx
      have HS : Hid (Int.gcd (y.tmod x) x = Int.gcd a b) := by rw [M.gcd_step]; exact HG.out
      have l1 : -1000000000000 ≤ y.tmod x := by generalize y.tmod x = z at *; omega
      have l2 : y.tmod x ≤ 1000000000000 := by generalize y.tmod x = z at *; omega
      have HL : Hid ((y.tmod x).natAbs < x.natAbs) := hl
      clear hl
      go_wp2
      go_round
      case rel => exact ⟨_, _, rfl, rfl, HS.out, l1, l2, x1, x2⟩
      case measure => exact HL.out

set_option maxRecDepth 100000 in
set_option maxHeartbeats 400000 in
theorem sDivisor (a b : Int) (w : World) (a1 : -1000000000000 ≤ a) (a2 : a ≤ 1000000000000) (b1 : -1000000000000 ≤ b) (b2 : b ≤ 1000000000000) :
    Calls Tryz.prog 105 #[.int .i64 a, .int .i64 b] w fun e w' => e = .returned (.int .i64 (Int.gcd a b)) ∧ ∃ n, w' = w.drewN n := by
  go_enter Tryz.func105, Tryz.ntmps105
  go_wp2
  all_goals
    go_loopw [0, 1] (fun p q wr => ∃ x y : Int, p = .int .i64 x ∧ q = .int .i64 y ∧ Int.gcd x y = Int.gcd a b ∧ 0 ≤ x ∧ x ≤ 1000000000000 ∧ 0 ≤ y ∧ y ≤ 1000000000000 ∧ ∃ n, wr = w.drewN n) (fun _ q _ => (intOf q).natAbs)
    case atStart => exact ⟨_, _, rfl, rfl, by simp, by omega, by omega, by omega, by omega, 0, rfl⟩
    case round =>
      obtain ⟨x, y, rfl, rfl, hg, x1, x2, y1, y2, n, rfl⟩ := hrel
      have HG : Hid (Int.gcd x y = Int.gcd a b) := hg
      clear hg
      by_cases hy : y = 0
      · subst hy
        go_wp2
        go_ret
        exact ⟨retI (by have := HG.out; rw [← this, M.gcd_zero' x x1]), n, rfl⟩
      · have hy' : (y != 0) = true := by simpa using hy
        have hy'' : (y == 0) = false := by simpa using hy
        have hy3 : 0 < y := by omega
        clear hy
        have l1 : 0 ≤ x % y := Int.emod_nonneg _ (by omega)
        have l2 : x % y < y := Int.emod_lt_of_pos _ hy3
        have HS : Hid (Int.gcd y (x % y) = Int.gcd a b) := by show _ = _; rw [M.gcd_step' _ _ x1]; exact HG.out
        go_wp2
        go_quiet (fail)
        go_wp2
        go_roundw
        case rel => exact ⟨_, _, rfl, rfl, HS.out, y1, y2, l1, by omega, _, World.drewN_drewN _ _ _⟩
        case measure => simp [intOf]; omega
end Go.Proofs.YtlljnfljcdljaabGreat.V

namespace Go.Proofs.YtlljnfljcdljaabGreat.V
open Go.RowKit


theorem retR {n d a b : Int} {c : Int} (h : M.mkRat n d = (a, b, c)) : Ending.returned (.tuple #[.agg #[.int .i64 a, .int .i64 b], .int .i64 c]) = .returned (.tuple #[.agg #[.int .i64 (M.mkRat n d).1, .int .i64 (M.mkRat n d).2.1], .int .i64 (M.mkRat n d).2.2]) := by rw [h]

set_option maxRecDepth 100000 in
set_option maxHeartbeats 400000 in
theorem reduced (n d : Int) (w : World) (h0 : d ≠ 0) (h3 : -1000000000000 ≤ n) (h4 : n ≤ 1000000000000) (h5 : -1000000 ≤ d) (h6 : d ≤ 1000000) :
    Calls Tryz.prog 91 #[.int .i64 n, .int .i64 d] w fun e w' => e = .returned (.agg #[.int .i64 (M.ratN n d), .int .i64 (M.ratD n d)]) ∧ Below w.heap.size w w' := by
  have h7 : (d == 0) = false := by simpa using h0
  have hp := M.gcd_pos (x := n) h0
  have hq := M.gcd_le n d h0 h5 h6
  go_enter Tryz.func91, Tryz.ntmps91
  go_wp2_with (first | (go_at_call 115; refine (divisor _ _ _ (by omega) (by omega) (by omega) (by omega)).mono ?_; rintro e w' ⟨rfl, rfl⟩))
  · have hd : d < 0 := by assumption
    have hz : (-(Int.gcd n d : Int) == 0) = false := by simp; omega
    go_region
    go_wp2
    exact bodyPost_ret (v := .agg #[.int .i64 (n.tdiv (-(Int.gcd n d : Int))), .int .i64 (d.tdiv (-(Int.gcd n d : Int)))]) (by simp [results, Tryz.results91, go_sem]; exact ⟨wneg _ _ h3 h4, wneg _ _ (by omega) (by omega)⟩) rfl ⟨by rw [M.ratN_neg hd, M.ratD_neg hd], (b_alloc _ _).drew⟩
  · have hd : ¬ d < 0 := by omega
    have hz : ((Int.gcd n d : Int) == 0) = false := by simp; omega
    go_region
    go_wp2
    exact bodyPost_ret (v := .agg #[.int .i64 (n.tdiv (Int.gcd n d : Int)), .int .i64 (d.tdiv (Int.gcd n d : Int))]) (by simp [results, Tryz.results91, go_sem]; exact (Int.tdiv_eq_ediv_of_nonneg (by omega)).symm) rfl ⟨by rw [M.ratN_pos (by omega), M.ratD_pos (by omega)], (b_alloc _ _).drew⟩

end Go.Proofs.YtlljnfljcdljaabGreat.V

namespace Go.Proofs.YtlljnfljcdljaabGreat.V
open Go.RowKit

set_option maxRecDepth 100000 in
set_option maxHeartbeats 400000 in
theorem sRatio (n d : Int) (w : World) (h0 : d ≠ 0) (h3 : -1000000000000 ≤ n) (h4 : n ≤ 1000000000000) (h5 : -1000000 ≤ d) (h6 : d ≤ 1000000) :
    Calls Tryz.prog 76 #[.int .i64 n, .int .i64 d] w fun e w' => e = .returned (.agg #[.int .i64 (M.ratN n d), .int .i64 (M.ratD n d)]) ∧ Below w.heap.size w w' := by
  have h7 : (d == 0) = false := by simpa using h0
  have hp := M.gcd_pos (x := n) h0
  have hq := M.gcd_le n d h0 h5 h6
  have hz : ((Int.gcd n d : Int) == 0) = false := by simp; omega
  clear h0
  by_cases hd : d < 0
  · go_enter Tryz.func76, Tryz.ntmps76
    go_wp2_with (first | (go_at_call 105; refine (sDivisor _ _ _ (by omega) (by omega) (by omega) (by omega)).mono ?_; rintro e w' ⟨rfl, nq, rfl⟩))
    go_region
    go_wp2
    exact bodyPost_ret (v := .agg #[.int .i64 ((-n).tdiv (Int.gcd n d)), .int .i64 ((-d).tdiv (Int.gcd n d))]) (by simp [results, Tryz.results76, go_sem]; exact ⟨wneg _ _ h3 h4, wneg _ _ (by omega) (by omega)⟩) rfl ⟨by rw [M.ratN, M.ratD, if_pos hd, if_pos hd], b_ads _ _ _ _ _ _ _⟩
  · go_enter Tryz.func76, Tryz.ntmps76
    go_wp2_with (first | (go_at_call 105; refine (sDivisor _ _ _ (by omega) (by omega) (by omega) (by omega)).mono ?_; rintro e w' ⟨rfl, nq, rfl⟩))
    have hd' : 0 ≤ d := by omega
    go_region
    go_wp2
    exact bodyPost_ret (v := .agg #[.int .i64 (n.tdiv (Int.gcd n d)), .int .i64 (d.tdiv (Int.gcd n d))]) (by simp [results, Tryz.results76, go_sem]; exact (Int.tdiv_eq_ediv_of_nonneg hd').symm) rfl ⟨by rw [M.ratN, M.ratD, if_neg (by omega), if_neg (by omega)], b_ads _ _ _ _ _ _ _⟩

set_option maxRecDepth 100000 in
set_option maxHeartbeats 400000 in
theorem cmpInt (x y : Int) (w : World) :
    Calls Tryz.prog 63 #[.int .i64 x, .int .i64 y] w fun e w' => e = .returned (.int .i64 (M.cmpZ x y)) ∧ w = w' := by
  go_enter Tryz.func63, Tryz.ntmps63
  go_wp2
  all_goals
    go_ret
    exact ⟨retI (by unfold M.cmpZ; split <;> (try split) <;> omega), rfl⟩

set_option maxRecDepth 100000 in
set_option maxHeartbeats 400000 in
theorem compareM (a b c d : Int) (w : World) (p1 : -1000000000000000 ≤ a * d) (p2 : a * d ≤ 1000000000000000) (q1 : -1000000000000000 ≤ c * b) (q2 : c * b ≤ 1000000000000000) :
    Calls Tryz.prog 94 #[.agg #[.int .i64 a, .int .i64 b], .agg #[.int .i64 c, .int .i64 d]] w fun e w' => e = .returned (.int .i64 (M.cmpZ (a * d) (c * b))) ∧ Below w.heap.size w w' := by
  have e1 : IntKind.i64.wrap (a * d) = a * d := IntWalk.i64_in _ (by omega)
  have e2 : IntKind.i64.wrap (c * b) = c * b := IntWalk.i64_in _ (by omega)
  go_enter Tryz.func94, Tryz.ntmps94
  go_wp2_with fail
  refine (cmpInt _ _ _).mono ?_
  rintro e w3 ⟨rfl, rfl⟩
  go_wp2
  go_ret
  exact ⟨rfl, b_alloc2 _ _ _⟩

end Go.Proofs.YtlljnfljcdljaabGreat.V

namespace Go.Proofs.YtlljnfljcdljaabGreat
namespace M
/-- A matrix that is being written: the entries before i, j are the new ones. -/
def midG (f g : Nat → Nat → Int) (i j s t : Nat) : Int := if s < i ∨ (s = i ∧ t < j) then f s t else g s t
theorem midG_next (f g : Nat → Nat → Int) (n i j : Nat) (hi : i < n) :
    (mk n n (midG f g i j)).set i (((mk n n (midG f g i j)).getD i []).set j (f i j)) = mk n n (midG f g i (j + 1)) := by
  rw [mk_set _ _ _ _ _ _ hi]
  refine mk_congr fun s _ t _ => ?_
  unfold midG
  by_cases e : s = i
  · subst e
    rw [if_pos rfl]
    by_cases e2 : t = j
    · subst e2; rw [if_pos rfl, if_pos (by omega)]
    · rw [if_neg e2]
      by_cases e3 : t < j
      · rw [if_pos (by omega), if_pos (by omega)]
      · rw [if_neg (by omega), if_neg (by omega)]
  · rw [if_neg e]
    by_cases e3 : s < i
    · rw [if_pos (by omega), if_pos (by omega)]
    · rw [if_neg (by omega), if_neg (by omega)]
/-- An entry that stays. -/
theorem midG_same (f g : Nat → Nat → Int) (n i j : Nat) (h : f i j = g i j) : mk n n (midG f g i j) = mk n n (midG f g i (j + 1)) :=
  mk_congr fun s _ t _ => by
    unfold midG
    by_cases e : s < i ∨ (s = i ∧ t < j)
    · rw [if_pos e, if_pos (by omega)]
    · by_cases e2 : s = i ∧ t = j
      · obtain ⟨rfl, rfl⟩ := e2
        rw [if_neg e, if_pos (by omega), h]
      · rw [if_neg e, if_neg (by omega)]
theorem midG_row_end (f g : Nat → Nat → Int) (n i : Nat) : mk n n (midG f g i n) = mk n n (midG f g (i + 1) 0) :=
  mk_congr fun s _ t ht => by
    unfold midG
    by_cases e : s < i ∨ (s = i ∧ t < n)
    · rw [if_pos e, if_pos (by omega)]
    · rw [if_neg e, if_neg (by omega)]
theorem midG_zero (f g : Nat → Nat → Int) (n : Nat) : mk n n (midG f g 0 0) = mk n n g :=
  mk_congr fun s _ t _ => by unfold midG; rw [if_neg (by omega)]
theorem midG_end (f g : Nat → Nat → Int) (n : Nat) : mk n n (midG f g n 0) = mk n n f :=
  mk_congr fun s hs t _ => by unfold midG; rw [if_pos (by omega)]
theorem midG_at (f g : Nat → Nat → Int) (i j : Nat) : midG f g i j i j = g i j := by unfold midG; rw [if_neg (by omega)]
end M
namespace V
open Go.RowKit
abbrev rbox (a b : Int) : Obj := .cells #[.int .i64 a, .int .i64 b] 68
/-- The row's own block is not that of the rows. -/
theorem row_ne {w : World} {g q : Nat} {t : Nat} {x : Int} {a : Option Addr} {n c : Nat} (h1 : w.cell? ⟨q, t, none⟩ = some (.int .i64 x)) (h2 : w.cell? ⟨g, t, none⟩ = some (.slice a n c)) : q ≠ g := by
  rintro rfl
  rw [h1] at h2
  cases h2
set_option maxRecDepth 100000 in
set_option maxHeartbeats 4000000 in
theorem shiftedBy (a : Option Addr) (n cap : Nat) (R : List (List Int)) (num den : Int) (w0 : World) (h : Mat w0 a n R) (hr : Rect R n n) (n1 : 1 ≤ n) (n2 : n ≤ 10) (hs : ∀ i j, i < n → j < n → M.Sm 1000000 (M.ent R i j)) (hab : M.Near num den) :
    Calls Tryz.prog 88 #[.slice a n cap, .agg #[.int .i64 num, .int .i64 den]] w0 (MPost n (M.mk n n (M.shf (M.ent R) num den)) w0) := by
  obtain ⟨w, hwd⟩ : ∃ w, w = w0.alloc (rbox num den) := ⟨_, rfl⟩
  have HW0 : Hid (Below w0.heap.size w0 w) := by rw [hwd]; exact b_alloc _ _
  have HA : Hid (Mat w a n R) := h.below HW0.out
  have HR := Lib.hid hr
  have HS := Lib.hid hs
  have HN := Lib.hid hab
  have hLx : w.heap.size = w0.heap.size + 1 := by rw [hwd]; simp
  have HC0 : Hid (w.cell? ⟨w0.heap.size, 0, none⟩ = some (.int .i64 num)) := by show _ = _; rw [hwd]; simp
  have HC1 : Hid (w.cell? ⟨w0.heap.size, 1, none⟩ = some (.int .i64 den)) := by show _ = _; rw [hwd]; simp
  have HRe : Hid (M.mk n n (M.midG (M.shf (M.ent R) num den) (M.ent R) 0 0) = R) := by
    show _ = _
    rw [M.midG_zero]
    have e := M.mk_self R n (fun i hi => hr.2 i (by rw [← hr.1]; exact hi))
    rw [hr.1] at e
    exact e
  clear h hr hs hab
  go_enter Tryz.func88, Tryz.ntmps88
  go_wp2_with fail
  simp only [← hwd] at *
  obtain ⟨Lx, hLxd⟩ : ∃ Lx, Lx = w0.heap.size := ⟨_, rfl⟩
  rw [← hLxd] at hLx HC0 HC1 ⊢
  clear hwd
  refine (copiedMatrix _ _ _ R n _ HA.out HR.out n1 n2 n1 n2).mono ?_
  rintro e w2 ⟨a2, cap2, rfl, hO, hb⟩
  rw [← HRe.out] at hO
  obtain ⟨g, -, -, -, -, rfl, -⟩ := hO.tri (rect_mk _ _ _) 0 0 0 (by omega) (by omega) (by omega)
  have HO0 := Lib.hid hO
  have HB0 := Lib.hid hb
  clear hO hb
  have HX : Hid (∀ wr, Below w.heap.size w wr → wr.cell? ⟨Lx, 0, none⟩ = some (.int .i64 num) ∧ wr.cell? ⟨Lx, 1, none⟩ = some (.int .i64 den)) := fun wr hb =>
    ⟨(hb.cell (p := ⟨Lx, 0, none⟩) (by show Lx < _; omega)).trans HC0.out, (hb.cell (p := ⟨Lx, 1, none⟩) (by show Lx < _; omega)).trans HC1.out⟩
  clear hLxd
  go_wp2
  go_loopw [7, 14] (fun _ i wr => ∃ s : Nat, s ≤ n ∧ i = .int .i64 s ∧ OwnM wr w.heap.size (.slice (some ⟨g, 0, none⟩) n cap2) (M.mk n n (M.midG (M.shf (M.ent R) num den) (M.ent R) s 0)) ∧ Below w.heap.size w wr) (fun _ i _ => n - (intOf i).toNat)
  case atStart => exact ⟨0, Nat.zero_le _, rfl, HO0.out, HB0.out⟩
  case round =>
    obtain ⟨s, hs, rfl, hO, hb⟩ := hrel
    obtain ⟨wp, rfl⟩ : ∃ x, x = wr := ⟨_, rfl⟩
    have HOs := Lib.hid hO
    have HBs := Lib.hid hb
    clear hO hb HO0 HB0
    by_cases hsl : s < n
    · have hsi : (s : Int) < (n : Int) := by omega
      obtain ⟨g2, q, c, -, -, hgg, -, hrow, -⟩ := HOs.out.tri (rect_mk _ _ _) s 0 0 hsl (by omega) (by omega)
      injection hgg with hgg
      injection hgg with hgg
      subst hgg
      have HRow := Lib.hid hrow
      go_wp2
      clear hrow
      go_loopw [8, 9, 20] (fun _ _ j wr => ∃ t : Nat, t ≤ n ∧ j = .int .i64 t ∧ wr.cell? ⟨g, s, none⟩ = some (.slice (some ⟨q, 0, none⟩) n c) ∧ OwnM wr w.heap.size (.slice (some ⟨g, 0, none⟩) n cap2) (M.mk n n (M.midG (M.shf (M.ent R) num den) (M.ent R) s t)) ∧ Below w.heap.size w wr) (fun _ _ j _ => n - (intOf j).toNat)
      case atStart => exact ⟨0, Nat.zero_le _, rfl, HRow.out, HOs.out, HBs.out⟩
      case round =>
        obtain ⟨t, ht, rfl, hrow, hO, hb⟩ := hrel
        have HOt := Lib.hid hO
        have HBt := Lib.hid hb
        have HRt := Lib.hid hrow
        clear hO hb HOs HBs hrow HRow
        by_cases htl : t < n
        · have hti : (t : Int) < (n : Int) := by omega
          obtain ⟨g2, q2, c2, q', c', hgg, hq, h1, h2, -, h4, -, h6, ho⟩ := HOt.out.tri (rect_mk _ _ _) s t t hsl htl htl
          injection hgg with hgg
          injection hgg with hgg
          subst hgg
          rw [HRt.out] at h1
          injection h1 with h1
          injection h1 with h1 _ h1c
          injection h1 with h1
          injection h1 with h1
          subst h1
          rw [M.ent_mk _ _ _ _ _ hsl htl, M.midG_at] at h2
          have hne := row_ne h2 h4
          obtain ⟨x, hx⟩ : ∃ x, x = M.ent R s t := ⟨_, rfl⟩
          rw [← hx] at h2
          obtain ⟨p0, p1⟩ := HX.out _ HBt.out
          by_cases hxb : x = -1000000000000000
          · have e : M.shf (M.ent R) num den s t = M.ent R s t := by unfold M.shf; rw [if_pos (by rw [← hx]; exact hxb), ← hx, hxb]
            have HO3 : Hid (OwnM wr w.heap.size (.slice (some ⟨g, 0, none⟩) n cap2) (M.mk n n (M.midG (M.shf (M.ent R) num den) (M.ent R) s (t + 1)))) := by
              show OwnM _ _ _ _; rw [← M.midG_same _ _ _ _ _ e]; exact HOt.out
            clear ho hx e h4 h6
            subst hxb
            go_wp2
            go_roundw
            case rel => exact ⟨t + 1, by omega, by go_num, HRt.out, HO3.out, HBt.out⟩
            case measure => simp [intOf]; omega
          · obtain ⟨s1, s2, s3⟩ := M.shf_fin HN.out (HS.out s t hsl htl) (by rw [← hx]; exact hxb)
            rw [← hx] at s1 s2 s3
            have hN := ho (den * x - num)
            rw [← s1, M.midG_next _ _ _ _ _ hsl, s1] at hN
            have HNn := Lib.hid hN
            obtain ⟨n1', n2', n3'⟩ := HN.out
            have hxs : -1000000 ≤ x ∧ x ≤ 1000000 := by have := HS.out s t hsl htl; rw [← hx] at this; unfold M.Sm at this; omega
            have pa := Int.mul_le_mul_of_nonneg_left hxs.2 (show (0 : Int) ≤ den by omega)
            have pb := Int.mul_le_mul_of_nonneg_left hxs.1 (show (0 : Int) ≤ den by omega)
            have e1 : IntKind.i64.wrap (den * x) = den * x := IntWalk.i64_in _ (by omega)
            have e2 : IntKind.i64.wrap (den * x - num) = den * x - num := IntWalk.i64_in _ (by omega)
            have hxn : (x == -1000000000000000) = false := by simpa using hxb
            have hkeep : (wr.setCell ⟨q, t, none⟩ (.int .i64 (den * x - num))).cell? ⟨g, s, none⟩ = some (.slice (some ⟨q, 0, none⟩) n c) := by
              rw [World.cell?_of_block (w := wr) (a := ⟨g, s, none⟩) (Below.heap_setCell wr ⟨q, t, none⟩ _ g (Ne.symm hne))]; exact HRt.out
            have HKeep := Lib.hid hkeep
            clear hN ho hx s1 s2 s3 hxs pa pb hkeep h4 n1' n2' n3'
            go_wp2
            go_roundw
            case rel => exact ⟨t + 1, by omega, by go_num, HKeep.out, HNn.out, HBt.out.setCell hq _⟩
            case measure => simp [intOf]; omega
        · obtain rfl : t = n := by omega
          have HO3 : Hid (OwnM wr w.heap.size (.slice (some ⟨g, 0, none⟩) t cap2) (M.mk t t (M.midG (M.shf (M.ent R) num den) (M.ent R) (s + 1) 0))) := by
            show OwnM _ _ _ _; rw [← M.midG_row_end]; exact HOt.out
          clear HOt
          go_wp2
          go_roundw
          case rel => exact ⟨s + 1, by omega, by go_num, HO3.out, HBt.out⟩
          case measure => simp [intOf]; omega
    · obtain rfl : s = n := by omega
      have HO3 : Hid (OwnM wp w.heap.size (.slice (some ⟨g, 0, none⟩) s cap2) (M.mk s s (M.shf (M.ent R) num den))) := by
        show OwnM _ _ _ _; rw [← M.midG_end]; exact HOs.out
      clear HOs
      go_wp2
      go_ret
      exact ⟨_, _, rfl, HO3.out.mono HW0.out.size, HW0.out.trans (HBs.out.mono HW0.out.size)⟩
end V
end Go.Proofs.YtlljnfljcdljaabGreat

namespace Go.Proofs.YtlljnfljcdljaabGreat.V
open Go.RowKit
/-- A boxed ratio and what becomes of it. -/
structure Boxed (w0 w : World) (num den : Int) : Prop where
  below : Below w0.heap.size w0 w
  size : w.heap.size = w0.heap.size + 1
  c0 : w.cell? ⟨w0.heap.size, 0, none⟩ = some (.int .i64 num)
  c1 : w.cell? ⟨w0.heap.size, 1, none⟩ = some (.int .i64 den)
theorem boxed (w0 : World) (num den : Int) : Boxed w0 (w0.alloc (rbox num den)) num den := ⟨b_alloc _ _, by simp, by simp, by simp⟩
theorem Boxed.cells {w0 w wr : World} {num den : Int} (h : Boxed w0 w num den) (hb : Below w.heap.size w wr) : wr.cell? ⟨w0.heap.size, 0, none⟩ = some (.int .i64 num) ∧ wr.cell? ⟨w0.heap.size, 1, none⟩ = some (.int .i64 den) := by
  have := h.size
  exact ⟨(hb.cell (p := ⟨w0.heap.size, 0, none⟩) (by show w0.heap.size < _; omega)).trans h.c0, (hb.cell (p := ⟨w0.heap.size, 1, none⟩) (by show w0.heap.size < _; omega)).trans h.c1⟩
theorem Boxed.trans {w0 w wr : World} {num den : Int} (h : Boxed w0 w num den) (hb : Below w.heap.size w wr) : Below w0.heap.size w0 wr := h.below.trans (hb.mono h.below.size)
theorem sq_parts {w : World} {a : Option Addr} {n : Nat} {R : List (List Int)} (h : Mat w a n R) (hs : M.sqB R = true) : Rect R n n ∧ 1 ≤ n ∧ n ≤ 10 ∧ ∀ i j, i < n → j < n → M.Sm 1000000 (M.ent R i j) := by
  have hq := sq_of h hs
  have e := (M.sq_sm hs).2.2
  rw [h.1] at e
  exact ⟨hq.2.1, hq.2.2.2.1, hq.2.2.2.2, e⟩
set_option maxRecDepth 100000 in
set_option maxHeartbeats 4000000 in
theorem sShift (a : Option Addr) (n cap : Nat) (R : List (List Int)) (num den : Int) (w0 : World) (h : Mat w0 a n R) (hr : Rect R n n) (n1 : 1 ≤ n) (n2 : n ≤ 10) (hs : ∀ i j, i < n → j < n → M.Sm 1000000 (M.ent R i j)) (hab : M.Near num den) :
    Calls Tryz.prog 53 #[.slice a n cap, .agg #[.int .i64 num, .int .i64 den]] w0 (MPost n (M.mk n n (M.shf (M.ent R) num den)) w0) := by
  obtain ⟨w, hwd⟩ : ∃ w, w = w0.alloc (rbox num den) := ⟨_, rfl⟩
  have HX : Hid (Boxed w0 w num den) := by show Boxed _ _ _ _; rw [hwd]; exact boxed _ _ _
  have HA : Hid (Mat w a n R) := h.below HX.out.below
  have hz := HX.out.size
  have HR := Lib.hid hr
  have HS := Lib.hid hs
  have HN := Lib.hid hab
  have HRe : Hid (M.mk n n (M.midG (M.shf (M.ent R) num den) (M.ent R) 0 0) = R) := by
    show _ = _
    rw [M.midG_zero]
    have e := M.mk_self R n (fun i hi => hr.2 i (by rw [← hr.1]; exact hi))
    rw [hr.1] at e
    exact e
  obtain ⟨b, off, -, -, rfl, -, -⟩ := HA.out.rect_first hr (by omega)
  clear h hr hs hab
  go_enter Tryz.func53, Tryz.ntmps53
  go_wp2_with fail
  simp only [← hwd] at *
  clear hwd
  refine (sOwnM _ _ _ R _ HA.out (by omega) (fun i hi => by rw [HR.out.2 i hi]; omega)).mono ?_
  rintro e w2 ⟨a2, cap2, rfl, hO, hb⟩
  rw [← HRe.out] at hO
  obtain ⟨g, -, -, -, -, rfl, -⟩ := hO.tri (rect_mk _ _ _) 0 0 0 (by omega) (by omega) (by omega)
  have HO0 := Lib.hid hO
  have HB0 := Lib.hid hb
  clear hO hb
  go_wp2
  go_loopw [6] (fun i wr => ∃ s : Nat, s ≤ n ∧ i = .int .i64 s ∧ OwnM wr w.heap.size (.slice (some ⟨g, 0, none⟩) n cap2) (M.mk n n (M.midG (M.shf (M.ent R) num den) (M.ent R) s 0)) ∧ Below w.heap.size w wr) (fun i _ => n - (intOf i).toNat)
  case atStart => exact ⟨0, Nat.zero_le _, rfl, HO0.out, HB0.out⟩
  case round =>
    obtain ⟨s, hs, rfl, hO, hb⟩ := hrel
    obtain ⟨wp, rfl⟩ : ∃ x, x = wr := ⟨_, rfl⟩
    have HOs := Lib.hid hO
    have HBs := Lib.hid hb
    clear hO hb HO0 HB0
    by_cases hsl : s < n
    · have hsi : (s : Int) < (n : Int) := by omega
      go_wp2
      go_loopw [7] (fun j wr => ∃ t : Nat, t ≤ n ∧ j = .int .i64 t ∧ OwnM wr w.heap.size (.slice (some ⟨g, 0, none⟩) n cap2) (M.mk n n (M.midG (M.shf (M.ent R) num den) (M.ent R) s t)) ∧ Below w.heap.size w wr) (fun j _ => n - (intOf j).toNat)
      case atStart => exact ⟨0, Nat.zero_le _, rfl, HOs.out, HBs.out⟩
      case round =>
        obtain ⟨t, ht, rfl, hO, hb⟩ := hrel
        have HOt := Lib.hid hO
        have HBt := Lib.hid hb
        clear hO hb HOs HBs
        by_cases htl : t < n
        · have hti : (t : Int) < (n : Int) := by omega
          obtain ⟨g2, q, c, q', c', hgg, hq, h1, h2, -, -, -, h6, ho⟩ := HOt.out.tri (rect_mk _ _ _) s t t hsl htl htl
          injection hgg with hgg
          injection hgg with hgg
          subst hgg
          obtain ⟨d, od, rd, ro, c4, x, hdd, hx, c41, c42⟩ := (HA.out.below HBt.out).rect_ent HR.out s t hsl htl
          injection hdd with hdd
          injection hdd with e1 e2
          subst e1 e2
          obtain ⟨p0, p1⟩ := HX.out.cells HBt.out
          by_cases hxb : x = -1000000000000000
          · have e : M.shf (M.ent R) num den s t = M.ent R s t := by unfold M.shf; rw [if_pos (by rw [← hx]; exact hxb), ← hx, hxb]
            have HO3 : Hid (OwnM wr w.heap.size (.slice (some ⟨g, 0, none⟩) n cap2) (M.mk n n (M.midG (M.shf (M.ent R) num den) (M.ent R) s (t + 1)))) := by
              show OwnM _ _ _ _; rw [← M.midG_same _ _ _ _ _ e]; exact HOt.out
            clear ho hx e h1 h2 h6
            subst hxb
            go_wp2
            go_roundw
            case rel => exact ⟨t + 1, by omega, by go_num, HO3.out, HBt.out⟩
            case measure => simp [intOf]; omega
          · obtain ⟨s1, s2, s3⟩ := M.shf_fin HN.out (HS.out s t hsl htl) (by rw [← hx]; exact hxb)
            rw [← hx] at s1 s2 s3
            have hN := ho (den * x - num)
            rw [← s1, M.midG_next _ _ _ _ _ hsl, s1] at hN
            have HNn := Lib.hid hN
            obtain ⟨n1', n2', n3'⟩ := HN.out
            have hxs : -1000000 ≤ x ∧ x ≤ 1000000 := by have := HS.out s t hsl htl; rw [← hx] at this; unfold M.Sm at this; omega
            have pa := Int.mul_le_mul_of_nonneg_left hxs.2 (show (0 : Int) ≤ den by omega)
            have pb := Int.mul_le_mul_of_nonneg_left hxs.1 (show (0 : Int) ≤ den by omega)
            have e1 : IntKind.i64.wrap (den * x) = den * x := IntWalk.i64_in _ (by omega)
            have e2 : IntKind.i64.wrap (den * x - num) = den * x - num := IntWalk.i64_in _ (by omega)
            have hxn : (x == -1000000000000000) = false := by simpa using hxb
            clear hN ho hx s1 s2 s3 hxs pa pb n1' n2' n3'
            go_wp2
            go_still_tail 19, (by kernel_rfl)
            repeat still_step
            try refine wpStill_nil ?_
            change wpList _ _ _ _ _ wr.drew
            go_wp2
            go_roundw
            case rel => exact ⟨t + 1, by omega, by go_num, HNn.out.keep (fun _ _ _ => rfl), HBt.out.drew.setCell hq _⟩
            case measure => simp [intOf]; omega
        · obtain rfl : t = n := by omega
          have HO3 : Hid (OwnM wr w.heap.size (.slice (some ⟨g, 0, none⟩) t cap2) (M.mk t t (M.midG (M.shf (M.ent R) num den) (M.ent R) (s + 1) 0))) := by
            show OwnM _ _ _ _; rw [← M.midG_row_end]; exact HOt.out
          clear HOt
          go_wp2
          go_roundw
          case rel => exact ⟨s + 1, by omega, by go_num, HO3.out, HBt.out⟩
          case measure => simp [intOf]; omega
    · obtain rfl : s = n := by omega
      have HO3 : Hid (OwnM wp w.heap.size (.slice (some ⟨g, 0, none⟩) s cap2) (M.mk s s (M.shf (M.ent R) num den))) := by
        show OwnM _ _ _ _; rw [← M.midG_end]; exact HOs.out
      clear HOs
      go_wp2
      go_ret
      exact ⟨_, _, rfl, HO3.out.mono HX.out.below.size, HX.out.trans HBs.out⟩
end Go.Proofs.YtlljnfljcdljaabGreat.V

namespace Go.Proofs.YtlljnfljcdljaabGreat.V
open Go.RowKit
/-- One row of an owned matrix, as a list of its own. -/
theorem OwnM.rowOf {w : World} {B n cap : Nat} {a : Option Addr} {R : List (List Int)} (h : OwnM w B (.slice a n cap) R) (i : Nat) (hi : i < n) :
    ∃ g ra rc, a = some ⟨g, 0, none⟩ ∧ w.cell? ⟨g, i, none⟩ = some (.slice ra (R.getD i []).length rc) ∧ Own w B (.slice ra (R.getD i []).length rc) (R.getD i []) := by
  have hl := h.len
  obtain ⟨V, h1, h2, h3, h4, h5⟩ := h
  obtain ⟨a', c', hv, hc, hm, hg⟩ := own_form h2
  injection hv with e1 e2 e3
  subst e1 e2 e3
  obtain ⟨g, rfl, hB, hlt⟩ := hg (by omega)
  have hr := h3 i (by omega)
  obtain ⟨ra, rc, hrv, _⟩ := own_form hr
  rw [hrv] at hr
  refine ⟨g, ra, rc, rfl, ?_, hr⟩
  rw [World.ownsRow.cellAt h2 i (by omega), ← hrv]
  simp [show i < V.length by omega]
theorem ownM_first (w : World) (B : Nat) (hB : B ≤ w.heap.size) {rv : Value} {l : List Int} (ho : Own w B rv l) : OwnM (w.alloc (.cells #[rv] 32)) B (.slice (some ⟨w.heap.size, 0, none⟩) 1 1) [l] := by
  refine ⟨[rv], rfl, World.ownsRow_lit w #[rv] 1 hB (by decide) rfl, fun i hi => ?_, fun i hi k hk => ?_, fun i j hi hj hne => ?_⟩
  · obtain rfl : i = 0 := by simp at hi; omega
    exact ho.below (b_alloc w _)
  · obtain rfl : i = 0 := by simp at hi; omega
    have := (own_lt ho hk).2
    intro e
    simp only [Value.ownBlock, Option.some.injEq] at e
    omega
  · simp at hi hj; omega
/-- The greatest weights of paths with so many arcs. -/
def M.fkL (A : Nat → Nat → Int) (n k : Nat) : List Int := (List.range n).map (M.Fk A n k)
theorem M.fkL_len (A : Nat → Nat → Int) (n k : Nat) : (M.fkL A n k).length = n := by unfold M.fkL; simp
theorem M.fkL_at (A : Nat → Nat → Int) (n k v : Nat) (hv : v < n) : (M.fkL A n k).getD v 0 = M.Fk A n k v := by unfold M.fkL; simp [hv]
def M.endM (A : Nat → Nat → Int) (n k : Nat) : List (List Int) := M.mk k n fun s j => M.Fk A n s j
theorem M.end_row (A : Nat → Nat → Int) (n k s : Nat) (h : s < k) : (M.endM A n k).getD s [] = M.fkL A n s := M.mk_row _ _ _ _ h
theorem M.end_next {R : List (List Int)} {n : Nat} (h : R.length = n) (k : Nat) : M.applyM R (M.fkL (M.ent R) n k) = M.fkL (M.ent R) n (k + 1) := by
  unfold M.applyM
  rw [h, M.fkL_len]
  show _ = (List.range n).map (M.Fk (M.ent R) n (k + 1))
  refine List.map_congr_left fun i hi => ?_
  unfold M.dotV
  show _ = M.sumN n fun u => M.times (M.ent R i u) (M.Fk (M.ent R) n k u)
  refine M.sumN_congr fun u hu => ?_
  rw [M.fkL_at _ _ _ _ hu]

set_option maxRecDepth 100000 in
set_option maxHeartbeats 1000000 in
theorem endWeights (a : Option Addr) (n cap : Nat) (R : List (List Int)) (w : World) (h : Sq w a n R) (hA : ∀ i j, i < n → j < n → M.Sm 1000000 (M.ent R i j)) :
    Calls Tryz.prog 87 #[.slice a n cap] w (MPost (n + 1) (M.endM (M.ent R) n (n + 1)) w) := by
  have HS := Lib.hid h
  have HA := Lib.hid hA
  have HL := Lib.hid h.1.1
  have HRB : Hid (∀ i j, i < n → j < n → M.Big (M.ent R i j)) := fun i j hi hj => M.big_sm (hA i j hi hj) (by omega)
  obtain ⟨n1, n2⟩ := h.2.2.2
  clear h hA
  have HO0 : Hid (Own (w.alloc (.cells (madeCells #[.int .i64 0] n) 2)) w.heap.size (.slice (some ⟨w.heap.size, 0, none⟩) n n) (M.fkL (M.ent R) n 0)) := own_made w _ n (Nat.le_refl _) (by unfold maxLen; omega)
  have HB0 : Hid (Below w.heap.size w (w.alloc (.cells (madeCells #[.int .i64 0] n) 2))) := b_alloc _ _
  obtain ⟨wa, hwa⟩ : ∃ wa, wa = w.alloc (.cells (madeCells #[.int .i64 0] n) 2) := ⟨_, rfl⟩
  rw [← hwa] at HO0 HB0
  have HO1 : Hid (OwnM (wa.alloc (.cells #[.slice (some ⟨w.heap.size, 0, none⟩) n n] 32)) w.heap.size (.slice (some ⟨wa.heap.size, 0, none⟩) 1 1) (M.endM (M.ent R) n 1)) := ownM_first wa _ HB0.out.size HO0.out
  have HB1 : Hid (Below w.heap.size w (wa.alloc (.cells #[.slice (some ⟨w.heap.size, 0, none⟩) n n] 32))) := HB0.out.alloc HB0.out.size _
  have HI1 : Hid (Ints .i64 (wa.alloc (.cells #[.slice (some ⟨w.heap.size, 0, none⟩) n n] 32)) (some ⟨w.heap.size, 0, none⟩) n (M.fkL (M.ent R) n 0)) := (HO0.out.below (b_alloc wa _)).ints'
  have hmk := run_make_row' (P := Tryz.prog) 32 2 (.int .i64 0) 8 Tryz.underlying32 info64 rfl .i64 .i64 n (by omega) (by omega)
  clear HO0 HB0
  subst hwa
  go_enter Tryz.func87, Tryz.ntmps87
  go_wp2
  clear hmk
  go_loopw [3, 4, 12] (fun ends table i wr => ∃ (k : Nat) (b : Option Addr) (c : Nat) (ra : Option Addr) (rc : Nat), k ≤ n ∧ i = .int .i64 k ∧ table = .slice b (k + 1) c ∧ ends = .slice ra n rc ∧ OwnM wr w.heap.size (.slice b (k + 1) c) (M.endM (M.ent R) n (k + 1)) ∧ Ints .i64 wr ra n (M.fkL (M.ent R) n k) ∧ Below w.heap.size w wr) (fun _ _ i _ => n - (intOf i).toNat)
  case atStart => exact ⟨0, _, _, _, _, Nat.zero_le _, rfl, rfl, rfl, by simpa using HO1.out, HI1.out, HB1.out⟩
  case round =>
    obtain ⟨k, b, c, ra, rc, hk, rfl, rfl, rfl, hO, hI, hb⟩ := hrel
    obtain ⟨wo, rfl⟩ : ∃ x, x = wr := ⟨_, rfl⟩
    have HO := Lib.hid hO
    have HI := Lib.hid hI
    have HB := Lib.hid hb
    have hzo : w.heap.size ≤ wo.heap.size := hb.size
    clear hO hI hb HO1 HI1 HB1
    by_cases hlt : k < n
    · have hki : (k : Int) < (n : Int) := by omega
      have HLB : Hid (∀ i, i < n → M.Big ((M.fkL (M.ent R) n k).getD i 0)) := fun i hi => by
        rw [M.fkL_at _ _ _ _ hi]
        exact M.big_sm (M.Fk_sm HA.out k i hi) (by omega)
      go_wp2_with fail
      refine (timesColumn _ _ _ R _ _ _ _ _ (HS.out.1.below HB.out) HI.out HS.out.2.1 HRB.out HLB.out n1 n2 n1 n2).mono ?_
      rintro e w3 ⟨b3, c3, rfl, ho3, hb3⟩
      rw [M.end_next HL.out] at ho3
      have HR3 := Lib.hid ho3
      have HB3 := Lib.hid hb3
      have hz3 : wo.heap.size ≤ w3.heap.size := hb3.size
      obtain ⟨g, ra0, rc0, rfl, -, -⟩ := HO.out.rowOf 0 (by omega)
      have hg : g < wo.heap.size := HO.out.lt rfl
      have hml : (M.endM (M.ent R) n (k + 1)).length = k + 1 := M.mk_length _ _ _
      have HML := Lib.hid hml
      have HAS : Hid (M.endM (M.ent R) n (k + 1) ++ [M.fkL (M.ent R) n (k + 1)] = M.endM (M.ent R) n (k + 1 + 1)) := (M.mk_snoc _ _ _).symm
      clear ho3 hb3 hml
      go_wp2_with (at_builtin; refine appendRow wo _ rfl (.tmp 17) (.tmp 19) rfl w.heap.size _ _ _ _ (k + 1) HML.out rfl HO.out HB3.out HR3.out rfl (by rw [HML.out]; omega) hzo ?_)
      intro b4 c4 w4 hO4 hb4 hkeep
      rw [HAS.out] at hO4
      have HO4 := Lib.hid hO4
      have HI4 := Lib.hid (HR3.out.keep (w' := w4) (fun q h1 h2 => hkeep q h2 (by intro e; simp only [Value.ownBlock, Option.some.injEq] at e; omega))).ints'
      have HB4 := Lib.hid ((HB.out.trans (HB3.out.mono hzo)).trans hb4)
      clear hO4 hb4 hkeep
      go_wp2
      go_roundw
      case rel => exact ⟨k + 1, _, _, _, _, by omega, by go_num, rfl, rfl, HO4.out, HI4.out, HB4.out⟩
      case measure => simp [intOf]; omega
    · obtain rfl : k = n := by omega
      go_wp2
      go_ret
      exact ⟨_, _, rfl, HO.out, HB.out⟩
end Go.Proofs.YtlljnfljcdljaabGreat.V

namespace Go.Proofs.YtlljnfljcdljaabGreat.V
open Go.RowKit
/-- The greatest of the first values. -/
def M.topN (f : Nat → Int) : Nat → Int
  | 0 => f 0
  | k + 1 => max (M.topN f k) (f (k + 1))
theorem M.topN_ge (f : Nat → Int) (m : Nat) : ∀ v, v ≤ m → f v ≤ M.topN f m := by
  induction m with
  | zero => intro v hv; obtain rfl : v = 0 := by omega
            exact Int.le_refl _
  | succ m ih =>
    intro v hv
    show _ ≤ max _ _
    by_cases e : v = m + 1
    · subst e; omega
    · have := ih v (by omega); omega
theorem M.topN_at (f : Nat → Int) (m : Nat) : ∃ v, v ≤ m ∧ M.topN f m = f v := by
  induction m with
  | zero => exact ⟨0, Nat.le_refl _, rfl⟩
  | succ m ih =>
    obtain ⟨v, h1, h2⟩ := ih
    rcases Int.le_total (M.topN f m) (f (m + 1)) with h | h
    · exact ⟨m + 1, Nat.le_refl _, Int.max_eq_right h⟩
    · exact ⟨v, by omega, (Int.max_eq_left h).trans h2⟩
theorem M.topN_congr {f g : Nat → Int} {m : Nat} (h : ∀ v, v ≤ m → f v = g v) : M.topN f m = M.topN g m := by
  induction m with
  | zero => exact h 0 (Nat.le_refl _)
  | succ m ih => show max _ _ = max _ _; rw [ih fun v hv => h v (by omega), h (m + 1) (Nat.le_refl _)]
theorem M.top_cyc {A : Nat → Nat → Int} {n : Nat} (h1 : 1 ≤ n) (h2 : n ≤ 10) (hA : ∀ i j, i < n → j < n → M.Sm 1000000 (A i j)) : decide (M.topN (fun i => (M.fkL A n n).getD i 0) (n - 1) ≠ -1000000000000000) = M.hasCyc A n := by
  have hc : M.topN (fun i => (M.fkL A n n).getD i 0) (n - 1) = M.topN (M.Fk A n n) (n - 1) := M.topN_congr fun v hv => M.fkL_at _ _ _ _ (by omega)
  rw [hc, Bool.eq_iff_iff, decide_eq_true_eq]
  unfold M.hasCyc
  rw [List.any_eq_true]
  obtain ⟨v, hv, e⟩ := M.topN_at (M.Fk A n n) (n - 1)
  constructor
  · intro h
    exact ⟨v, List.mem_range.2 (by omega), by rw [← e]; simpa using h⟩
  · rintro ⟨u, hu, h⟩
    have hu := List.mem_range.1 hu
    have h3 := M.topN_ge (M.Fk A n n) (n - 1) u (by omega)
    have h4 : M.Fk A n n u ≠ -1000000000000000 := by simpa using h
    rcases M.Fk_sm hA n v (by omega) with k | k
    · rcases M.Fk_sm hA n u hu with q | q
      · exact absurd q h4
      · omega
    · omega

set_option maxRecDepth 100000 in
set_option maxHeartbeats 1000000 in
theorem slicesMax (a : Option Addr) (n cap : Nat) (l : List Int) (w : World) (h : Ints .i64 w a n l) (h1 : 1 ≤ n) :
    Calls Tryz.prog 86 #[.slice a n cap] w fun e w' => e = .returned (.int .i64 (M.topN (fun i => l.getD i 0) (n - 1))) ∧ w = w' := by
  obtain ⟨hl, hm, hr⟩ := h
  unfold maxLen at hm
  have hn1 : ¬ (n : Int) < 1 := by omega
  rcases hr with h0 | ⟨b, off, rfl, hbl, hc⟩
  · omega
  have hc0 := hc 0 (by omega)
  rw [Nat.add_zero] at hc0
  have HC := Lib.hid hc
  clear hl hc
  go_enter Tryz.func86, Tryz.ntmps86
  go_wp2
  clear hc0
  go_loop [3, 4] (fun m i => ∃ k : Nat, 1 ≤ k ∧ k ≤ n ∧ i = .int .i64 k ∧ m = .int .i64 (M.topN (fun i => l.getD i 0) (k - 1))) (fun _ i => n - (intOf i).toNat)
  case atStart => exact ⟨1, Nat.le_refl _, h1, rfl, rfl⟩
  case round =>
    obtain ⟨k, hk1, hk, rfl, rfl⟩ := hrel
    by_cases hlt : k < n
    · have hki : (k : Int) < (n : Int) := by omega
      have hck := HC.out k hlt
      have HT : Hid (max (M.topN (fun i => l.getD i 0) (k - 1)) (l.getD k 0) = M.topN (fun i => l.getD i 0) (k + 1 - 1)) := by
        show _ = _
        obtain ⟨q, rfl⟩ : ∃ q, k = q + 1 := ⟨k - 1, by omega⟩
        rfl
      generalize M.topN (fun i => l.getD i 0) (k - 1) = y at HT ⊢
      generalize l.getD k 0 = x at HT hck
      go_wp2
      go_round
      case rel => exact ⟨k + 1, by omega, by omega, by go_num, by rw [← HT.out]; congr 1; split <;> omega⟩
      case measure => simp [intOf]; omega
    · obtain rfl : k = n := by omega
      go_wp2
      go_ret
      exact ⟨rfl, rfl⟩
set_option maxRecDepth 100000 in
set_option maxHeartbeats 1000000 in
theorem hasCycle (a : Option Addr) (n cap : Nat) (R : List (List Int)) (w : World) (h : Sq w a n R) (hA : ∀ i j, i < n → j < n → M.Sm 1000000 (M.ent R i j)) :
    Calls Tryz.prog 56 #[.slice a n cap] w fun e w' => e = .returned (.bool (M.hasCyc (M.ent R) n)) ∧ Below w.heap.size w w' := by
  have HS := Lib.hid h
  have HA := Lib.hid hA
  obtain ⟨n1, n2⟩ := h.2.2.2
  have HT := Lib.hid (M.top_cyc n1 n2 hA)
  clear h hA
  go_enter Tryz.func56, Tryz.ntmps56
  go_wp2_with fail
  refine (endWeights _ _ _ R _ HS.out HA.out).mono ?_
  rintro e w1 ⟨b, c, rfl, hO, hb⟩
  have HB := Lib.hid hb
  obtain ⟨g, ra, rc, rfl, hcell, hr⟩ := hO.rowOf n (by omega)
  rw [M.end_row _ _ _ _ (Nat.lt_succ_self n), M.fkL_len] at hcell hr
  have HI := Lib.hid hr.ints'
  clear hO hb hr
  go_wp2_with fail
  refine (slicesMax _ _ _ _ _ HI.out n1).mono ?_
  rintro e w' ⟨rfl, rfl⟩
  generalize M.topN (fun i => (M.fkL (M.ent R) n n).getD i 0) (n - 1) = y at HT ⊢
  go_wp2
  go_ret
  exact ⟨retB (by rw [← HT.out]; by_cases q : y = -1000000000000000 <;> simp [q]), HB.out⟩
end Go.Proofs.YtlljnfljcdljaabGreat.V

namespace Go.Proofs.YtlljnfljcdljaabGreat
namespace M
theorem shiftRes_ok (R : List (List Int)) (a b : Int) : okM (shiftRes R a b).1 := by
  unfold shiftRes
  split
  · split
    · next h => exact .inr h
    · exact .inl rfl
  · exact .inl rfl
theorem potRes_len (R : List (List Int)) (a b : Int) : (potRes R a b).1.length ≤ 10 := by
  unfold potRes
  split
  · split
    · split
      · next h => exact (isVec_t h).2.1
      · simp
    · simp
  · simp
theorem bestRes_len (R : List (List Int)) : (bestRes R).1.length ≤ 10 := by
  unfold bestRes
  split
  · split
    · next h1 h2 => exact (best_cyc h1 h2).2.2.2
    · simp
  · simp
end M
namespace V
open Go.RowKit
theorem low3 {w1 w2 : World} {P Q : Prop} (h : P ∧ Q ∧ Below w1.heap.size w1 w2) : Below w1.heap.size w1 w2 := h.2.2
theorem keep3 {w0 w1 w2 : World} {b i j : Nat} {x y : Value} (hb0 : b < w0.heap.size) (h : w1.cell? ⟨b, i, none⟩ = some x ∧ w1.cell? ⟨b, j, none⟩ = some y ∧ Below w0.heap.size w0 w1) (hb : Below w1.heap.size w1 w2) : w2.cell? ⟨b, i, none⟩ = some x ∧ w2.cell? ⟨b, j, none⟩ = some y ∧ Below w0.heap.size w0 w2 := by
  have := h.2.2.size
  exact ⟨(hb.cell (p := ⟨b, i, none⟩) (by show b < _; omega)).trans h.1, (hb.cell (p := ⟨b, j, none⟩) (by show b < _; omega)).trans h.2.1, h.2.2.trans (hb.mono this)⟩
end V
end Go.Proofs.YtlljnfljcdljaabGreat
