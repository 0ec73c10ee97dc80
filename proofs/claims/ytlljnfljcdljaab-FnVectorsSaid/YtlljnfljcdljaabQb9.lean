/- Texts laid together: Dice, Like, DrawPw, MatT, MatC, DrawV. -/
import Derived.Test.YtlljnfljcdljaabRows
import Derived.Test.YtlljnfljcdljaabQb1
import Derived.Test.YtlljnfljcdljaabQb2
import Derived.WalkKit
import Derived.ProofKit
import Derived.WalkSmall
import Derived.Deep.QuietTactic
import Derived.BigQuiet
import Derived.BigRegion
import Derived.Deep.Draws
import Derived.Deep.OwnRows
import Derived.Lib.Hide
import Derived.Test.YtlljnfljcdljaabQb8
import Derived.StillTailTactics
import Derived.IntWalk
import Derived.Conc.WgArith
import Derived.Laws.BitsLemmas
import Derived.OpenShut
import Derived.Test.YtlljnfljcdljaabQb3
import Derived.Test.YtlljnfljcdljaabQb4
import Derived.Deep.RegionHeld3
import Derived.Maps.AppendAt
set_option linter.unusedSimpArgs false
set_option linter.unusedVariables false
set_option linter.unusedSectionVars false
namespace Go.Proofs.Ytlljnfljcdljaab.V
open Go.RowKit

/-- The three cells of a dice: the code, the place, the number. -/
def diceF (a : Option Addr) (n cap i : Nat) (h : Int) : Nat → Value
  | 0 => .slice a n cap
  | 1 => .int .i64 i
  | _ => .int .u64 h

/-- Block g is a dice. -/
def Dice (w : World) (g : Nat) : Prop := ∃ (a : Option Addr) (n cap i : Nat) (h : Int),
  w.rowIs g 95 3 (diceF a n cap i h) ∧ CodeAt w g a n ∧ i ≤ n

theorem dice_num {w : World} {g T : Nat} {a : Option Addr} {n cap i : Nat} {h : Int} (hr : w.rowIs g T 3 (diceF a n cap i h)) (h' : Int) : (w.setCell ⟨g, 2, none⟩ (.int .u64 h')).rowIs g T 3 (diceF a n cap i h') :=
  (hr.set 2 _).congr (fun j hj => by
    match j, hj with
    | 0, _ => rfl
    | 1, _ => rfl
    | 2, _ => rfl)
theorem dice_at {w : World} {g T : Nat} {a : Option Addr} {n cap i : Nat} {h : Int} (hr : w.rowIs g T 3 (diceF a n cap i h)) (i' : Nat) (v : Int) (hv : v = (i' : Int)) : (w.setCell ⟨g, 1, none⟩ (.int .i64 v)).rowIs g T 3 (diceF a n cap i' h) :=
  (hr.set 1 _).congr (fun j hj => by
    subst hv
    match j, hj with
    | 0, _ => rfl
    | 1, _ => rfl
    | 2, _ => rfl)

theorem u64_ge (z : Int) : 0 ≤ IntKind.u64.wrap z ∧ IntKind.u64.wrap z ≤ 18446744073709551615 := by rw [IntKind.wrap_u64]; omega

theorem dice_x (s2 : Int) (h0 : 0 ≤ s2) (h1 : s2 ≤ 18446744073709551615) : 0 ≤ wrap64 (bits BinOp.and IntKind.u64 (s2 / 8589934592) 16777215) ∧ wrap64 (bits BinOp.and IntKind.u64 (s2 / 8589934592) 16777215) ≤ 16777215 := by
  have h := bits_mask .u64 63 (by decide) ConcN.wraps_u64_63 24 (by decide) (s2 / 8589934592) (by omega) (by omega)
  have e : ((2 : Int) ^ 24 - 1) = 16777215 := by decide
  have e2 : ((2 : Int) ^ 24) = 16777216 := by decide
  rw [e, e2] at h
  rw [h, IntWalk.wrap64_in _ (by omega)]
  omega

set_option maxRecDepth 100000 in
set_option maxHeartbeats 1000000 in
theorem roll (a : Option Addr) (n cap : Nat) (s : Int) (w : World) (h : Bytes w a n) :
    Calls Try.prog 30 #[.slice a n cap, .int .u64 s] w fun e w' => e = .returned (.pointer (some ⟨w.heap.size, 0, none⟩)) ∧ Dice w' w.heap.size ∧ Below w.heap.size w w' := by
  have HB := Lib.hid h
  obtain ⟨hm, hcode⟩ := h
  unfold maxLen at hm
  have hst : ∀ h : Int, (w.alloc (.cells #[.slice a n cap, .int .i64 0, .int .u64 h] 95)).rowIs w.heap.size 95 3 (diceF a n cap 0 h) := fun h =>
    World.rowIs_alloc w _ _ _ (fun i hi => by
      match i, hi with
      | 0, _ => rfl
      | 1, _ => rfl
      | 2, _ => rfl)
  have HST := Lib.hid hst
  clear hst
  go_enter Try.func30, Try.ntmps30
  go_wp2
  go_loopw [6] (fun i wr => ∃ (k : Nat) (h : Int), k ≤ n ∧ i = .int .i64 k ∧ wr.rowIs w.heap.size 95 3 (diceF a n cap 0 h) ∧ Below w.heap.size w wr) (fun i _ => n - (intOf i).toNat)
  case atStart => exact ⟨0, _, Nat.zero_le _, rfl, HST.out _, b_alloc _ _⟩
  case round =>
    obtain ⟨k, h, hk, rfl, hrow, hb⟩ := hrel
    clear HST
    have HR := Lib.hid hrow
    have HBW := Lib.hid hb
    by_cases hlt : k < n
    · rcases hcode with h0 | ⟨b, off, rfl, hbl, hc⟩
      · omega
      obtain ⟨x, x1, x2, hx⟩ := hc k hlt
      have hx' : wr.cell? ⟨b, off + k, none⟩ = some (.int .u8 x) := by rw [hb.cell (p := ⟨b, off + k, none⟩) hbl]; exact hx
      have c2 : wr.cell? ⟨w.heap.size, 2, none⟩ = some (.int .u64 h) := hrow.cell (i := 2) (by omega)
      have f2 := hrow.frozen 2
      have hki : (k : Int) < (n : Int) := by omega
      clear hc hx hrow hb
      go_wp2
      go_still_tail 15, (by kernel_rfl)
      change wpList _ _ _ _ _ wr.drew
      go_wp2
      first
        | exact ⟨⟨k + 1, _, by omega, by go_num, dice_num (w := wr.drew) HR.out _, (HBW.out.drew).setCell (Nat.le_refl _) _⟩, by simp [intOf]; omega⟩
        | (go_roundw
           case rel => exact ⟨k + 1, _, by omega, by go_num, dice_num (w := wr.drew) HR.out _, (HBW.out.drew).setCell (Nat.le_refl _) _⟩
           case measure => simp [intOf]; omega)
    · obtain rfl : k = n := by omega
      clear hrow hb hcode
      go_wp2
      go_ret
      exact ⟨rfl, ⟨a, k, cap, 0, h, HR.out, (CodeAt.below HB.out HBW.out), Nat.zero_le _⟩, HBW.out⟩

/-- What the dice hands out. -/
def DicePost (g : Nat) (n : Int) (w : World) (e : Ending) (w' : World) : Prop := ∃ x : Int, e = .returned (.int .i64 x) ∧ 0 ≤ x ∧ x < n ∧ Dice w' g ∧ Thr g w w'

theorem dice_fin {g : Nat} {n : Int} {w w2 : World} {a : Option Addr} {m cap t : Nat} {s x : Int} (hn : 1 ≤ n) (hrow : w2.rowIs g 95 3 (diceF a m cap t s)) (hc : CodeAt w g a m) (ht : t ≤ m) (hthr : Thr g w w2) : DicePost g n w (.returned (.int .i64 (x % n))) w2 :=
  ⟨_, rfl, Int.emod_nonneg _ (by omega), Int.emod_lt_of_pos _ (by omega), ⟨a, m, cap, t, s, hrow, hc.below hthr.below, ht⟩, hthr⟩

set_option maxRecDepth 100000 in
set_option maxHeartbeats 1000000 in
theorem below_ (g : Nat) (n : Int) (w : World) (h : Dice w g) (h1 : 1 ≤ n) (h2 : n ≤ 1000000) :
    Calls Try.prog 31 #[.pointer (some ⟨g, 0, none⟩), .int .i64 n] w (DicePost g n w) := by
  obtain ⟨a, m, cap, t, s, hrow, hcode, ht⟩ := h
  have c0 : w.cell? ⟨g, 0, none⟩ = some (.slice a m cap) := hrow.cell (i := 0) (by omega)
  have c1 : w.cell? ⟨g, 1, none⟩ = some (.int .i64 t) := hrow.cell (i := 1) (by omega)
  have c2 : w.cell? ⟨g, 2, none⟩ = some (.int .u64 s) := hrow.cell (i := 2) (by omega)
  have f0 := hrow.frozen 0
  have f1 := hrow.frozen 1
  have f2 := hrow.frozen 2
  have HR := Lib.hid hrow
  have HC := Lib.hid hcode
  have hm := hcode.1
  unfold maxLen at hm
  obtain ⟨s2, hs2⟩ : ∃ s2, IntKind.u64.wrap (IntKind.u64.wrap (s * 6364136223846793005) + 1442695040888963407) = s2 := ⟨_, rfl⟩
  have hb2 := u64_ge (IntKind.u64.wrap (s * 6364136223846793005) + 1442695040888963407)
  rw [hs2] at hb2
  have hx12 := dice_x s2 hb2.1 hb2.2
  obtain ⟨x, hx⟩ : ∃ x, wrap64 (bits BinOp.and IntKind.u64 (s2 / 8589934592) 16777215) = x := ⟨_, rfl⟩
  rw [hx] at hx12
  obtain ⟨x1, x2⟩ := hx12
  have s20 := hb2.1
  clear hb2 hrow
  by_cases htm : t < m
  · obtain ⟨-, hcode⟩ := hcode
    rcases hcode with h0 | ⟨b, off, rfl, hbg, hc⟩
    · omega
    obtain ⟨y, y1, y2, hcy⟩ := hc t htm
    have hne : ¬ b = g := by omega
    have hti : (t : Int) < (m : Int) := by omega
    have ht0 : 0 ≤ (t : Int) + 1 := by omega
    clear hc
    go_enter Try.func31, Try.ntmps31
    go_wp2
    go_quiet (fail)
    go_wp2
    go_quiet (fail)
    go_wp2
    go_ret
    exact dice_fin h1 (dice_at (w := (w.setCell ⟨g, 2, none⟩ (.int .u64 s2)).drewN _) (dice_num HR.out s2) (t + 1) _ (by omega)) HC.out (by omega) ((((Thr.refl g w).setCell _).drewN _).setCell _)
  · obtain rfl : t = m := by omega
    clear hcode
    go_enter Try.func31, Try.ntmps31
    go_wp2
    go_quiet (fail)
    go_wp2
    go_ret
    exact dice_fin h1 (dice_num HR.out s2) HC.out (by omega) (((Thr.refl g w).setCell _).drewN _)
theorem Dice.then {g : Nat} {w w' : World} {B : Nat} (h : Dice w g) (hb : Below B w w') (hg : g < B) : Dice w' g := by
  obtain ⟨a, n, cap, i, x, h1, h2, h3⟩ := h
  exact ⟨a, n, cap, i, x, h1.of_block (hb.block g hg), h2.below (hb.mono (Nat.le_of_lt hg)), h3⟩
end Go.Proofs.Ytlljnfljcdljaab.V

namespace Go.Proofs.Ytlljnfljcdljaab.V
open Go.RowKit

set_option maxRecDepth 100000 in
set_option maxHeartbeats 400000 in
theorem likeInts (a : Option Addr) (n cap : Nat) (l : List Int) (a' : Option Addr) (n' cap' : Nat) (l' : List Int) (w : World) (h : Ints .i64 w a n l) (h' : Ints .i64 w a' n' l') (heq : l = l') :
    Calls Try.prog 20 #[.slice a n cap, .slice a' n' cap'] w fun e w' => e = .returned (.bool true) ∧ ∃ q, w' = w.drewN q := by
  subst heq
  obtain ⟨hl, hm, hr⟩ := h
  obtain ⟨hl', hm', hr'⟩ := h'
  obtain rfl : n = n' := by omega
  unfold maxLen at hm
  clear hm'
  have HL := Lib.hid hl
  clear hl hl'
  go_enter Try.func20, Try.ntmps20
  go_wp2
  go_loopw [5] (fun i wr => ∃ k : Nat, k ≤ n ∧ i = .int .i64 k ∧ ∃ q, wr = w.drewN q) (fun i _ => n - (intOf i).toNat)
  case atStart => exact ⟨0, Nat.zero_le _, rfl, 0, rfl⟩
  case round =>
    obtain ⟨k, hk, rfl, q, rfl⟩ := hrel
    by_cases hlt : k < n
    · rcases hr with h0 | ⟨b, off, rfl, hbl, hc⟩
      · omega
      rcases hr' with h0 | ⟨b', off', rfl, hbl', hc'⟩
      · omega
      have hck := hc k hlt
      have hck' := hc' k hlt
      obtain ⟨x, hx⟩ : ∃ x, x = l.getD k 0 := ⟨_, rfl⟩
      rw [← hx] at hck hck'
      clear hc hx hc'
      have hki : (k : Int) < (n : Int) := by omega
      go_wp2
      go_quiet (fail)
      go_wp2
      go_roundw
      case rel => exact ⟨k + 1, by omega, by go_num, _, rfl⟩
      case measure => simp [intOf]; omega
    · have hkn : k = n := by omega
      subst hkn
      clear hr hr'
      go_wp2
      go_ret
      exact ⟨rfl, q, rfl⟩

set_option maxRecDepth 100000 in
set_option maxHeartbeats 400000 in
theorem likeIntss (a : Option Addr) (n cap : Nat) (R : List (List Int)) (a' : Option Addr) (n' cap' : Nat) (R' : List (List Int)) (w : World) (h : Mat w a n R) (h' : Mat w a' n' R') (heq : R = R') :
    Calls Try.prog 27 #[.slice a n cap, .slice a' n' cap'] w fun e w' => e = .returned (.bool true) ∧ ∃ q, w' = w.drewN q := by
  subst heq
  have HM := Lib.hid h
  have HM' := Lib.hid h'
  obtain ⟨hl, hm, -⟩ := h
  obtain ⟨hl', -, -⟩ := h'
  obtain rfl : n = n' := by omega
  unfold maxLen at hm
  have HL := Lib.hid hl
  clear hl hl'
  go_enter Try.func27, Try.ntmps27
  go_wp2
  go_loopw [5] (fun i wr => ∃ k : Nat, k ≤ n ∧ i = .int .i64 k ∧ ∃ q, wr = w.drewN q) (fun i _ => n - (intOf i).toNat)
  case atStart => exact ⟨0, Nat.zero_le _, rfl, 0, rfl⟩
  case round =>
    obtain ⟨k, hk, rfl, q, rfl⟩ := hrel
    by_cases hlt : k < n
    · obtain ⟨b, off, ra, rc, L, l, rfl, hbl, hll, hc, hI⟩ := HM.out.at k hlt
      obtain ⟨b', off', ra', rc', L', l', rfl, hbl', hll', hc', hI'⟩ := HM'.out.at k hlt
      have HI := Lib.hid hI
      have HI' := Lib.hid hI'
      have HE := Lib.hid (hll.trans hll'.symm)
      clear hI hI' hll hll' HM HM'
      have hki : (k : Int) < (n : Int) := by omega
      go_wp2
      go_quiet ((go_at_call 20; exact q_more (likeInts _ _ _ l _ _ _ l' _ HI.out HI'.out HE.out)))
      go_wp2
      go_roundw
      case rel => exact ⟨k + 1, by omega, by go_num, _, rfl⟩
      case measure => simp [intOf]; omega
    · have hkn : k = n := by omega
      subst hkn
      go_wp2
      go_ret
      exact ⟨rfl, q, rfl⟩

/-- The same, said for the laws. -/
theorem likeM (a : Option Addr) (n cap : Nat) (R : List (List Int)) (a' : Option Addr) (n' cap' : Nat) (w : World) (h : Mat w a n R) (h' : Mat w a' n' R) :
    Calls Try.prog 27 #[.slice a n cap, .slice a' n' cap'] w fun e w' => e = .returned (.bool true) ∧ Below w.heap.size w w' := by
  refine (likeIntss _ _ _ _ _ _ _ _ _ h h' rfl).mono ?_
  rintro e w' ⟨rfl, q, rfl⟩
  exact ⟨rfl, b_draws _ _⟩
theorem likeV (a : Option Addr) (n cap : Nat) (l : List Int) (a' : Option Addr) (n' cap' : Nat) (w : World) (h : Ints .i64 w a n l) (h' : Ints .i64 w a' n' l) :
    Calls Try.prog 20 #[.slice a n cap, .slice a' n' cap'] w fun e w' => e = .returned (.bool true) ∧ Below w.heap.size w w' := by
  refine (likeInts _ _ _ _ _ _ _ _ _ h h' rfl).mono ?_
  rintro e w' ⟨rfl, q, rfl⟩
  exact ⟨rfl, b_draws _ _⟩
set_option maxRecDepth 100000 in
set_option maxHeartbeats 400000 in
theorem big (a : Option Addr) (n cap : Nat) (w : World) (h : n ≤ maxLen) :
    Calls Try.prog 12 #[.slice a n cap] w fun e w' => e = .returned (.bool (decide (4096 < n))) ∧ w = w' := by
  unfold maxLen at h
  go_enter Try.func12, Try.ntmps12
  go_wp2
  go_ret
  exact ⟨retB (decide_eq_decide.2 (by omega)), rfl⟩
end Go.Proofs.Ytlljnfljcdljaab.V

namespace Go.Proofs.Ytlljnfljcdljaab.V
open Go.RowKit

/-- A matrix of one row that is not its own. -/
theorem mat_one' (w : World) (a : Option Addr) (n cap : Nat) (l : List Int) (h : Ints .i64 w a n l) : Mat (w.alloc (.cells #[.slice a n cap] 25)) (some ⟨w.heap.size, 0, none⟩) 1 [l] := by
  refine ⟨rfl, by decide, .inr ⟨_, _, rfl, by simp, fun i hi => ?_⟩⟩
  obtain rfl : i = 0 := by omega
  have hc := cell_one_new w (.slice a n cap) 25 0 _ rfl
  refine ⟨a, cap, ?_, ?_⟩
  · show _ = some (Value.slice a l.length cap)
    rw [h.1]; exact hc
  · show Ints _ _ _ l.length l
    rw [h.1]; exact h.below (b_alloc w _)

set_option maxRecDepth 100000 in
set_option maxHeartbeats 1000000 in
theorem drawSquareB (g : Nat) (w : World) (h : Src w g) : Calls Try.prog 80 #[.pointer (some ⟨g, 0, none⟩)] w (DrawMB g w) := by
  have HS := Lib.hid h
  have hgl := h.lt
  clear h
  go_enter Try.func80, Try.ntmps80
  go_wp2_with fail
  refine (next g 5 _ (by decide) HS.out).mono ?_
  rintro e w1 ⟨x, rfl, hx1, hx2, hs1, ht1⟩
  obtain ⟨x, rfl⟩ := Int.eq_ofNat_of_zero_le hx1
  have hx3 : x < 5 := by omega
  have HS1 := Lib.hid hs1
  have HT1 := Lib.hid ht1
  have e1 : (1 : Int) + (x : Int) = ((1 + x : Nat) : Int) := by omega
  have E1 := Lib.hid e1
  clear e1 hs1 ht1 hx2 hx1
  go_wp2_with fail
  rw [E1.out]
  refine (drawSizeB g (1 + x) (1 + x) _ HS1.out (by omega) (by omega) (by omega) (by omega)).mono ?_
  rintro e w3 ⟨a, n, cap, R, rfl, hn, ho, hs3, ht3⟩
  have HO := Lib.hid (ho.mono HT1.out.below.size)
  have HS3 := Lib.hid hs3
  have HT3 := Lib.hid (HT1.out.trans ht3)
  clear ho hs3 ht3
  go_wp2
  go_ret
  exact ⟨a, n, cap, R, rfl, hn, HO.out, HS3.out, HT3.out⟩
theorem drawSquare (g : Nat) (w : World) (h : Src w g) : Calls Try.prog 80 #[.pointer (some ⟨g, 0, none⟩)] w (DrawM g w) :=
  (drawSquareB g w h).mono fun _ _ h => h.less

/-- A drawn matrix and a drawn integer. -/
def DrawnMI (w : World) (e : Ending) (w' : World) : Prop :=
  ∃ (a : Option Addr) (n cap : Nat) (R : List (List Int)) (x : Int), e = .returned (.tuple #[.slice a n cap, .int .i64 x]) ∧ Mat w' a n R ∧ Below w.heap.size w w'

set_option maxRecDepth 100000 in
set_option maxHeartbeats 4000000 in
theorem drawPowerMatrix (a : Option Addr) (n cap : Nat) (w : World) (h : Bytes w a n) :
    Calls Try.prog 33 #[.slice a n cap] w (DrawnMI w) := by
  have HB := Lib.hid h
  clear h
  go_enter Try.func33, Try.ntmps33
  go_wp2_with fail
  refine (from_ _ _ _ _ HB.out).mono ?_
  rintro e w1 ⟨rfl, hs1, hb1⟩
  have HS1 := Lib.hid hs1
  have HB1 := Lib.hid hb1
  have hg1 := hs1.lt
  clear hs1 hb1
  go_wp2_with fail
  refine (drawSquare _ _ HS1.out).mono ?_
  rintro e w2 ⟨a2, n2, c2, R, rfl, ho, hs2, ht2⟩
  have HO2 := Lib.hid ho
  have HS2 := Lib.hid hs2
  have HB2 := Lib.hid (HB1.out.trans ht2.below)
  clear ho hs2 ht2
  go_wp2_with fail
  refine (next _ 16 _ (by decide) HS2.out).mono ?_
  rintro e w3 ⟨x, rfl, hx1, hx2, hs3, ht3⟩
  have HO3 := Lib.hid (HO2.out.thr ht3 hg1)
  have HS3 := Lib.hid hs3
  have HB3 := Lib.hid (HB2.out.trans ht3.below)
  have hg3 := hs3.lt
  clear hs3 ht3 hx2 HO2 HS2 HB2
  by_cases hx0 : x = 0
  · subst hx0
    go_wp2_with fail
    refine (pick _ _ 0 3 3 _ (HS3.out.alloc _) (by omega) (by omega) hg3 (litCells _ [-1, 100, 101] _ _ rfl (by decide))).mono ?_
    rintro e w4 ⟨y, rfl, hy, hs4, ht4⟩
    have HO4 := Lib.hid ((HO3.out.keep (w' := w3.alloc _) (fun k _ h2 => Below.heap_alloc _ _ _ h2)).thr ht4 hg1).mat
    have HB4 := Lib.hid ((HB3.out.alloc HB3.out.size _).trans ht4.below)
    clear hs4 ht4 hy
    go_wp2
    go_ret2
    exact ⟨_, _, _, R, _, rfl, HO4.out, HB4.out⟩
  · have e0 : (x == 0) = false := by simpa using hx0
    by_cases hx1' : x = 1
    · subst hx1'
      go_wp2_with fail
      refine (draw _ _ HS3.out).mono ?_
      rintro e w4 ⟨a4, n4, c4, R4, rfl, ho4, hs4, ht4⟩
      have HO4 := Lib.hid ho4
      have HS4 := Lib.hid hs4
      have HB4 := Lib.hid (HB3.out.trans ht4.below)
      clear ho4 hs4 ht4
      go_wp2_with fail
      refine (next _ 4 _ (by decide) HS4.out).mono ?_
      rintro e w5 ⟨y, rfl, hy1, hy2, hs5, ht5⟩
      have HO5 := Lib.hid (HO4.out.thr ht5 hg3).mat
      have HB5 := Lib.hid (HB4.out.trans ht5.below)
      clear hs5 ht5 hy2
      go_wp2
      go_ret2
      exact ⟨_, _, _, R4, _, rfl, HO5.out, HB5.out⟩
    · have e1 : (x == 1) = false := by simpa using hx1'
      by_cases hx2' : x = 2
      · subst hx2'
        go_wp2_with fail
        refine (pick _ _ 0 2 2 _ (HS3.out.alloc _) (by omega) (by omega) hg3 (litCells _ [10000, 10001] _ _ rfl (by decide))).mono ?_
        rintro e w4 ⟨y, rfl, hy, hs4, ht4⟩
        have HB4 := Lib.hid ((HB3.out.alloc HB3.out.size _).trans ht4.below)
        have hz4 := HB4.out.size
        clear hs4 ht4 hy
        have hOy : Own (w4.alloc (.cells #[.int .i64 y] 2)) w4.heap.size (.slice (some ⟨w4.heap.size, 0, none⟩) 1 1) [y] := World.ownsRow_lit w4 #[.int .i64 y] 1 (Nat.le_refl _) (by decide) rfl
        have hI := hOy.ints'
        have hM := mat_one' _ _ _ 1 _ hI
        rw [show (w4.alloc (.cells #[.int .i64 y] 2)).heap.size = w4.heap.size + 1 by simp] at hM
        have HM := Lib.hid hM
        have HB5 := Lib.hid ((HB4.out.alloc hz4 (.cells #[.int .i64 y] 2)).alloc (by simp; omega) (.cells #[.slice (some ⟨w4.heap.size, 0, none⟩) 1 1] 25))
        clear hI hM hOy
        go_wp2
        go_ret2
        exact ⟨_, _, _, _, _, rfl, HM.out, HB5.out⟩
      · have e2 : (x == 2) = false := by simpa using hx2'
        go_wp2_with fail
        refine (next _ 9 _ (by decide) HS3.out).mono ?_
        rintro e w5 ⟨y, rfl, hy1, hy2, hs5, ht5⟩
        have HO5 := Lib.hid (HO3.out.thr ht5 hg1).mat
        have HB5 := Lib.hid (HB3.out.trans ht5.below)
        clear hs5 ht5 hy2
        go_wp2
        go_ret2
        exact ⟨_, _, _, R, _, rfl, HO5.out, HB5.out⟩

/-- A drawn integer; two of them. -/
def DrawnI (w : World) (e : Ending) (w' : World) : Prop := ∃ x : Int, e = .returned (.int .i64 x) ∧ Below w.heap.size w w'
def DrawnII (w : World) (e : Ending) (w' : World) : Prop := ∃ x y : Int, e = .returned (.tuple #[.int .i64 x, .int .i64 y]) ∧ Below w.heap.size w w'

set_option maxRecDepth 100000 in
set_option maxHeartbeats 1000000 in
theorem drawUnitMatrix (a : Option Addr) (n cap : Nat) (w : World) (h : Bytes w a n) :
    Calls Try.prog 36 #[.slice a n cap] w (DrawnI w) := by
  have HB := Lib.hid h
  clear h
  go_enter Try.func36, Try.ntmps36
  go_wp2_with fail
  refine (from_ _ _ _ _ HB.out).mono ?_
  rintro e w1 ⟨rfl, hs1, hb1⟩
  have HS1 := Lib.hid hs1
  have HB1 := Lib.hid hb1
  clear hs1 hb1
  go_wp2_with fail
  refine (next _ 13 _ (by decide) HS1.out).mono ?_
  rintro e w2 ⟨x, rfl, hx1, hx2, hs2, ht2⟩
  have HB2 := Lib.hid (HB1.out.trans ht2.below)
  clear hs2 ht2 hx2
  go_wp2
  go_ret
  exact ⟨_, rfl, HB2.out⟩

set_option maxRecDepth 100000 in
set_option maxHeartbeats 1000000 in
theorem drawBottomMatrix (a : Option Addr) (n cap : Nat) (w : World) (h : Bytes w a n) :
    Calls Try.prog 39 #[.slice a n cap] w (DrawnII w) := by
  have HB := Lib.hid h
  clear h
  go_enter Try.func39, Try.ntmps39
  go_wp2_with fail
  refine (from_ _ _ _ _ HB.out).mono ?_
  rintro e w1 ⟨rfl, hs1, hb1⟩
  have HS1 := Lib.hid hs1
  have HB1 := Lib.hid hb1
  clear hs1 hb1
  go_wp2_with fail
  refine (next _ 13 _ (by decide) HS1.out).mono ?_
  rintro e w2 ⟨x, rfl, hx1, hx2, hs2, ht2⟩
  have HS2 := Lib.hid hs2
  have HB2 := Lib.hid (HB1.out.trans ht2.below)
  clear hs2 ht2 hx2
  go_wp2_with fail
  refine (next _ 13 _ (by decide) HS2.out).mono ?_
  rintro e w3 ⟨y, rfl, hy1, hy2, hs3, ht3⟩
  have HB3 := Lib.hid (HB2.out.trans ht3.below)
  clear hs3 ht3 hy2
  go_wp2
  go_ret2
  exact ⟨_, _, rfl, HB3.out⟩
end Go.Proofs.Ytlljnfljcdljaab.V

namespace Go.Proofs.Ytlljnfljcdljaab
namespace M
theorem times_comm (a b : Int) : times a b = times b a := by
  unfold times
  by_cases h : a = -1000000000000000 ∨ b = -1000000000000000
  · rw [if_pos h, if_pos (Or.symm h)]
  · rw [if_neg h, if_neg (fun h2 => h (Or.symm h2)), Int.add_comm]
theorem trans_trans {R : List (List Int)} (h : isMat R = true) : transM (transM R) = R := by
  obtain ⟨m1, m2, c1, c2, h5, -⟩ := isMat_t h
  have hl : (transM R).length = wid R := mk_length _ _ _
  have hw : wid (transM R) = R.length := mk_wid _ _ _ (by omega)
  show mk (wid (transM R)) (transM R).length (fun i j => ent (transM R) j i) = R
  rw [hl, hw]
  refine Eq.trans (mk_congr fun i hi j hj => ?_) (mk_self R (wid R) h5)
  unfold transM
  rw [ent_mk _ _ _ _ _ hj hi]
theorem transRes_back {R : List (List Int)} (h : isMat R = true) : transRes (transM R) = (R, 0) := by
  unfold transRes
  rw [if_pos (transM_ok h), trans_trans h]
theorem dot_turn (R : List (List Int)) (h : isMat R = true) (i j k : Nat) (hi : i < R.length) (hj : j < R.length) (hk : k ≤ wid R) : dot R (transM R) i j k = dot R (transM R) j i k := by
  unfold dot
  refine sumN_congr fun t ht => ?_
  unfold transM
  rw [ent_mk _ _ _ _ _ (by omega) hj, ent_mk _ _ _ _ _ (by omega) hi, times_comm]
theorem mul_turn {R : List (List Int)} (h : isMat R = true) : transM (mulM R (transM R)) = mulM R (transM R) := by
  obtain ⟨m1, m2, c1, c2, h5, -⟩ := isMat_t h
  have hl : (transM R).length = wid R := mk_length _ _ _
  have hw : wid (transM R) = R.length := mk_wid _ _ _ (by omega)
  have hm : mulM R (transM R) = mk R.length R.length (fun i j => dot R (transM R) i j (wid R)) := by unfold mulM; rw [hl, hw]
  rw [hm]
  show mk (wid (mk _ _ _)) (mk _ _ _).length (fun i j => ent (mk _ _ _) j i) = _
  rw [mk_length, mk_wid _ _ _ (by omega)]
  refine mk_congr fun i hi j hj => ?_
  rw [ent_mk _ _ _ _ _ hj hi]
  exact dot_turn R h j i _ hj hi (Nat.le_refl _)
theorem mulRes_turn {R : List (List Int)} (h : isMat R = true) : mulRes R (transM R) = ([], 3) ∨ (isMat (mulM R (transM R)) = true ∧ mulRes R (transM R) = (mulM R (transM R), 0) ∧ transRes (mulM R (transM R)) = (mulM R (transM R), 0)) := by
  have hl : (transM R).length = wid R := mk_length _ _ _
  unfold mulRes
  rw [h, transM_ok h, if_pos (by rfl), if_pos hl.symm]
  by_cases hM : isMat (mulM R (transM R)) = true
  · right
    refine ⟨hM, if_pos hM, ?_⟩
    unfold transRes
    rw [if_pos hM, mul_turn h]
  · left
    rw [if_neg hM]
end M
end Go.Proofs.Ytlljnfljcdljaab

namespace Go.Proofs.Ytlljnfljcdljaab
namespace M
/-- A list as a matrix of one column. -/
def col (l : List Int) : List (List Int) := mk l.length 1 (fun i _ => l.getD i 0)
theorem col_ok {l : List Int} (h : isVec l = true) : isMat (col l) = true := by
  obtain ⟨h1, h2, h3⟩ := isVec_t h
  exact isMat_mk h1 h2 (Nat.le_refl _) (by omega) (fun i hi _ _ => h3 i hi)
theorem col_take (l : List Int) (k : Nat) : mk (k + 1) 1 (fun i _ => l.getD i 0) = mk k 1 (fun i _ => l.getD i 0) ++ [[l.getD k 0]] := by
  rw [mk_snoc]; rfl
theorem apply_at (R : List (List Int)) (l : List Int) (i : Nat) (hi : i < R.length) : (applyM R l).getD i 0 = dotV R l i l.length := by
  simp [applyM, hi]
theorem mul_col {R : List (List Int)} {l : List Int} (hl : isVec l = true) : mulM R (col l) = mk R.length 1 (fun i _ => (applyM R l).getD i 0) := by
  obtain ⟨h1, h2, h3⟩ := isVec_t hl
  have e1 : wid (col l) = 1 := mk_wid _ _ _ (by omega)
  have e2 : (col l).length = l.length := mk_length _ _ _
  unfold mulM
  rw [e1, e2]
  refine mk_congr fun i hi j hj => ?_
  obtain rfl : j = 0 := by omega
  rw [apply_at R l i hi]
  unfold dot dotV
  refine sumN_congr fun t ht => ?_
  unfold col
  rw [ent_mk _ _ _ _ _ ht (by omega)]
theorem apply_len (R : List (List Int)) (l : List Int) : (applyM R l).length = R.length := by simp [applyM]
theorem mul_col_ok {R : List (List Int)} {l : List Int} (hR : isMat R = true) (hl : isVec l = true) : isMat (mulM R (col l)) = isVec (applyM R l) := by
  obtain ⟨m1, m2, -⟩ := isMat_t hR
  rw [mul_col hl]
  cases e : isVec (applyM R l) with
  | true =>
    obtain ⟨h1, h2, h3⟩ := isVec_t e
    rw [apply_len] at h3
    exact isMat_mk m1 m2 (Nat.le_refl _) (by omega) (fun i hi _ _ => h3 i hi)
  | false =>
    cases e2 : isMat (mk R.length 1 (fun i _ => (applyM R l).getD i 0)) with
    | false => rfl
    | true =>
      exfalso
      obtain ⟨-, -, -, -, -, h6⟩ := isMat_t e2
      rw [mk_length, mk_wid _ _ _ (by omega)] at h6
      have : isVec (applyM R l) = true := isVec_of (by rw [apply_len]; exact m1) (by rw [apply_len]; exact m2) (fun j hj => by
        rw [apply_len] at hj
        have := h6 j hj 0 (by omega)
        rw [ent_mk _ _ _ _ _ hj (by omega)] at this
        exact this)
      rw [this] at e; cases e
/-- What the two say, where both arguments are valid. -/
theorem vec_col {R : List (List Int)} {l : List Int} (hR : isMat R = true) (hl : isVec l = true) :
    (vecRes R l = ([], 5) ∧ mulRes R (col l) = ([], 5)) ∨ (vecRes R l = ([], 3) ∧ mulRes R (col l) = ([], 3)) ∨ (vecRes R l = (applyM R l, 0) ∧ mulRes R (col l) = (mk R.length 1 (fun i _ => (applyM R l).getD i 0), 0)) := by
  have e2 : (col l).length = l.length := mk_length _ _ _
  unfold vecRes mulRes
  simp only [hR, hl, col_ok hl, Bool.and_self, if_true, e2]
  by_cases hw : wid R = l.length
  · right
    rw [if_pos hw, if_pos hw, mul_col_ok hR hl, mul_col hl]
    by_cases hv : isVec (applyM R l) = true
    · right; rw [if_pos hv, if_pos hv]; exact ⟨rfl, rfl⟩
    · left; rw [if_neg hv, if_neg hv]; exact ⟨rfl, rfl⟩
  · left; rw [if_neg hw, if_neg hw]; exact ⟨rfl, rfl⟩
theorem vec_bad {R : List (List Int)} {l : List Int} (h : ¬(isMat R = true ∧ isVec l = true)) : vecRes R l = ([], 1) := by
  unfold vecRes
  rw [if_neg (by simpa using h)]
end M
end Go.Proofs.Ytlljnfljcdljaab

namespace Go.Proofs.Ytlljnfljcdljaab.V
open Go.RowKit

theorem Thr.then {g : Nat} {w wx w' : World} (h : Thr g w wx) (hb : Below w.heap.size wx w') (hg : g ≤ w.heap.size) : Thr g w w' :=
  ⟨h.below.trans (hb.mono hg), fun k h1 h2 => (hb.block k h2).trans (h.other k h1 h2)⟩
theorem Src.then {g : Nat} {wx w' : World} {B : Nat} (h : Src wx g) (hb : Below B wx w') (hg : g < B) : Src w' g := h.below (hb.mono hg)

/-- A list that is being drawn. -/
def DL (g B : Nat) (v : Value) (l : List Int) (w0 w : World) : Prop := Own w B v l ∧ Src w g ∧ Thr g w0 w
theorem DL.next {g B : Nat} {v : Value} {l : List Int} {w0 w w' : World} (h : DL g B v l w0 w) (hB : g < B) (hs : Src w' g) (ht : Thr g w w') : DL g B v l w0 w' :=
  ⟨h.1.thr ht hB, hs, h.2.2.trans ht⟩
theorem DL.app {g : Nat} {v v' : Value} {l l' : List Int} {w0 w w' : World} (h : DL g w0.heap.size v l w0 w) (hg : g < w0.heap.size) (ho : Own w' w0.heap.size v' l') (hb : Below w0.heap.size w w') : DL g w0.heap.size v' l' w0 w' :=
  ⟨ho, h.2.1.then hb hg, h.2.2.then hb (Nat.le_of_lt hg)⟩

/-- A drawn vector: some list of integers, in new memory. -/
def DrawV (g : Nat) (w : World) (e : Ending) (w' : World) : Prop :=
  ∃ (a : Option Addr) (n cap : Nat) (l : List Int), e = .returned (.slice a n cap) ∧ Own w' w.heap.size (.slice a n cap) l ∧ Src w' g ∧ Thr g w w'

set_option maxRecDepth 100000 in
set_option maxHeartbeats 4000000 in
theorem drawVector (g n : Nat) (w : World) (h : Src w g) (n2 : n ≤ 1000) :
    Calls Try.prog 90 #[.pointer (some ⟨g, 0, none⟩), .int .i64 n] w (DrawV g w) := by
  have hgs := h.lt
  have HJ0 : Hid (DL g w.heap.size (.slice (some ⟨w.heap.size, 0, none⟩) 0 0) [] w (w.alloc (.cells #[] 2))) :=
    ⟨own_lit0 w _ (Nat.le_refl _), h.alloc _, (Thr.refl _ _).alloc (Nat.le_of_lt hgs) _⟩
  clear h
  go_enter Try.func90, Try.ntmps90
  go_wp2
  go_loopw [1, 5] (fun i out wr => ∃ (j t : Nat) (l : List Int) (b : Option Addr) (c : Nat), j + t ≤ n ∧ i = .int .i64 j ∧ out = .slice b t c ∧ Hid (DL g w.heap.size (.slice b t c) l w wr)) (fun i _ _ => (intOf i).toNat)
  case atStart => exact ⟨n, 0, [], _, _, by omega, rfl, rfl, HJ0⟩
  case round =>
    obtain ⟨j, t, l, b, c, hjt, rfl, rfl, HJ⟩ := hrel
    clear HJ0
    have hj1000 : j ≤ 1000 := by omega
    have ht1000 : t ≤ 1000 := by omega
    by_cases hj : 0 < j
    · have hji : (0 : Int) < (j : Int) := by omega
      go_wp2_with fail
      refine (next g 31 _ (by decide) HJ.out.2.1).mono ?_
      rintro e w1 ⟨x, rfl, hx1, hx2, hs1, ht1⟩
      have hx3 : x < 31 := by omega
      have HJ1 := Lib.hid (HJ.out.next hgs hs1 ht1)
      have hz1 : w.heap.size ≤ w1.heap.size := HJ1.out.2.2.below.size
      have hlen := HJ1.out.1.len
      have HLn := Lib.hid hlen
      clear hs1 ht1 hx2 HJ hlen
      go_wp2_with (at_builtin; refine append1 _ rfl (.tmp 11) (.tmp 15) rfl w.heap.size _ _ _ t HJ1.out.1.len.symm rfl HJ1.out.1 rfl (by rw [← HLn.out]; omega) hz1 ?_)
      intro b2 c2 w2 hO2 hb2 _
      have HJ2 := Lib.hid (HJ1.out.app hgs hO2 hb2)
      clear hO2 hb2 HJ1
      go_wp2_with fail
      refine (next g 8 _ (by decide) HJ2.out.2.1).mono ?_
      rintro e w3 ⟨y, rfl, hy1, -, hs3, ht3⟩
      have HJ3 := Lib.hid (HJ2.out.next hgs hs3 ht3)
      clear hs3 ht3 HJ2
      by_cases hy : y = 0
      · subst hy
        obtain ⟨b3, c3, hv3, -, -, hg3⟩ := own_form HJ3.out.1
        injection hv3 with e1 e2 e3
        subst e1 e3
        rw [← e2] at hg3
        obtain ⟨q, rfl, hq, -⟩ := hg3 (by omega)
        have hcl := HJ3.out.1.cellAt t (by omega)
        have hfz := HJ3.out.1.frozenAt t
        have hN := HJ3.out.1.set t (-1000000000000000)
        have HJ4 := Lib.hid (HJ3.out.app hgs hN ((Below.refl _ _).setCell (p := ⟨q, t, none⟩) hq _))
        obtain ⟨x5, hx5⟩ : ∃ x5, x5 = (l ++ [x - 15]).getD t 0 := ⟨_, rfl⟩
        rw [← hx5] at hcl
        clear hN e2 hx5
        go_wp2
        go_roundw
        case rel => exact ⟨j - 1, t + 1, _, _, _, by omega, by go_num, rfl, HJ4⟩
        case measure => simp [intOf]; omega
      · have ey : (y == 0) = false := by simpa using hy
        go_wp2
        go_roundw
        case rel => exact ⟨j - 1, t + 1, _, _, _, by omega, by go_num, rfl, HJ3⟩
        case measure => simp [intOf]; omega
    · obtain rfl : j = 0 := by omega
      go_wp2_with fail
      refine (next g 60 _ (by decide) HJ.out.2.1).mono ?_
      rintro e w1 ⟨x, rfl, hx1, -, hs1, ht1⟩
      have HJ1 := Lib.hid (HJ.out.next hgs hs1 ht1)
      clear hs1 ht1 HJ
      by_cases hx0 : x = 0
      · subst hx0
        go_wp2_with fail
        refine (drawValue g _ HJ1.out.2.1).mono ?_
        rintro e w2 ⟨z, rfl, hz, hs2, ht2⟩
        have HJ2 := Lib.hid (HJ1.out.next hgs hs2 ht2)
        have hz1 : w.heap.size ≤ w2.heap.size := HJ2.out.2.2.below.size
        have hlen := HJ2.out.1.len
        have HLn := Lib.hid hlen
        clear hs2 ht2 HJ1 hlen
        go_wp2_with (at_builtin; refine append1 _ rfl (.tmp 29) (.tmp 32) rfl w.heap.size _ _ _ t HJ2.out.1.len.symm rfl HJ2.out.1 rfl (by rw [← HLn.out]; omega) hz1 ?_)
        intro b2 c2 w3 hO2 hb2 _
        have HJ3 := Lib.hid (HJ2.out.app hgs hO2 hb2)
        clear hO2 hb2 HJ2
        go_wp2
        go_ret
        exact ⟨_, _, _, _, rfl, HJ3.out.1, HJ3.out.2.1, HJ3.out.2.2⟩
      · have e0 : (x == 0) = false := by simpa using hx0
        by_cases hx1' : x = 1
        · subst hx1'
          go_wp2
          go_ret
          exact ⟨_, _, _, [], rfl, own_nil _ _, HJ1.out.2.1, HJ1.out.2.2⟩
        · have e1 : (x == 1) = false := by simpa using hx1'
          go_wp2
          go_ret
          exact ⟨_, _, _, _, rfl, HJ1.out.1, HJ1.out.2.1, HJ1.out.2.2⟩

/-- A drawn matrix and a drawn vector, as a law is handed them. -/
def DrawnMV (w : World) (e : Ending) (w' : World) : Prop :=
  ∃ (a : Option Addr) (n cap : Nat) (R : List (List Int)) (a' : Option Addr) (n' cap' : Nat) (l : List Int), e = .returned (.tuple #[.slice a n cap, .slice a' n' cap']) ∧ Mat w' a n R ∧ Ints .i64 w' a' n' l ∧ Below w.heap.size w w'

set_option maxRecDepth 100000 in
set_option maxHeartbeats 4000000 in
theorem drawTimesVector (a : Option Addr) (n cap : Nat) (w : World) (h : Bytes w a n) :
    Calls Try.prog 45 #[.slice a n cap] w (DrawnMV w) := by
  have HB := Lib.hid h
  clear h
  go_enter Try.func45, Try.ntmps45
  go_wp2_with fail
  refine (from_ _ _ _ _ HB.out).mono ?_
  rintro e w1 ⟨rfl, hs1, hb1⟩
  have HS1 := Lib.hid hs1
  have HB1 := Lib.hid hb1
  have hg1 := hs1.lt
  clear hs1 hb1
  go_wp2_with fail
  refine (draw _ _ HS1.out).mono ?_
  rintro e w2 ⟨a2, n2, c2, R, rfl, ho, hs2, ht2⟩
  have HO2 := Lib.hid ho
  have HS2 := Lib.hid hs2
  have HB2 := Lib.hid (HB1.out.trans ht2.below)
  clear ho hs2 ht2
  go_wp2_with fail
  refine (next _ 5 _ (by decide) HS2.out).mono ?_
  rintro e w3 ⟨x, rfl, hx1, hx2, hs3, ht3⟩
  obtain ⟨x, rfl⟩ := Int.eq_ofNat_of_zero_le hx1
  have hx3 : x < 5 := by omega
  have HO3 := Lib.hid (HO2.out.thr ht3 hg1)
  have HS3 := Lib.hid hs3
  have HB3 := Lib.hid (HB2.out.trans ht3.below)
  have e1 : (1 : Int) + (x : Int) = ((1 + x : Nat) : Int) := by omega
  have E1 := Lib.hid e1
  clear e1 hs3 ht3 hx2 hx1 HO2 HS2 HB2
  by_cases hR : M.isMat R = true
  · have HR := Lib.hid hR
    obtain ⟨m1, m2, c1, c2', -, -⟩ := M.isMat_t hR
    have HL := Lib.hid HO3.out.len
    clear hR
    go_wp2_with fail
    refine (sIsMatrixB_b _ _ _ R _ true HR.out HO3.out.mat).mono ?_
    rintro e w4 ⟨rfl, hb4⟩
    have hg3 := HS3.out.lt
    have HO4 := Lib.hid (HO3.out.below hb4)
    have HS4 := Lib.hid (HS3.out.below (hb4.mono hg3))
    have HB4 := Lib.hid (bnext HB3.out hb4)
    clear hb4 HO3 HS3
    go_wp2_with fail
    refine (next _ 8 _ (by decide) HS4.out).mono ?_
    rintro e w5 ⟨y, rfl, hy1, -, hs5, ht5⟩
    have HO5 := Lib.hid (HO4.out.thr ht5 hg1)
    have HS5 := Lib.hid hs5
    have HB5 := Lib.hid (HB4.out.trans ht5.below)
    clear hs5 ht5 HO4 HS4
    have hgo : ∀ (k : Nat), k ≤ 1000 → Calls Try.prog 90 #[.pointer (some ⟨w.heap.size, 0, none⟩), .int .i64 k] w5 (DrawV w.heap.size w5) := fun k hk => drawVector _ k _ HS5.out hk
    have HG := Lib.hid hgo
    clear hgo
    by_cases hy : 0 < y
    · have hn2 : 1 ≤ n2 := by have := HL.out; omega
      obtain ⟨b, off, ra, L, rc, rfl, hL, hc⟩ := HO5.out.mat.first (by omega)
      have hL2 : L ≤ 1000 := by rw [hL]; omega
      clear hL
      go_wp2_with fail
      refine (HG.out L hL2).mono ?_
      rintro e w6 ⟨a6, n6, c6, l, rfl, ho6, hs6, ht6⟩
      have HI := Lib.hid ho6.ints'
      have HM := Lib.hid (HO5.out.thr ht6 hg1).mat
      have HB6 := Lib.hid (HB5.out.trans ht6.below)
      clear ho6 hs6 ht6
      go_wp2
      go_ret2
      exact ⟨_, _, _, R, _, _, _, l, rfl, HM.out, HI.out, HB6.out⟩
    · go_wp2_with fail
      rw [E1.out]
      refine (HG.out (1 + x) (by omega)).mono ?_
      rintro e w6 ⟨a6, n6, c6, l, rfl, ho6, hs6, ht6⟩
      have HI := Lib.hid ho6.ints'
      have HM := Lib.hid (HO5.out.thr ht6 hg1).mat
      have HB6 := Lib.hid (HB5.out.trans ht6.below)
      clear ho6 hs6 ht6
      go_wp2
      go_ret2
      exact ⟨_, _, _, R, _, _, _, l, rfl, HM.out, HI.out, HB6.out⟩
  · simp only [Bool.not_eq_true] at hR
    have HR := Lib.hid hR
    clear hR
    go_wp2_with fail
    refine (sIsMatrixB_b _ _ _ R _ false HR.out HO3.out.mat).mono ?_
    rintro e w4 ⟨rfl, hb4⟩
    have hg3 := HS3.out.lt
    have HO4 := Lib.hid (HO3.out.below hb4)
    have HS4 := Lib.hid (HS3.out.below (hb4.mono hg3))
    have HB4 := Lib.hid (bnext HB3.out hb4)
    clear hb4 HO3 HS3
    have hgo : Calls Try.prog 90 #[.pointer (some ⟨w.heap.size, 0, none⟩), .int .i64 (1 + x : Nat)] w4 (DrawV w.heap.size w4) := drawVector _ (1 + x) _ HS4.out (by omega)
    have HG := Lib.hid hgo
    clear hgo
    go_wp2_with fail
    rw [E1.out]
    refine (HG.out).mono ?_
    rintro e w6 ⟨a6, n6, c6, l, rfl, ho6, hs6, ht6⟩
    have HI := Lib.hid ho6.ints'
    have HM := Lib.hid (HO4.out.thr ht6 hg1).mat
    have HB6 := Lib.hid (HB4.out.trans ht6.below)
    clear ho6 hs6 ht6
    go_wp2
    go_ret2
    exact ⟨_, _, _, R, _, _, _, l, rfl, HM.out, HI.out, HB6.out⟩
end Go.Proofs.Ytlljnfljcdljaab.V
