/- Texts laid together: Dice. -/
import Derived.Test.YtlljnfljcdljaaaRows
import Derived.Test.YtlljnfljcdljaaaQa1
import Derived.Test.YtlljnfljcdljaaaQa2
import Derived.WalkKit
import Derived.ProofKit
import Derived.WalkSmall
import Derived.Deep.QuietTactic
import Derived.BigQuiet
import Derived.BigRegion
import Derived.Deep.Draws
import Derived.Deep.OwnRows
import Derived.Lib.Hide
import Derived.Test.YtlljnfljcdljaaaQa24
import Derived.Test.YtlljnfljcdljaaaQa25
import Derived.StillTailTactics
import Derived.IntWalk
import Derived.Conc.WgArith
import Derived.Laws.BitsLemmas
set_option linter.unusedSimpArgs false
set_option linter.unusedVariables false
set_option linter.unusedSectionVars false
namespace Go.Proofs.Ytlljnfljcdljaaa.V
open Go.RowKit

/-- The three cells of a dice: the code, the place, the number. -/
def diceF (a : Option Addr) (n cap i : Nat) (h : Int) : Nat → Value
  | 0 => .slice a n cap
  | 1 => .int .i64 i
  | _ => .int .u64 h

/-- Block g is a dice. -/
def Dice (w : World) (g : Nat) : Prop := ∃ (a : Option Addr) (n cap i : Nat) (h : Int),
  w.rowIs g 75 3 (diceF a n cap i h) ∧ CodeAt w g a n ∧ i ≤ n

theorem dice_num {w : World} {g T : Nat} {a : Option Addr} {n cap i : Nat} {h : Int} (hr : w.rowIs g T 3 (diceF a n cap i h)) (h' : Int) : (w.setCell ⟨g, 2, none⟩ (.int .u64 h')).rowIs g T 3 (diceF a n cap i h') :=
  (hr.set 2 _).congr (fun j hj => by
    match j, hj with
    | 0, _ => rfl
    | 1, _ => rfl
    | 2, _ => rfl)
theorem dice_at {w : World} {g T : Nat} {a : Option Addr} {n cap i : Nat} {h : Int} (hr : w.rowIs g T 3 (diceF a n cap i h)) (i' : Nat) (v : Int) (hv : v = (i' : Int)) : (w.setCell ⟨g, 1, none⟩ (.int .i64 v)).rowIs g T 3 (diceF a n cap i' h) :=
  (hr.set 1 _).congr (fun j hj => by
    subst hv
    match j, hj with
    | 0, _ => rfl
    | 1, _ => rfl
    | 2, _ => rfl)

theorem u64_ge (z : Int) : 0 ≤ IntKind.u64.wrap z ∧ IntKind.u64.wrap z ≤ 18446744073709551615 := by rw [IntKind.wrap_u64]; omega

theorem dice_x (s2 : Int) (h0 : 0 ≤ s2) (h1 : s2 ≤ 18446744073709551615) : 0 ≤ wrap64 (bits BinOp.and IntKind.u64 (s2 / 8589934592) 16777215) ∧ wrap64 (bits BinOp.and IntKind.u64 (s2 / 8589934592) 16777215) ≤ 16777215 := by
  have h := bits_mask .u64 63 (by decide) ConcN.wraps_u64_63 24 (by decide) (s2 / 8589934592) (by omega) (by omega)
  have e : ((2 : Int) ^ 24 - 1) = 16777215 := by decide
  have e2 : ((2 : Int) ^ 24) = 16777216 := by decide
  rw [e, e2] at h
  rw [h, IntWalk.wrap64_in _ (by omega)]
  omega

set_option maxRecDepth 100000 in
set_option maxHeartbeats 1000000 in
theorem roll (a : Option Addr) (n cap : Nat) (s : Int) (w : World) (h : Bytes w a n) :
    Calls Try.prog 26 #[.slice a n cap, .int .u64 s] w fun e w' => e = .returned (.pointer (some ⟨w.heap.size, 0, none⟩)) ∧ Dice w' w.heap.size ∧ Below w.heap.size w w' := by
  have HB := Lib.hid h
  obtain ⟨hm, hcode⟩ := h
  unfold maxLen at hm
  have hst : ∀ h : Int, (w.alloc (.cells #[.slice a n cap, .int .i64 0, .int .u64 h] 75)).rowIs w.heap.size 75 3 (diceF a n cap 0 h) := fun h =>
    World.rowIs_alloc w _ _ _ (fun i hi => by
      match i, hi with
      | 0, _ => rfl
      | 1, _ => rfl
      | 2, _ => rfl)
  have HST := Lib.hid hst
  clear hst
  go_enter Try.func26, Try.ntmps26
  go_wp2
  go_loopw [6] (fun i wr => ∃ (k : Nat) (h : Int), k ≤ n ∧ i = .int .i64 k ∧ wr.rowIs w.heap.size 75 3 (diceF a n cap 0 h) ∧ Below w.heap.size w wr) (fun i _ => n - (intOf i).toNat)
  case atStart => exact ⟨0, _, Nat.zero_le _, rfl, HST.out _, b_alloc _ _⟩
  case round =>
    obtain ⟨k, h, hk, rfl, hrow, hb⟩ := hrel
    clear HST
    have HR := Lib.hid hrow
    have HBW := Lib.hid hb
    by_cases hlt : k < n
    · rcases hcode with h0 | ⟨b, off, rfl, hbl, hc⟩
      · omega
      obtain ⟨x, x1, x2, hx⟩ := hc k hlt
      have hx' : wr.cell? ⟨b, off + k, none⟩ = some (.int .u8 x) := by rw [hb.cell (p := ⟨b, off + k, none⟩) hbl]; exact hx
      have c2 : wr.cell? ⟨w.heap.size, 2, none⟩ = some (.int .u64 h) := hrow.cell (i := 2) (by omega)
      have f2 := hrow.frozen 2
      have hki : (k : Int) < (n : Int) := by omega
      clear hc hx hrow hb
      go_wp2
      go_still_tail 15, (by kernel_rfl)
      change wpList _ _ _ _ _ wr.drew
      go_wp2
      first
        | exact ⟨⟨k + 1, _, by omega, by go_num, dice_num (w := wr.drew) HR.out _, (HBW.out.drew).setCell (Nat.le_refl _) _⟩, by simp [intOf]; omega⟩
        | (go_roundw
           case rel => exact ⟨k + 1, _, by omega, by go_num, dice_num (w := wr.drew) HR.out _, (HBW.out.drew).setCell (Nat.le_refl _) _⟩
           case measure => simp [intOf]; omega)
    · obtain rfl : k = n := by omega
      clear hrow hb hcode
      go_wp2
      go_ret
      exact ⟨rfl, ⟨a, k, cap, 0, h, HR.out, (CodeAt.below HB.out HBW.out), Nat.zero_le _⟩, HBW.out⟩

/-- What the dice hands out. -/
def DicePost (g : Nat) (n : Int) (w : World) (e : Ending) (w' : World) : Prop := ∃ x : Int, e = .returned (.int .i64 x) ∧ 0 ≤ x ∧ x < n ∧ Dice w' g ∧ Thr g w w'

theorem dice_fin {g : Nat} {n : Int} {w w2 : World} {a : Option Addr} {m cap t : Nat} {s x : Int} (hn : 1 ≤ n) (hrow : w2.rowIs g 75 3 (diceF a m cap t s)) (hc : CodeAt w g a m) (ht : t ≤ m) (hthr : Thr g w w2) : DicePost g n w (.returned (.int .i64 (x % n))) w2 :=
  ⟨_, rfl, Int.emod_nonneg _ (by omega), Int.emod_lt_of_pos _ (by omega), ⟨a, m, cap, t, s, hrow, hc.below hthr.below, ht⟩, hthr⟩

set_option maxRecDepth 100000 in
set_option maxHeartbeats 1000000 in
theorem below_ (g : Nat) (n : Int) (w : World) (h : Dice w g) (h1 : 1 ≤ n) (h2 : n ≤ 1000000) :
    Calls Try.prog 27 #[.pointer (some ⟨g, 0, none⟩), .int .i64 n] w (DicePost g n w) := by
  obtain ⟨a, m, cap, t, s, hrow, hcode, ht⟩ := h
  have c0 : w.cell? ⟨g, 0, none⟩ = some (.slice a m cap) := hrow.cell (i := 0) (by omega)
  have c1 : w.cell? ⟨g, 1, none⟩ = some (.int .i64 t) := hrow.cell (i := 1) (by omega)
  have c2 : w.cell? ⟨g, 2, none⟩ = some (.int .u64 s) := hrow.cell (i := 2) (by omega)
  have f0 := hrow.frozen 0
  have f1 := hrow.frozen 1
  have f2 := hrow.frozen 2
  have HR := Lib.hid hrow
  have HC := Lib.hid hcode
  have hm := hcode.1
  unfold maxLen at hm
  obtain ⟨s2, hs2⟩ : ∃ s2, IntKind.u64.wrap (IntKind.u64.wrap (s * 6364136223846793005) + 1442695040888963407) = s2 := ⟨_, rfl⟩
  have hb2 := u64_ge (IntKind.u64.wrap (s * 6364136223846793005) + 1442695040888963407)
  rw [hs2] at hb2
  have hx12 := dice_x s2 hb2.1 hb2.2
  obtain ⟨x, hx⟩ : ∃ x, wrap64 (bits BinOp.and IntKind.u64 (s2 / 8589934592) 16777215) = x := ⟨_, rfl⟩
  rw [hx] at hx12
  obtain ⟨x1, x2⟩ := hx12
  have s20 := hb2.1
  clear hb2 hrow
  by_cases htm : t < m
  · obtain ⟨-, hcode⟩ := hcode
    rcases hcode with h0 | ⟨b, off, rfl, hbg, hc⟩
    · omega
    obtain ⟨y, y1, y2, hcy⟩ := hc t htm
    have hne : ¬ b = g := by omega
    have hti : (t : Int) < (m : Int) := by omega
    have ht0 : 0 ≤ (t : Int) + 1 := by omega
    clear hc
    go_enter Try.func27, Try.ntmps27
    go_wp2
    go_quiet (fail)
    go_wp2
    go_quiet (fail)
    go_wp2
    go_ret
    exact dice_fin h1 (dice_at (w := (w.setCell ⟨g, 2, none⟩ (.int .u64 s2)).drewN _) (dice_num HR.out s2) (t + 1) _ (by omega)) HC.out (by omega) ((((Thr.refl g w).setCell _).drewN _).setCell _)
  · obtain rfl : t = m := by omega
    clear hcode
    go_enter Try.func27, Try.ntmps27
    go_wp2
    go_quiet (fail)
    go_wp2
    go_ret
    exact dice_fin h1 (dice_num HR.out s2) HC.out (by omega) (((Thr.refl g w).setCell _).drewN _)
theorem Dice.then {g : Nat} {w w' : World} {B : Nat} (h : Dice w g) (hb : Below B w w') (hg : g < B) : Dice w' g := by
  obtain ⟨a, n, cap, i, x, h1, h2, h3⟩ := h
  exact ⟨a, n, cap, i, x, h1.of_block (hb.block g hg), h2.below (hb.mono (Nat.le_of_lt hg)), h3⟩
end Go.Proofs.Ytlljnfljcdljaaa.V
