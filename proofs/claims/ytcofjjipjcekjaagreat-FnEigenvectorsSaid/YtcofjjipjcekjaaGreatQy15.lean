/- Texts laid together: Dice, VisZ, Mat2, Cmo, Cps, CpO, Crt, Cpk, Cms, Cmm, Ndp. -/
import Derived.Test.YtcofjjipjcekjaaGreatRows
import Derived.Test.YtcofjjipjcekjaaGreatQy1
import Derived.Test.YtcofjjipjcekjaaGreatQy2
import Derived.WalkKit
import Derived.ProofKit
import Derived.WalkSmall
import Derived.Deep.QuietTactic
import Derived.BigQuiet
import Derived.BigRegion
import Derived.Deep.Draws
import Derived.Deep.OwnRows
import Derived.Lib.Hide
import Derived.Test.YtcofjjipjcekjaaGreatQy12
import Derived.StillTailTactics
import Derived.IntWalk
import Derived.Conc.WgArith
import Derived.Laws.BitsLemmas
import Derived.Test.YtcofjjipjcekjaaGreatQy11
import Derived.Test.YtcofjjipjcekjaaGreatQy5
import Derived.Maps.Own
import Derived.Maps.OwnOps
import Derived.Maps.Views
import Derived.Test.YtcofjjipjcekjaaGreatQy3
import Derived.OpenShut
import Derived.Test.YtcofjjipjcekjaaGreatQy9
import Derived.Test.YtcofjjipjcekjaaGreatQy10
import Derived.Lib.SlicesCompact
set_option linter.unusedSimpArgs false
set_option linter.unusedVariables false
set_option linter.unusedSectionVars false
namespace Go.Proofs.YtcofjjipjcekjaaGreat.V
open Go.RowKit

/-- The three cells of a dice: the code, the place, the number. -/
def diceF (a : Option Addr) (n cap i : Nat) (h : Int) : Nat → Value
  | 0 => .slice a n cap
  | 1 => .int .i64 i
  | _ => .int .u64 h

/-- Block g is a dice. -/
def Dice (w : World) (g : Nat) : Prop := ∃ (a : Option Addr) (n cap i : Nat) (h : Int),
  w.rowIs g 72 3 (diceF a n cap i h) ∧ CodeAt w g a n ∧ i ≤ n

theorem dice_num {w : World} {g T : Nat} {a : Option Addr} {n cap i : Nat} {h : Int} (hr : w.rowIs g T 3 (diceF a n cap i h)) (h' : Int) : (w.setCell ⟨g, 2, none⟩ (.int .u64 h')).rowIs g T 3 (diceF a n cap i h') :=
  (hr.set 2 _).congr (fun j hj => by
    match j, hj with
    | 0, _ => rfl
    | 1, _ => rfl
    | 2, _ => rfl)
theorem dice_at {w : World} {g T : Nat} {a : Option Addr} {n cap i : Nat} {h : Int} (hr : w.rowIs g T 3 (diceF a n cap i h)) (i' : Nat) (v : Int) (hv : v = (i' : Int)) : (w.setCell ⟨g, 1, none⟩ (.int .i64 v)).rowIs g T 3 (diceF a n cap i' h) :=
  (hr.set 1 _).congr (fun j hj => by
    subst hv
    match j, hj with
    | 0, _ => rfl
    | 1, _ => rfl
    | 2, _ => rfl)

theorem u64_ge (z : Int) : 0 ≤ IntKind.u64.wrap z ∧ IntKind.u64.wrap z ≤ 18446744073709551615 := by rw [IntKind.wrap_u64]; omega

theorem dice_x (s2 : Int) (h0 : 0 ≤ s2) (h1 : s2 ≤ 18446744073709551615) : 0 ≤ wrap64 (bits BinOp.and IntKind.u64 (s2 / 8589934592) 16777215) ∧ wrap64 (bits BinOp.and IntKind.u64 (s2 / 8589934592) 16777215) ≤ 16777215 := by
  have h := bits_mask .u64 63 (by decide) ConcN.wraps_u64_63 24 (by decide) (s2 / 8589934592) (by omega) (by omega)
  have e : ((2 : Int) ^ 24 - 1) = 16777215 := by decide
  have e2 : ((2 : Int) ^ 24) = 16777216 := by decide
  rw [e, e2] at h
  rw [h, IntWalk.wrap64_in _ (by omega)]
  omega

set_option maxRecDepth 100000 in
set_option maxHeartbeats 1000000 in
theorem roll (a : Option Addr) (n cap : Nat) (s : Int) (w : World) (h : Bytes w a n) :
    Calls Tryz.prog 19 #[.slice a n cap, .int .u64 s] w fun e w' => e = .returned (.pointer (some ⟨w.heap.size, 0, none⟩)) ∧ Dice w' w.heap.size ∧ Below w.heap.size w w' := by
  have HB := Lib.hid h
  obtain ⟨hm, hcode⟩ := h
  unfold maxLen at hm
  have hst : ∀ h : Int, (w.alloc (.cells #[.slice a n cap, .int .i64 0, .int .u64 h] 72)).rowIs w.heap.size 72 3 (diceF a n cap 0 h) := fun h =>
    World.rowIs_alloc w _ _ _ (fun i hi => by
      match i, hi with
      | 0, _ => rfl
      | 1, _ => rfl
      | 2, _ => rfl)
  have HST := Lib.hid hst
  clear hst
  go_enter Tryz.func19, Tryz.ntmps19
  go_wp2
  go_loopw [6] (fun i wr => ∃ (k : Nat) (h : Int), k ≤ n ∧ i = .int .i64 k ∧ wr.rowIs w.heap.size 72 3 (diceF a n cap 0 h) ∧ Below w.heap.size w wr) (fun i _ => n - (intOf i).toNat)
  case atStart => exact ⟨0, _, Nat.zero_le _, rfl, HST.out _, b_alloc _ _⟩
  case round =>
    obtain ⟨k, h, hk, rfl, hrow, hb⟩ := hrel
    clear HST
    have HR := Lib.hid hrow
    have HBW := Lib.hid hb
    by_cases hlt : k < n
    · rcases hcode with h0 | ⟨b, off, rfl, hbl, hc⟩
      · omega
      obtain ⟨x, x1, x2, hx⟩ := hc k hlt
      have hx' : wr.cell? ⟨b, off + k, none⟩ = some (.int .u8 x) := by rw [hb.cell (p := ⟨b, off + k, none⟩) hbl]; exact hx
      have c2 : wr.cell? ⟨w.heap.size, 2, none⟩ = some (.int .u64 h) := hrow.cell (i := 2) (by omega)
      have f2 := hrow.frozen 2
      have hki : (k : Int) < (n : Int) := by omega
      clear hc hx hrow hb
      go_wp2
      go_still_tail 15, (by kernel_rfl)
      change wpList _ _ _ _ _ wr.drew
      go_wp2
      first
        | exact ⟨⟨k + 1, _, by omega, by go_num, dice_num (w := wr.drew) HR.out _, (HBW.out.drew).setCell (Nat.le_refl _) _⟩, by simp [intOf]; omega⟩
        | (go_roundw
           case rel => exact ⟨k + 1, _, by omega, by go_num, dice_num (w := wr.drew) HR.out _, (HBW.out.drew).setCell (Nat.le_refl _) _⟩
           case measure => simp [intOf]; omega)
    · obtain rfl : k = n := by omega
      clear hrow hb hcode
      go_wp2
      go_ret
      exact ⟨rfl, ⟨a, k, cap, 0, h, HR.out, (CodeAt.below HB.out HBW.out), Nat.zero_le _⟩, HBW.out⟩

/-- What the dice hands out. -/
def DicePost (g : Nat) (n : Int) (w : World) (e : Ending) (w' : World) : Prop := ∃ x : Int, e = .returned (.int .i64 x) ∧ 0 ≤ x ∧ x < n ∧ Dice w' g ∧ Thr g w w'

theorem dice_fin {g : Nat} {n : Int} {w w2 : World} {a : Option Addr} {m cap t : Nat} {s x : Int} (hn : 1 ≤ n) (hrow : w2.rowIs g 72 3 (diceF a m cap t s)) (hc : CodeAt w g a m) (ht : t ≤ m) (hthr : Thr g w w2) : DicePost g n w (.returned (.int .i64 (x % n))) w2 :=
  ⟨_, rfl, Int.emod_nonneg _ (by omega), Int.emod_lt_of_pos _ (by omega), ⟨a, m, cap, t, s, hrow, hc.below hthr.below, ht⟩, hthr⟩

set_option maxRecDepth 100000 in
set_option maxHeartbeats 1000000 in
theorem below_ (g : Nat) (n : Int) (w : World) (h : Dice w g) (h1 : 1 ≤ n) (h2 : n ≤ 1000000) :
    Calls Tryz.prog 20 #[.pointer (some ⟨g, 0, none⟩), .int .i64 n] w (DicePost g n w) := by
  obtain ⟨a, m, cap, t, s, hrow, hcode, ht⟩ := h
  have c0 : w.cell? ⟨g, 0, none⟩ = some (.slice a m cap) := hrow.cell (i := 0) (by omega)
  have c1 : w.cell? ⟨g, 1, none⟩ = some (.int .i64 t) := hrow.cell (i := 1) (by omega)
  have c2 : w.cell? ⟨g, 2, none⟩ = some (.int .u64 s) := hrow.cell (i := 2) (by omega)
  have f0 := hrow.frozen 0
  have f1 := hrow.frozen 1
  have f2 := hrow.frozen 2
  have HR := Lib.hid hrow
  have HC := Lib.hid hcode
  have hm := hcode.1
  unfold maxLen at hm
  obtain ⟨s2, hs2⟩ : ∃ s2, IntKind.u64.wrap (IntKind.u64.wrap (s * 6364136223846793005) + 1442695040888963407) = s2 := ⟨_, rfl⟩
  have hb2 := u64_ge (IntKind.u64.wrap (s * 6364136223846793005) + 1442695040888963407)
  rw [hs2] at hb2
  have hx12 := dice_x s2 hb2.1 hb2.2
  obtain ⟨x, hx⟩ : ∃ x, wrap64 (bits BinOp.and IntKind.u64 (s2 / 8589934592) 16777215) = x := ⟨_, rfl⟩
  rw [hx] at hx12
  obtain ⟨x1, x2⟩ := hx12
  have s20 := hb2.1
  clear hb2 hrow
  by_cases htm : t < m
  · obtain ⟨-, hcode⟩ := hcode
    rcases hcode with h0 | ⟨b, off, rfl, hbg, hc⟩
    · omega
    obtain ⟨y, y1, y2, hcy⟩ := hc t htm
    have hne : ¬ b = g := by omega
    have hti : (t : Int) < (m : Int) := by omega
    have ht0 : 0 ≤ (t : Int) + 1 := by omega
    clear hc
    go_enter Tryz.func20, Tryz.ntmps20
    go_wp2
    go_quiet (fail)
    go_wp2
    go_quiet (fail)
    go_wp2
    go_ret
    exact dice_fin h1 (dice_at (w := (w.setCell ⟨g, 2, none⟩ (.int .u64 s2)).drewN _) (dice_num HR.out s2) (t + 1) _ (by omega)) HC.out (by omega) ((((Thr.refl g w).setCell _).drewN _).setCell _)
  · obtain rfl : t = m := by omega
    clear hcode
    go_enter Tryz.func20, Tryz.ntmps20
    go_wp2
    go_quiet (fail)
    go_wp2
    go_ret
    exact dice_fin h1 (dice_num HR.out s2) HC.out (by omega) (((Thr.refl g w).setCell _).drewN _)
theorem Dice.then {g : Nat} {w w' : World} {B : Nat} (h : Dice w g) (hb : Below B w w') (hg : g < B) : Dice w' g := by
  obtain ⟨a, n, cap, i, x, h1, h2, h3⟩ := h
  exact ⟨a, n, cap, i, x, h1.of_block (hb.block g hg), h2.below (hb.mono (Nat.le_of_lt hg)), h3⟩
end Go.Proofs.YtcofjjipjcekjaaGreat.V

namespace Go.Proofs.YtcofjjipjcekjaaGreat.V
set_option maxRecDepth 100000
open Go.RowKit Go.Maps
theorem keyI : Keyed Tryz.prog 2 := int_keyed Tryz.underlying2
theorem zeroB (w : World) : (zeroValue 4).run Tryz.prog w = .ok (.bool false) w := by kernel_rfl
theorem keyAt (t : Nat) (ht : t < 1000) : keyOf Tryz.prog 2 (.int .i64 (t : Int)) = some (.int .i64 (t : Int)) := keyOf_int_mk Tryz.underlying2 (WalkArith.wf_i64 (by omega))
/-- Block b is a map that holds the set S of the n nodes. -/
def IsSet (w : World) (b n : Nat) (S : Nat → Bool) : Prop :=
  ∃ D : DataW Unit, w.ownsMap Tryz.prog 2 (plainElem Tryz.prog 4) b (M.cnt S n) D ∧ IsMap D ∧ ∀ t : Nat, t < n → D.atKey (.int .i64 (t : Int)) (.lit (.bool false)) = .lit (.bool (S t))
theorem IsSet.lt {w : World} {b n : Nat} {S : Nat → Bool} (h : IsSet w b n S) : b < w.heap.size := by
  obtain ⟨D, h, -⟩ := h
  exact h.lt
theorem IsSet.block {w w' : World} {b n : Nat} {S : Nat → Bool} (h : IsSet w b n S) (e : w'.heap[b]? = w.heap[b]?) : IsSet w' b n S := by
  obtain ⟨D, ⟨es, clock, hb, F, hs, hD⟩, h2, h3⟩ := h
  exact ⟨D, ⟨es, clock, e.trans hb, F, hs, hD⟩, h2, h3⟩
theorem IsSet.below {w w' : World} {B b n : Nat} {S : Nat → Bool} (h : IsSet w b n S) (hb : Below B w w') (hB : b < B) : IsSet w' b n S := h.block (hb.block b hB)
theorem IsSet.congr {w : World} {b n : Nat} {S S' : Nat → Bool} (h : IsSet w b n S) (e : ∀ i, i < n → S i = S' i) : IsSet w b n S' := by
  obtain ⟨D, h1, h2, h3⟩ := h
  exact ⟨D, by rw [← M.cnt_congr e]; exact h1, h2, fun t ht => by rw [h3 t ht, e t ht]⟩
theorem isSet_made (w : World) (n : Nat) : IsSet (w.alloc (.map #[] 0)) w.heap.size n (fun _ => false) :=
  ⟨.map [], by rw [M.cnt_none fun _ _ => rfl]; exact World.ownsMap_made _ _ _ _, ⟨[], rfl⟩, fun _ _ => rfl⟩
theorem plainElem_bool_inv {v : Value} {z : DataW Unit × List MemPlace} (h : plainElem Tryz.prog 4 v = some z) : ∃ x, v = .bool x ∧ z = (.lit (.bool x), []) := by
  unfold plainElem at h
  rw [Tryz.underlying4] at h
  cases v <;> simp at h
  exact ⟨_, rfl, h.symm⟩
end Go.Proofs.YtcofjjipjcekjaaGreat.V

namespace Go.Proofs.YtcofjjipjcekjaaGreat.V
set_option maxRecDepth 100000
open Go.RowKit Go.Maps
end Go.Proofs.YtcofjjipjcekjaaGreat.V

namespace Go.Proofs.YtcofjjipjcekjaaGreat.V
open Go.RowKit

end Go.Proofs.YtcofjjipjcekjaaGreat.V

namespace Go.Proofs.YtcofjjipjcekjaaGreat.V
set_option maxRecDepth 100000
open Go.RowKit Go.Maps
end Go.Proofs.YtcofjjipjcekjaaGreat.V

namespace Go.Proofs.YtcofjjipjcekjaaGreat
namespace M
def canRes (R : List (List Int)) (x y : Int) : Bool × Int := if sqB R then (if inN R.length x && inN R.length y then (rchB (ent R) R.length x.toNat y.toNat, 0) else (false, 2)) else (false, 1)
def cmpsRes (R : List (List Int)) : List (List Int) × Int := if sqB R then (compsL (ent R) R.length, 0) else ([], 1)
def irrRes (R : List (List Int)) : Bool × Int := if sqB R then (decide ((compL (ent R) R.length 0).length = R.length), 0) else (false, 1)
theorem nodes2 (n : Nat) (x y : Int) : nodesB n [x, y] = (inN n x && inN n y) := by unfold nodesB; simp
theorem inN_k {n : Nat} {x : Int} (h : inN n x = true) : ∃ k : Nat, k < n ∧ x = k := by
  unfold inN at h
  rw [Bool.and_eq_true, decide_eq_true_eq, decide_eq_true_eq] at h
  exact ⟨x.toNat, by omega, by omega⟩
end M
namespace V
open Go.RowKit Go.Maps
def BPostC (r : Bool × Int) (w : World) (e : Ending) (w' : World) : Prop := e = .returned (.tuple #[.bool r.1, .int .i64 r.2]) ∧ Below w.heap.size w w'
theorem BPostC.mk' {r : Bool × Int} {b : Bool} {c : Int} {w w' : World} (hr : r = (b, c)) (hb : Below w.heap.size w w') : BPostC r w (.returned (.tuple #[.bool b, .int .i64 c])) w' := by subst hr; exact ⟨rfl, hb⟩
end V
end Go.Proofs.YtcofjjipjcekjaaGreat

namespace Go.Proofs.YtcofjjipjcekjaaGreat
namespace M
theorem pre_sum (L : List (List Int)) : pre L L.length = sumLen L := by
  unfold pre
  rw [List.take_length]
  induction L with
  | nil => rfl
  | cons l L ih => rw [List.map_cons, List.sum_cons, ih]; rfl
theorem cmps_ok (R : List (List Int)) : pre (cmpsRes R).1 (cmpsRes R).1.length ≤ 100 ∧ (cmpsRes R).1.length ≤ 10 := by
  unfold cmpsRes
  by_cases h : sqB R = true
  · rw [if_pos h]
    obtain ⟨n1, n2, -⟩ := sq_sm h
    refine ⟨?_, ?_⟩
    · show pre (compsL _ _) (compsL _ _).length ≤ 100
      rw [pre_sum, sum_compsL]; omega
    · have := compsP_len (ent R) R.length R.length
      show (compsL _ _).length ≤ 10
      unfold compsL; omega
  · rw [if_neg h]; exact ⟨by unfold pre; simp, by simp⟩
end M
end Go.Proofs.YtcofjjipjcekjaaGreat

namespace Go.Proofs.YtcofjjipjcekjaaGreat
namespace M
/-- The matrix shifted by its cycle mean. -/
def crS (R : List (List Int)) (i j : Nat) : Int := shf (ent R) (bestR (ent R) R.length).1 (bestR (ent R) R.length).2 i j
/-- Is the arc from j to i critical? -/
def crB (R : List (List Int)) (j i : Nat) : Bool := decide (times (crS R i j) (starF (crS R) R.length j i) = 0)
def crCode (R : List (List Int)) : Int := if sqB R then (if hasCyc (ent R) R.length then 0 else 4) else 1
theorem cr_code {R : List (List Int)} (h : crCode R = 0) : sqB R = true ∧ hasCyc (ent R) R.length = true := by
  unfold crCode at h
  by_cases h1 : sqB R = true
  · rw [if_pos h1] at h
    by_cases h2 : hasCyc (ent R) R.length = true
    · exact ⟨h1, h2⟩
    · rw [if_neg h2] at h; omega
  · rw [if_neg h1] at h; omega
theorem cr_code_of {R : List (List Int)} (h1 : sqB R = true) (h2 : hasCyc (ent R) R.length = true) : crCode R = 0 := by
  unfold crCode; rw [if_pos h1, if_pos h2]
/-- What is at hand where there is a cycle. -/
theorem cr_t {R : List (List Int)} (h1 : sqB R = true) (h2 : hasCyc (ent R) R.length = true) :
    Near (bestR (ent R) R.length).1 (bestR (ent R) R.length).2 ∧ (∀ i j, i < R.length → j < R.length → Sm 1000001000000 (crS R i j)) ∧ noPos (crS R) R.length = true := by
  obtain ⟨n1, n2, hA⟩ := sq_sm h1
  obtain ⟨hbest, hnear, -⟩ := bestR_best n2 hA h2
  exact ⟨hnear, sh_sm hA hnear, noPos_of_walk n2 hA hnear fun v s w _ _ h3 h4 _ h6 => hbest.2.2.1 v s w h3 h4 h6⟩
theorem times0 {x y : Int} (h : times x y = 0) : x ≠ -1000000000000000 ∧ y ≠ -1000000000000000 := by
  unfold times at h
  split at h
  · omega
  · next k => exact ⟨fun e => k (.inl e), fun e => k (.inr e)⟩
theorem best_crit (R : List (List Int)) (i j : Nat) : (decide (bestF (crS R) R.length i j ≠ -1000000000000000)) = crB R j i := by
  unfold bestF crB
  by_cases h : times (crS R i j) (starF (crS R) R.length j i) = 0
  · rw [if_pos h, decide_eq_true h, decide_eq_true (times0 h).1]
  · rw [if_neg h, decide_eq_false h]; simp
theorem crB_o {R : List (List Int)} (h1 : sqB R = true) (h2 : hasCyc (ent R) R.length = true) {i j : Nat} (hi : i < R.length) (hj : j < R.length) :
    crB R j i = true ↔ omul (o (crS R i j)) (obm (fun i j => o (crS R i j)) R.length R.length j i) = some 0 := by
  obtain ⟨n1, n2, -⟩ := sq_sm h1
  obtain ⟨-, hS, hp⟩ := cr_t h1 h2
  have e1 : o (starF (crS R) R.length j i) = obm (fun i j => o (crS R i j)) R.length R.length j i := by
    unfold starF
    rw [← clo_star n2 hS hp hj hi, o_cbm hS R.length (by omega) j i hj hi]
  rw [← e1, ← o_times (hS i j hi hj) (star_sm n2 hS hp hj hi) (by omega) (by omega)]
  unfold crB
  rw [decide_eq_true_eq]
  constructor
  · intro h; rw [h]; rfl
  · intro h; exact o_inj (by rw [h]; rfl)
section
variable {f : Nat → Nat → Option Int} {n : Nat} (hd : ∀ m, m < n → ole (ofw f m m m) (some 0))
include hd
theorem obm_tri {i k j : Nat} (hi : i < n) (hk : k < n) (hj : j < n) : ole (omul (obm f n n i k) (obm f n n k j)) (obm f n n i j) := by
  rcases obm_att (f := f) (n := n) n i k hi hk with z | ⟨v, s, -, v0, vs, hv, z⟩
  · rw [z]; exact ole_none _
  · rcases obm_att (f := f) (n := n) n k j hk hj with y | ⟨u, t, -, u0, ut, hu, y⟩
    · rw [y, omul_none]; exact ole_none _
    · obtain ⟨x, x0, xs, hx, e⟩ := join_walk (g := f) (n := n) (x := u) (y := v) (s := t) (t := s) (by rw [ut, v0]) hu hv
      rw [z, y, ← e]
      have := owk_star hd x (t + s) hx
      rw [x0, xs, u0, vs] at this
      exact this
/-- A walk of arcs that each weigh what the best way back takes off. -/
theorem crit_walk (v : Nat → Nat) (s : Nat) (hv : ∀ u, u ≤ s → v u < n) (h : ∀ u, u < s → omul (f (v (u + 1)) (v u)) (obm f n n (v u) (v (u + 1))) = some 0) :
    ∃ w, owk f v s = some w ∧ ole (some (-w)) (obm f n n (v 0) (v s)) := by
  induction s with
  | zero => exact ⟨0, rfl, by rw [obm_self hd (hv 0 (Nat.le_refl _))]; exact Int.le_refl _⟩
  | succ s ih =>
    obtain ⟨w, e, hw⟩ := ih (fun u hu => hv u (by omega)) (fun u hu => h u (by omega))
    have hs := h s (by omega)
    cases ea : f (v (s + 1)) (v s) with
    | none => rw [ea] at hs; cases hs
    | some a =>
      rw [ea] at hs
      cases eb : obm f n n (v s) (v (s + 1)) with
      | none => rw [eb] at hs; cases hs
      | some b =>
        rw [eb] at hs
        have hab : a + b = 0 := Option.some.inj hs
        refine ⟨a + w, by show omul (f (v (s + 1)) (v s)) (owk f v s) = _; rw [ea, e]; rfl, ?_⟩
        have ht := obm_tri hd (hv 0 (by omega)) (hv s (by omega)) (hv (s + 1) (Nat.le_refl _))
        refine ole_trans ?_ ht
        cases ec : obm f n n (v 0) (v s) with
        | none => rw [ec] at hw; exact hw.elim
        | some c =>
          rw [ec] at hw
          rw [eb]
          have : -w ≤ c := hw
          show -(a + w) ≤ c + b
          omega
end
/-- Are all arcs of a cycle critical? -/
def crAll (R : List (List Int)) (l : List Int) : Bool := (List.range l.length).all fun k => crB R (vx l k) (vx l ((k + 1) % l.length))
theorem crCycB_t {R : List (List Int)} {l : List Int} (h : cycB R l = true) : 1 ≤ l.length ∧ nodesB R.length l = true ∧ diffB l = true ∧ arW (ent R) l ≠ -1000000000000000 := by
  unfold cycB at h
  rw [Bool.and_eq_true, Bool.and_eq_true, Bool.and_eq_true] at h
  exact ⟨of_decide_eq_true h.1.1.1, h.1.1.2, h.1.2, of_decide_eq_true h.2⟩
/-- A cycle has the greatest mean exactly if all of its arcs are critical. -/
theorem crit_cyc {R : List (List Int)} (h1 : sqB R = true) (h2 : hasCyc (ent R) R.length = true) {l : List Int} (hl : cycB R l = true) :
    decide (meanR (aroundW R l) l.length = bestR (ent R) R.length) = crAll R l := by
  obtain ⟨n1, n2, hA⟩ := sq_sm h1
  obtain ⟨hnear, hS, hp⟩ := cr_t h1 h2
  obtain ⟨l1, hn, hdf, hf⟩ := crCycB_t hl
  have l2 := diffB_len hn hdf
  have hd := o_diag n2 hS hp
  obtain ⟨⟨b1, b2, b3, -⟩, -⟩ := bestR_best n2 hA h2
  have hsh := list_sh hA hnear l1 (by omega) hn
  rw [o_fin hf] at hsh
  have hsh : o (arW (crS R) l) = some ((bestR (ent R) R.length).2 * arW (ent R) l - (l.length : Int) * (bestR (ent R) R.length).1) := hsh
  have ho := list_owk hS l1 (by omega) hn
  have hlt : ∀ u, u % l.length < l.length := fun u => Nat.mod_lt _ (by omega)
  have hvn : ∀ u, vx l (u % l.length) < R.length := fun u => vx_lt hn (hlt u)
  have hmean : meanR (aroundW R l) l.length = bestR (ent R) R.length ↔ (bestR (ent R) R.length).2 * arW (ent R) l = (l.length : Int) * (bestR (ent R) R.length).1 := by
    rw [around_arW]
    have hb := rat_back (n := arW (ent R) l) (d := (l.length : Int)) (by omega)
    have hg := rat_gcd (n := arW (ent R) l) (d := (l.length : Int)) (by omega)
    have hpos := rat_pos (n := arW (ent R) l) (d := (l.length : Int)) (by omega)
    constructor
    · intro e
      have e1 : ratN (arW (ent R) l) l.length = (bestR (ent R) R.length).1 := congrArg Prod.fst e
      have e2 : ratD (arW (ent R) l) l.length = (bestR (ent R) R.length).2 := congrArg Prod.snd e
      rw [e1, e2] at hb
      rw [Int.mul_comm, ← hb]; ac_rfl
    · intro heq
      have e : ratN (arW (ent R) l) l.length * (bestR (ent R) R.length).2 = (bestR (ent R) R.length).1 * ratD (arW (ent R) l) l.length := by
        refine Int.eq_of_mul_eq_mul_left (a := (l.length : Int)) (by omega) ?_
        have e1 : (l.length : Int) * (ratN (arW (ent R) l) l.length * (bestR (ent R) R.length).2) = ratN (arW (ent R) l) l.length * l.length * (bestR (ent R) R.length).2 := by ac_rfl
        have e2 : (l.length : Int) * ((bestR (ent R) R.length).1 * ratD (arW (ent R) l) l.length) = (l.length : Int) * (bestR (ent R) R.length).1 * ratD (arW (ent R) l) l.length := by ac_rfl
        rw [e1, e2, hb, ← heq]; ac_rfl
      obtain ⟨e1, e2⟩ := lowest_eq hpos b1 hg b2 e
      exact Prod.ext e1 e2
  have hall : crAll R l = true ↔ ∀ u, u < l.length → omul (o (crS R (vx l ((u + 1) % l.length)) (vx l (u % l.length)))) (obm (fun i j => o (crS R i j)) R.length R.length (vx l (u % l.length)) (vx l ((u + 1) % l.length))) = some 0 := by
    unfold crAll
    rw [List.all_eq_true]
    constructor
    · intro h u hu
      have := h u (List.mem_range.2 hu)
      rw [← Nat.mod_eq_of_lt hu] at this
      rw [Nat.mod_add_mod] at this
      exact (crB_o h1 h2 (hvn _) (hvn _)).1 this
    · intro h u hu
      have hu := List.mem_range.1 hu
      have := (crB_o h1 h2 (hvn _) (hvn _)).2 (h u hu)
      rw [Nat.mod_eq_of_lt hu] at this
      exact this
  apply Bool.eq_iff_iff.2
  rw [decide_eq_true_eq, hmean, hall]
  constructor
  · intro e u hu
    refine arc_back hd (v := fun u => vx l (u % l.length)) (s := l.length) l1 (by show vx l _ = vx l _; rw [Nat.mod_self, Nat.zero_mod]) (fun u _ => hvn u) ?_ hu
    rw [← ho, hsh]
    show (0 : Int) ≤ _
    omega
  · intro h
    obtain ⟨w, ew, hw⟩ := crit_walk hd (fun u => vx l (u % l.length)) l.length (fun u _ => hvn u) h
    have hc : vx l (l.length % l.length) = vx l (0 % l.length) := by rw [Nat.mod_self, Nat.zero_mod]
    rw [hc, obm_self hd (hvn 0)] at hw
    have hw : -w ≤ 0 := hw
    have hle := owk_diag hd (fun u => vx l (u % l.length)) l.length (fun u _ => hvn u) hc
    rw [ew] at hle
    have hle : w ≤ 0 := hle
    rw [← ho, hsh] at ew
    have ew := Option.some.inj ew
    omega
def crAllK (R : List (List Int)) (l : List Int) (k : Nat) : Bool := (List.range k).all fun k => crB R (vx l k) (vx l (k + 1))
theorem crAllK_next (R : List (List Int)) (l : List Int) (k : Nat) : crAllK R l (k + 1) = (crAllK R l k && crB R (vx l k) (vx l (k + 1))) := by
  unfold crAllK; rw [List.range_succ, List.all_append]; simp
theorem crAllK_less {R : List (List Int)} {l : List Int} {k m : Nat} (h : crAllK R l k = false) (hk : k ≤ m) : crAllK R l m = false := by
  induction m with
  | zero => obtain rfl : k = 0 := by omega
            exact h
  | succ m ih =>
    by_cases e : k = m + 1
    · subst e; exact h
    · rw [crAllK_next, ih (by omega)]; rfl
theorem crAll_split {R : List (List Int)} {l : List Int} {m : Nat} (h : l.length = m + 1) : crAll R l = (crAllK R l m && crB R (vx l m) (vx l 0)) := by
  unfold crAll crAllK
  rw [h, List.range_succ, List.all_append]
  congr 1
  · apply Bool.eq_iff_iff.2
    rw [List.all_eq_true, List.all_eq_true]
    constructor
    · intro q u hu
      have := q u hu
      rw [Nat.mod_eq_of_lt (by have := List.mem_range.1 hu; omega)] at this
      exact this
    · intro q u hu
      have := q u hu
      rw [Nat.mod_eq_of_lt (by have := List.mem_range.1 hu; omega)]
      exact this
  · simp
/-! ### The set of arcs as it is filled -/
def upd2 (S : Nat → Nat → Bool) (f t a b : Nat) : Bool := (decide (a = f) && decide (b = t)) || S a b
def crP (R : List (List Int)) (s t f i : Nat) : Bool := crB R f i && (decide (i < s) || (decide (i = s) && decide (f < t)))
theorem crP_zero (R : List (List Int)) (f i : Nat) : crP R 0 0 f i = false := by unfold crP; simp
theorem crP_put {R : List (List Int)} {s t : Nat} (h : crB R t s = true) (f i : Nat) : upd2 (crP R s t) t s f i = crP R s (t + 1) f i := by
  unfold upd2 crP
  by_cases e : f = t ∧ i = s
  · obtain ⟨rfl, rfl⟩ := e
    simp [h]
  · have e1 : (decide (f = t) && decide (i = s)) = false := by
      by_cases a : f = t
      · by_cases b : i = s
        · exact absurd ⟨a, b⟩ e
        · simp [b]
      · simp [a]
    rw [e1, Bool.false_or]
    by_cases b : i = s
    · have a : f ≠ t := fun a => e ⟨a, b⟩
      have : decide (f < t) = decide (f < t + 1) := by
        by_cases k : f < t
        · rw [decide_eq_true k, decide_eq_true (by omega)]
        · rw [decide_eq_false k, decide_eq_false (by omega)]
      rw [this]
    · rw [decide_eq_false b]; simp
theorem crP_skip {R : List (List Int)} {s t : Nat} (h : crB R t s = false) (f i : Nat) : crP R s t f i = crP R s (t + 1) f i := by
  unfold crP
  by_cases e : f = t ∧ i = s
  · obtain ⟨rfl, rfl⟩ := e
    simp [h]
  · by_cases b : i = s
    · have a : f ≠ t := fun a => e ⟨a, b⟩
      have : decide (f < t) = decide (f < t + 1) := by
        by_cases k : f < t
        · rw [decide_eq_true k, decide_eq_true (by omega)]
        · rw [decide_eq_false k, decide_eq_false (by omega)]
      rw [this]
    · rw [decide_eq_false b]; simp
theorem crP_row {R : List (List Int)} {s n : Nat} {f i : Nat} (hf : f < n) : crP R s n f i = crP R (s + 1) 0 f i := by
  unfold crP
  congr 1
  by_cases a : i < s
  · simp [a, Nat.lt_succ_of_lt a]
  · by_cases b : i = s
    · subst b; simp [hf]
    · have : ¬ i < s + 1 := by omega
      simp [a, b, this]
theorem crP_end {R : List (List Int)} {n f i : Nat} (hi : i < n) : crP R n 0 f i = crB R f i := by unfold crP; simp [hi]
/-! ### The results -/
def arcRow (R : List (List Int)) (j k : Nat) : List (List Int) := (List.range k).flatMap fun i => if crB R j i then [[(j : Int), (i : Int)]] else []
def arcsP (R : List (List Int)) (k : Nat) : List (List Int) := (List.range k).flatMap fun j => arcRow R j R.length
def arcsL (R : List (List Int)) : List (List Int) := arcsP R R.length
def arcsRes (R : List (List Int)) : List (List Int) × Int := if crCode R = 0 then (arcsL R, 0) else ([], crCode R)
theorem arcRow_next (R : List (List Int)) (j k : Nat) : arcRow R j (k + 1) = arcRow R j k ++ (if crB R j k then [[(j : Int), (k : Int)]] else []) := by
  unfold arcRow; rw [List.range_succ, List.flatMap_append]; simp
theorem arcsP_next (R : List (List Int)) (k : Nat) : arcsP R (k + 1) = arcsP R k ++ arcRow R k R.length := by
  unfold arcsP; rw [List.range_succ, List.flatMap_append]; simp
theorem arcRow_len (R : List (List Int)) (j k : Nat) : (arcRow R j k).length ≤ k := by
  induction k with
  | zero => simp [arcRow]
  | succ k ih => rw [arcRow_next, List.length_append]; split <;> simp <;> omega
theorem arcsP_len (R : List (List Int)) (k : Nat) : (arcsP R k).length ≤ k * R.length := by
  induction k with
  | zero => simp [arcsP]
  | succ k ih =>
    rw [arcsP_next, List.length_append, Nat.succ_mul]
    have := arcRow_len R k R.length
    omega
def crN (R : List (List Int)) (j : Nat) : Bool := (List.range R.length).any fun i => crB R j i
def nodesP (R : List (List Int)) (k : Nat) : List Int := ((List.range k).filter (crN R)).map fun i : Nat => (i : Int)
def nodesL (R : List (List Int)) : List Int := nodesP R R.length
def nodesRes (R : List (List Int)) : List Int × Int := if crCode R = 0 then (nodesL R, 0) else ([], crCode R)
def crF (R : List (List Int)) (i j : Nat) : Int := if crB R j i then ent R i j else -1000000000000000
def crM (R : List (List Int)) : List (List Int) := mk R.length R.length (crF R)
def matRes (R : List (List Int)) : List (List Int) × Int := if crCode R = 0 then (crM R, 0) else ([], crCode R)
def isCritRes (R : List (List Int)) (l : List Int) : Bool × Int := if crCode R = 0 then (cycB R l && crAll R l, 0) else (false, crCode R)
def crComps (R : List (List Int)) : List (List Int) := (compsL (ent (crM R)) R.length).filter fun l => crN R (vx l 0)
def compRes (R : List (List Int)) : List (List Int) × Int := if crCode R = 0 then (crComps R, 0) else ([], crCode R)
end M
end Go.Proofs.YtcofjjipjcekjaaGreat

namespace Go.Proofs.YtcofjjipjcekjaaGreat
namespace M
theorem sumLen_filter (p : List Int → Bool) : ∀ L : List (List Int), sumLen (L.filter p) ≤ sumLen L
  | [] => Nat.le_refl _
  | l :: L => by
    have ih := sumLen_filter p L
    by_cases h : p l = true
    · rw [List.filter_cons_of_pos h]
      show l.length + sumLen (L.filter p) ≤ l.length + sumLen L
      omega
    · rw [List.filter_cons_of_neg h]
      show sumLen (L.filter p) ≤ l.length + sumLen L
      omega
theorem compRes_ok (R : List (List Int)) : pre (compRes R).1 (compRes R).1.length ≤ 100 ∧ (compRes R).1.length ≤ 10 := by
  unfold compRes
  by_cases h : crCode R = 0
  · rw [if_pos h]
    obtain ⟨n1, n2, -⟩ := sq_sm (cr_code h).1
    refine ⟨?_, ?_⟩
    · show pre (crComps R) (crComps R).length ≤ 100
      rw [pre_sum]
      unfold crComps
      have h1 := sumLen_filter (fun l => crN R (vx l 0)) (compsL (ent (crM R)) R.length)
      rw [sum_compsL] at h1
      omega
    · show (crComps R).length ≤ 10
      unfold crComps
      have h1 := List.length_filter_le (fun l => crN R (vx l 0)) (compsL (ent (crM R)) R.length)
      have h2 := compsP_len (ent (crM R)) R.length R.length
      unfold compsL at h1 ⊢
      omega
  · rw [if_neg h]; exact ⟨by unfold pre; simp, by simp⟩
end M
end Go.Proofs.YtcofjjipjcekjaaGreat

namespace Go.Proofs.YtcofjjipjcekjaaGreat
namespace M
def arcsQ (R : List (List Int)) (j i : Nat) : List (List Int) := arcsP R j ++ arcRow R j i
theorem arcsQ_zero (R : List (List Int)) (j : Nat) : arcsQ R j 0 = arcsP R j := by simp [arcsQ, arcRow]
theorem arcsQ_next (R : List (List Int)) (j i : Nat) : arcsQ R j (i + 1) = arcsQ R j i ++ (if crB R j i then [[(j : Int), (i : Int)]] else []) := by
  unfold arcsQ; rw [arcRow_next, List.append_assoc]
theorem arcsQ_end (R : List (List Int)) (j : Nat) : arcsQ R j R.length = arcsP R (j + 1) := by unfold arcsQ; rw [arcsP_next]
theorem arcsQ_len (R : List (List Int)) {j i : Nat} (hj : j ≤ R.length) (hi : i ≤ R.length) (hn : R.length ≤ 10) : (arcsQ R j i).length ≤ 200 := by
  have h1 := arcsP_len R j
  have h2 := arcRow_len R j i
  have h3 := Nat.mul_le_mul hj (Nat.le_refl R.length)
  have h4 := Nat.mul_le_mul hn hn
  unfold arcsQ
  rw [List.length_append]
  omega
end M
namespace V
set_option maxRecDepth 100000
open Go.RowKit
theorem ownLit2 (w : World) (x y : Int) : Own (w.alloc (.cells #[.int .i64 x, .int .i64 y] 2)) w.heap.size (.slice (some ⟨w.heap.size, 0, none⟩) 2 2) [x, y] := World.ownsRow_lit w #[.int .i64 x, .int .i64 y] 2 (Nat.le_refl _) (by decide) rfl
theorem appendRowLit (w0 : World) {ops : Array Oper} {rest : List Oper} {o : Oper} {a : Act} {Q : Exit → Act → World → Prop} (hgd : o.guard = none) (s x : Operand)
    (ho : o.op = .call { callee := .builtin .append, args := #[s, x], argTypes := #[24, 24] }) (B : Nat) (v : Value) (L : List (List Int)) (p q : Int) (n : Nat) (hn : L.length = n) (hs : a.eval s = v) (hown : OwnM w0 B v L)
    (hx : a.eval x = .slice (some ⟨w0.heap.size + 1, 0, none⟩) 1 1) (hlen : L.length ≤ 2000000) (hB : B ≤ w0.heap.size)
    (h : ∀ b' c' w', OwnM w' B (.slice b' (n + 1) c') (L ++ [[p, q]]) → Below B w0 w' → wpList Tryz.prog ops Q rest (a.put o.dst (.slice b' (n + 1) c')) w') :
    wpList Tryz.prog ops Q (o :: rest) a ((w0.alloc (.cells #[.int .i64 p, .int .i64 q] 2)).alloc (.cells #[.slice (some ⟨w0.heap.size, 0, none⟩) 2 2] 26)) :=
  appendRow w0 (w0.alloc (.cells #[.int .i64 p, .int .i64 q] 2)) hgd s x ho B v (.slice (some ⟨w0.heap.size, 0, none⟩) 2 2) L [p, q] n hn hs hown (b_alloc _ _) (ownLit2 _ _ _) (by rw [hx]; simp) hlen hB fun b' c' w' h1 h2 _ => h b' c' w' h1 (((b_alloc _ _).mono hB).trans h2)
end V
end Go.Proofs.YtcofjjipjcekjaaGreat

namespace Go.Proofs.YtcofjjipjcekjaaGreat
namespace M
theorem mem_arcsL {R : List (List Int)} {l : List Int} : l ∈ arcsL R ↔ ∃ j i : Nat, j < R.length ∧ i < R.length ∧ crB R j i = true ∧ l = [(j : Int), (i : Int)] := by
  unfold arcsL arcsP arcRow
  simp only [List.mem_flatMap, List.mem_range]
  constructor
  · rintro ⟨j, hj, i, hi, h⟩
    cases e : crB R j i with
    | false => rw [e] at h; simp at h
    | true => rw [e] at h; simp at h; exact ⟨j, i, hj, hi, e, h⟩
  · rintro ⟨j, i, hj, hi, e, rfl⟩
    exact ⟨j, hj, i, hi, by rw [e]; simp⟩
theorem arcsL_at {R : List (List Int)} {k : Nat} (h : k < (arcsL R).length) : ∃ j i : Nat, j < R.length ∧ i < R.length ∧ crB R j i = true ∧ (arcsL R).getD k [] = [(j : Int), (i : Int)] := by
  refine mem_arcsL.1 ?_
  rw [List.getD_eq_getElem?_getD, List.getElem?_eq_getElem h, Option.getD_some]
  exact List.getElem_mem h
theorem arcsL_len (R : List (List Int)) (hn : R.length ≤ 10) : (arcsL R).length ≤ 100 := by
  have h := arcsP_len R R.length
  have := Nat.mul_le_mul hn hn
  unfold arcsL; omega
def arcHas (R : List (List Int)) (k i j : Nat) : Bool := ((arcsL R).take k).contains [(j : Int), (i : Int)]
def matK (R : List (List Int)) (k i j : Nat) : Int := if arcHas R k i j then ent R i j else -1000000000000000
theorem arcHas_next {R : List (List Int)} {k j i : Nat} (h : k < (arcsL R).length) (e : (arcsL R).getD k [] = [(j : Int), (i : Int)]) (s t : Nat) : arcHas R (k + 1) s t = (arcHas R k s t || (decide (s = i) && decide (t = j))) := by
  unfold arcHas
  have e2 : (arcsL R).take (k + 1) = (arcsL R).take k ++ [[(j : Int), (i : Int)]] := by
    rw [List.take_add_one, ← e, List.getD_eq_getElem?_getD, List.getElem?_eq_getElem h]; rfl
  rw [e2]
  by_cases hst : s = i ∧ t = j
  · obtain ⟨rfl, rfl⟩ := hst
    simp
  · have h1 : (decide (s = i) && decide (t = j)) = false := by
      by_cases a : s = i
      · by_cases b : t = j
        · exact absurd ⟨a, b⟩ hst
        · simp [b]
      · simp [a]
    rw [h1, Bool.or_false]
    have h2 : ([(t : Int), (s : Int)] = [(j : Int), (i : Int)]) = False := by
      simp only [List.cons.injEq, and_true, eq_iff_iff, iff_false]
      intro hh
      exact hst ⟨by omega, by omega⟩
    simp [h2]
theorem matK_zero (R : List (List Int)) (n : Nat) : mk n n (matK R 0) = botM n n := by
  unfold botM
  exact mk_congr fun i _ j _ => by unfold matK arcHas; simp
theorem matK_next {R : List (List Int)} {n k j i : Nat} (h : k < (arcsL R).length) (e : (arcsL R).getD k [] = [(j : Int), (i : Int)]) (hi : i < n) :
    (mk n n (matK R k)).set i (((mk n n (matK R k)).getD i []).set j (ent R i j)) = mk n n (matK R (k + 1)) := by
  rw [mk_set _ _ _ _ _ _ hi]
  refine mk_congr fun s _ t _ => ?_
  unfold matK
  rw [arcHas_next h e]
  by_cases a : s = i
  · by_cases b : t = j
    · subst a b; simp
    · rw [if_pos a, if_neg b]; simp [b]
  · rw [if_neg a]; simp [a]
theorem matK_end (R : List (List Int)) : mk R.length R.length (matK R (arcsL R).length) = crM R := by
  unfold crM
  refine mk_congr fun i hi j hj => ?_
  unfold matK crF arcHas
  rw [List.take_length]
  have : (arcsL R).contains [(j : Int), (i : Int)] = crB R j i := by
    apply Bool.eq_iff_iff.2
    rw [List.contains_iff_mem, mem_arcsL]
    constructor
    · rintro ⟨j', i', -, -, h, e⟩
      simp only [List.cons.injEq, and_true] at e
      rw [show j = j' by omega, show i = i' by omega]; exact h
    · intro h; exact ⟨j, i, hj, hi, h, rfl⟩
  rw [this]
theorem matRes_ok (R : List (List Int)) : okM (matRes R).1 := by
  unfold matRes
  by_cases h : crCode R = 0
  · rw [if_pos h]
    obtain ⟨h1, h2⟩ := cr_code h
    obtain ⟨n1, n2, hA⟩ := sq_sm h1
    obtain ⟨k1, k2⟩ := sqB_t h1
    right
    show isMat (crM R) = true
    unfold crM
    refine isMat_mk n1 n2 n1 n2 fun i hi j hj => ?_
    unfold crF
    split
    · exact (isMat_t k1).2.2.2.2.2 i hi j (by rw [← k2]; exact hj)
    · simp [isVal]
  · rw [if_neg h]; exact .inl rfl
end M
namespace V
set_option maxRecDepth 100000
open Go.RowKit
theorem OwnM.rowLt {w w' : World} {B n cap g i q m c : Nat} {R : List (List Int)} (h : OwnM w B (.slice (some ⟨g, 0, none⟩) n cap) R) (hr : Rect R n n) (hi : i < n) (hn : 1 ≤ n) (hg : w'.heap[g]? = w.heap[g]?)
    (hc : w'.cell? ⟨g, i, none⟩ = some (.slice (some ⟨q, 0, none⟩) m c)) : q < w.heap.size := by
  have e : w.cell? ⟨g, i, none⟩ = some (.slice (some ⟨q, 0, none⟩) m c) := (World.cell?_of_block (w := w') (a := ⟨g, i, none⟩) hg.symm).trans hc
  obtain ⟨g3, q3, c3', -, -, hgg, -, hrow3, hx3, -⟩ := h.tri hr i 0 0 hi (by omega) (by omega)
  injection hgg with hgg
  injection hgg with hgg
  subst hgg
  rw [e] at hrow3
  injection hrow3 with h1
  injection h1 with h1
  injection h1 with h1
  injection h1 with h1
  subst h1
  exact cell_lt hx3
end V
end Go.Proofs.YtcofjjipjcekjaaGreat

namespace Go.Proofs.YtcofjjipjcekjaaGreat
namespace M
theorem uniq_lt : ∀ {l k : List Int}, l.Pairwise (fun x y => x < y) → k.Pairwise (fun x y => x < y) → (∀ x, x ∈ l ↔ x ∈ k) → l = k := by
  intro l
  induction l with
  | nil =>
    intro k _ _ h
    cases k with
    | nil => rfl
    | cons y k => exact absurd ((h y).2 (List.mem_cons_self ..)) (List.not_mem_nil)
  | cons x l ih =>
    intro k hl hk h
    cases k with
    | nil => exact absurd ((h x).1 (List.mem_cons_self ..)) (List.not_mem_nil)
    | cons y k =>
      obtain ⟨l1, l2⟩ := List.pairwise_cons.1 hl
      obtain ⟨k1, k2⟩ := List.pairwise_cons.1 hk
      have hxy : x = y := by
        rcases List.mem_cons.1 ((h x).1 (List.mem_cons_self ..)) with e | e
        · exact e
        · rcases List.mem_cons.1 ((h y).2 (List.mem_cons_self ..)) with e2 | e2
          · exact e2.symm
          · have := k1 x e; have := l1 y e2; omega
      subst hxy
      rw [ih l2 k2 fun z => ?_]
      constructor
      · intro hz
        rcases List.mem_cons.1 ((h z).1 (List.mem_cons_of_mem _ hz)) with e | e
        · have := l1 z hz; omega
        · exact e
      · intro hz
        rcases List.mem_cons.1 ((h z).2 (List.mem_cons_of_mem _ hz)) with e | e
        · have := k1 z hz; omega
        · exact e
theorem cmp_mem (d : Array Int) (m : Nat) (x : Int) : x ∈ Lib.compactUpTo d m ↔ ∃ j, j < m ∧ d[j]! = x := by
  induction m with
  | zero => simp [Lib.compactUpTo]
  | succ m ih =>
    rw [Lib.compactUpTo_succ, List.mem_append, ih]
    constructor
    · rintro (⟨j, hj, e⟩ | h)
      · exact ⟨j, by omega, e⟩
      · split at h
        · exact ⟨m, by omega, (List.mem_singleton.1 h).symm⟩
        · exact absurd h (List.not_mem_nil)
    · rintro ⟨j, hj, e⟩
      by_cases hjm : j < m
      · exact .inl ⟨j, hjm, e⟩
      · obtain rfl : j = m := by omega
        by_cases hk : Lib.keeps d j = true
        · right; rw [if_pos hk, e]; exact List.mem_singleton.2 rfl
        · left
          simp only [Lib.keeps, decide_eq_true_eq, not_or, Decidable.not_not] at hk
          exact ⟨j - 1, by omega, by rw [← hk.2, e]⟩
theorem cmp_lt (d : Array Int) (m : Nat) (hm : m ≤ d.size) (hs : ∀ j, j + 1 < d.size → d[j]! ≤ d[j + 1]!) : (Lib.compactUpTo d m).Pairwise (fun x y => x < y) ∧ ∀ x, x ∈ Lib.compactUpTo d m → x ≤ d[m - 1]! := by
  induction m with
  | zero => exact ⟨by simp [Lib.compactUpTo], fun x h => by simp [Lib.compactUpTo] at h⟩
  | succ m ih =>
    obtain ⟨i1, i2⟩ := ih (by omega)
    have hstep : ∀ x, x ∈ Lib.compactUpTo d m → x ≤ d[m]! := fun x hx => by
      have h1 := i2 x hx
      obtain ⟨j, hj, -⟩ := (cmp_mem d m x).1 hx
      have h2 := hs (m - 1) (by omega)
      rw [show m - 1 + 1 = m by omega] at h2
      omega
    rw [Lib.compactUpTo_succ, Nat.add_sub_cancel]
    by_cases hk : Lib.keeps d m = true
    · rw [if_pos hk]
      refine ⟨List.pairwise_append.2 ⟨i1, List.pairwise_singleton .., fun x hx y hy => ?_⟩, fun x hx => ?_⟩
      · obtain rfl := List.mem_singleton.1 hy
        have h1 := i2 x hx
        obtain ⟨j, hj, -⟩ := (cmp_mem d m x).1 hx
        have h2 := hs (m - 1) (by omega)
        rw [show m - 1 + 1 = m by omega] at h2
        simp only [Lib.keeps, decide_eq_true_eq] at hk
        rcases hk with hk | hk
        · omega
        · omega
      · rcases List.mem_append.1 hx with h | h
        · exact hstep x h
        · rw [List.mem_singleton.1 h]; exact Int.le_refl _
    · rw [if_neg hk, List.append_nil]
      exact ⟨i1, hstep⟩
theorem srt_mem (ss : List Int) (x : Int) : x ∈ Lib.compact (ss.mergeSort fun x y => decide (x ≤ y)) ↔ x ∈ ss := by
  unfold Lib.compact
  rw [cmp_mem, ← (List.mergeSort_perm ss fun x y => decide (x ≤ y)).mem_iff]
  generalize (ss.mergeSort fun x y => decide (x ≤ y)) = l
  rw [List.mem_iff_getElem]
  constructor
  · rintro ⟨j, hj, e⟩
    exact ⟨j, hj, by rw [← e]; simp [hj]⟩
  · rintro ⟨j, hj, e⟩
    exact ⟨j, hj, by rw [← e]; simp [hj]⟩
theorem srt_lt (ss : List Int) : (Lib.compact (ss.mergeSort fun x y => decide (x ≤ y))).Pairwise (fun x y => x < y) := by
  have hp : (ss.mergeSort fun x y => decide (x ≤ y)).Pairwise (fun x y => decide (x ≤ y) = true) :=
    List.pairwise_mergeSort (fun a b c h1 h2 => by simp only [decide_eq_true_eq] at *; omega) (fun a b => by simp only [Bool.or_eq_true, decide_eq_true_eq]; omega) ss
  unfold Lib.compact
  generalize (ss.mergeSort fun x y => decide (x ≤ y)) = l at *
  refine (cmp_lt l.toArray l.length (by simp) fun j hj => ?_).1
  have hj' : j + 1 < l.length := by simpa using hj
  have := List.pairwise_iff_getElem.1 hp j (j + 1) (by omega) hj' (by omega)
  simp only [decide_eq_true_eq] at this
  simpa [hj', show j < l.length by omega] using this
theorem nodesL_lt (R : List (List Int)) : (nodesL R).Pairwise (fun x y => x < y) := by
  unfold nodesL nodesP
  rw [List.pairwise_map]
  exact (List.pairwise_lt_range.filter _).imp fun h => by omega
theorem mem_nodesL {R : List (List Int)} {x : Int} : x ∈ nodesL R ↔ ∃ f : Nat, f < R.length ∧ crN R f = true ∧ x = f := by
  unfold nodesL nodesP
  rw [List.mem_map]
  constructor
  · rintro ⟨f, hf, rfl⟩
    obtain ⟨h1, h2⟩ := List.mem_filter.1 hf
    exact ⟨f, List.mem_range.1 h1, h2, rfl⟩
  · rintro ⟨f, h1, h2, rfl⟩
    exact ⟨f, List.mem_filter.2 ⟨List.mem_range.2 h1, h2⟩, rfl⟩
/-- The first nodes of all arcs, sorted and without repeats. -/
theorem srt_nodes {R : List (List Int)} {ss : List Int} (h : ∀ x, x ∈ ss ↔ ∃ f t : Nat, f < R.length ∧ t < R.length ∧ crB R f t = true ∧ x = f) : Lib.compact (ss.mergeSort fun x y => decide (x ≤ y)) = nodesL R := by
  refine uniq_lt (srt_lt ss) (nodesL_lt R) fun x => ?_
  rw [srt_mem, h, mem_nodesL]
  unfold crN
  constructor
  · rintro ⟨f, t, hf, ht, hc, e⟩
    exact ⟨f, hf, List.any_eq_true.2 ⟨t, List.mem_range.2 ht, hc⟩, e⟩
  · rintro ⟨f, hf, hc, e⟩
    obtain ⟨t, ht, hc⟩ := List.any_eq_true.1 hc
    exact ⟨f, t, hf, List.mem_range.1 ht, hc, e⟩
theorem nodesL_len (R : List (List Int)) : (nodesL R).length ≤ R.length := by
  unfold nodesL nodesP
  rw [List.length_map]
  have := List.length_filter_le (crN R) (List.range R.length)
  simpa using this
end M
end Go.Proofs.YtcofjjipjcekjaaGreat
