/- Texts laid together: VisZ, Mat1. -/
import Derived.Test.YthonlfjjgmmnpabQe5
import Derived.Test.YthonlfjjgmmnpabQe10
import Derived.Test.YthonlfjjgmmnpabQe7
import Derived.Maps.Own
import Derived.Maps.OwnOps
import Derived.Maps.Views
import Derived.Test.YthonlfjjgmmnpabQe12
import Derived.Test.YthonlfjjgmmnpabRows
import Derived.Test.YthonlfjjgmmnpabQe1
import Derived.Test.YthonlfjjgmmnpabQe2
import Derived.Test.YthonlfjjgmmnpabQe3
import Derived.WalkKit
import Derived.ProofKit
import Derived.WalkSmall
import Derived.Deep.QuietTactic
import Derived.BigQuiet
import Derived.BigRegion
import Derived.Deep.Draws
import Derived.Lib.Hide
import Derived.OpenShut
import Derived.Deep.OwnRows
namespace Go.Proofs.Ythonlfjjgmmnpab.V
set_option maxRecDepth 100000
open Go.RowKit Go.Maps
theorem keyI : Keyed Try.prog 2 := int_keyed Try.underlying2
theorem zeroB (w : World) : (zeroValue 4).run Try.prog w = .ok (.bool false) w := by kernel_rfl
theorem keyAt (t : Nat) (ht : t < 1000) : keyOf Try.prog 2 (.int .i64 (t : Int)) = some (.int .i64 (t : Int)) := keyOf_int_mk Try.underlying2 (WalkArith.wf_i64 (by omega))
/-- Block b is a map that holds the set S of the n nodes. -/
def IsSet (w : World) (b n : Nat) (S : Nat → Bool) : Prop :=
  ∃ D : DataW Unit, w.ownsMap Try.prog 2 (plainElem Try.prog 4) b (M.cnt S n) D ∧ IsMap D ∧ ∀ t : Nat, t < n → D.atKey (.int .i64 (t : Int)) (.lit (.bool false)) = .lit (.bool (S t))
theorem IsSet.lt {w : World} {b n : Nat} {S : Nat → Bool} (h : IsSet w b n S) : b < w.heap.size := by
  obtain ⟨D, h, -⟩ := h
  exact h.lt
theorem IsSet.block {w w' : World} {b n : Nat} {S : Nat → Bool} (h : IsSet w b n S) (e : w'.heap[b]? = w.heap[b]?) : IsSet w' b n S := by
  obtain ⟨D, ⟨es, clock, hb, F, hs, hD⟩, h2, h3⟩ := h
  exact ⟨D, ⟨es, clock, e.trans hb, F, hs, hD⟩, h2, h3⟩
theorem IsSet.below {w w' : World} {B b n : Nat} {S : Nat → Bool} (h : IsSet w b n S) (hb : Below B w w') (hB : b < B) : IsSet w' b n S := h.block (hb.block b hB)
theorem IsSet.congr {w : World} {b n : Nat} {S S' : Nat → Bool} (h : IsSet w b n S) (e : ∀ i, i < n → S i = S' i) : IsSet w b n S' := by
  obtain ⟨D, h1, h2, h3⟩ := h
  exact ⟨D, by rw [← M.cnt_congr e]; exact h1, h2, fun t ht => by rw [h3 t ht, e t ht]⟩
theorem isSet_made (w : World) (n : Nat) : IsSet (w.alloc (.map #[] 0)) w.heap.size n (fun _ => false) :=
  ⟨.map [], by rw [M.cnt_none fun _ _ => rfl]; exact World.ownsMap_made _ _ _ _, ⟨[], rfl⟩, fun _ _ => rfl⟩
theorem plainElem_bool_inv {v : Value} {z : DataW Unit × List MemPlace} (h : plainElem Try.prog 4 v = some z) : ∃ x, v = .bool x ∧ z = (.lit (.bool x), []) := by
  unfold plainElem at h
  rw [Try.underlying4] at h
  cases v <;> simp at h
  exact ⟨_, rfl, h.symm⟩
theorem IsSet.look {w : World} {b n : Nat} {S : Nat → Bool} (h : IsSet w b n S) (hn : n ≤ 10) (t : Nat) (ht : t < n) : (Instr.lookup 71 (.map (some b)) (.int .i64 (t : Int)) false).run Try.prog w = .ok (.bool (S t)) w := by
  obtain ⟨D, h1, h2, h3⟩ := h
  obtain ⟨v, ps, hr, hv⟩ := h1.lookup keyI Try.underlying71 (zeroB w) (plainElem_bool Try.underlying4 false) (keyAt t (by omega))
  rw [h3 t ht] at hv
  obtain ⟨x, rfl, hz⟩ := plainElem_bool_inv hv
  simp only [Prod.mk.injEq, DataW.lit.injEq, Lit.bool.injEq] at hz
  rw [hr, hz.1]
theorem wpList_put (w : World) {ops : Array Oper} {rest : List Oper} {o : Oper} {a : Act} {Q : Exit → Act → World → Prop}
    (hg : o.guard = none) (m x v : Operand) (hop : o.op = Op.mapUpdate 71 m x v) (b n : Nat) (S : Nat → Bool) (t : Nat)
    (hm : a.eval m = .map (some b)) (hown : IsSet w b n S) (hn : n ≤ 10) (ht : t < n) (hS : S t = false) (hx : a.eval x = .int .i64 (t : Int)) (hv : a.eval v = .bool true)
    (hK : ∀ w', IsSet w' b n (M.upd S t) → w.grownBy w' (some b) → wpList Try.prog ops Q rest (a.put o.dst undef) w') :
    wpList Try.prog ops Q (o :: rest) a w := by
  obtain ⟨D, h1, h2, h3⟩ := hown
  have hc := M.cnt_max S n
  refine wpList_mapUpdate_own w hg m x v 71 hop 2 4 keyI Try.underlying71 _ b (M.cnt S n) D hm h1 (by unfold maxLen; omega) _ _ _ hx hv (keyAt t (by omega)) _ [] (plainElem_bool Try.underlying4 true) fun w' h' hg' => hK w' ⟨_, by rw [M.cnt_upd ht hS]; exact h', ?_, fun i hi => ?_⟩ hg'
  · obtain ⟨es, rfl⟩ := h2
    exact ⟨_, rfl⟩
  · by_cases e : i = t
    · subst e
      rw [atKey_put_same h2 (by trivial)]
      unfold M.upd; simp
    · rw [atKey_put_other (by intro k; injection k with _ k; omega), h3 i hi]
      unfold M.upd
      rw [decide_eq_false e, Bool.false_or]
end Go.Proofs.Ythonlfjjgmmnpab.V

namespace Go.Proofs.Ythonlfjjgmmnpab.V
set_option maxRecDepth 100000
open Go.RowKit Go.Maps
def visF (pr pa pv : Nat) : Value := .func (.func 82) #[] #[.pointer (some ⟨pr, 0, none⟩), .pointer (some ⟨pa, 0, none⟩), .pointer (some ⟨pv, 0, none⟩)]
structure Vis (w0 w : World) (pr pa pv mb n : Nat) (sa : Value) (S : Nat → Bool) : Prop where
  below : Below w0.heap.size w0 w
  cr : w.cell? ⟨pr, 0, none⟩ = some (.map (some mb))
  ca : w.cell? ⟨pa, 0, none⟩ = some sa
  cv : w.cell? ⟨pv, 0, none⟩ = some (visF pr pa pv)
  set : IsSet w mb n S
  lo : w0.heap.size ≤ mb
  nr : pr ≠ mb
  na : pa ≠ mb
  nv : pv ≠ mb
theorem Vis.grown {w0 w w' : World} {pr pa pv mb n : Nat} {sa : Value} {S S' : Nat → Bool} (h : Vis w0 w pr pa pv mb n sa S) (hg : w.grownBy w' (some mb)) (hs : IsSet w' mb n S') : Vis w0 w' pr pa pv mb n sa S' := by
  have hc : ∀ p v, p ≠ mb → w.cell? ⟨p, 0, none⟩ = some v → w'.cell? ⟨p, 0, none⟩ = some v := fun p v hne hc => by
    rw [World.cell?_of_block (w := w) (a := ⟨p, 0, none⟩) (hg.block p (cell_lt hc) (by intro e; injection e with e; exact hne e))]; exact hc
  exact ⟨h.below.grown hg h.below.size (fun j hj => by cases hj; exact h.lo), hc _ _ h.nr h.cr, hc _ _ h.na h.ca, hc _ _ h.nv h.cv, hs, h.lo, h.nr, h.na, h.nv⟩
set_option maxRecDepth 100000 in
set_option maxHeartbeats 2000000 in
theorem visit (a : Option Addr) (n cap : Nat) (R : List (List Int)) (w0 : World) (pr pa pv mb : Nat) (h : Sq w0 a n R) (f : Nat) :
    ∀ (w : World) (S : Nat → Bool) (v : Nat), Vis w0 w pr pa pv mb n (.slice a n cap) S → v < n → S v = false → M.cnt (fun i => !S i) n ≤ f →
    Calls Try.prog 82 #[.int .i64 v, .pointer (some ⟨pr, 0, none⟩), .pointer (some ⟨pa, 0, none⟩), .pointer (some ⟨pv, 0, none⟩)] w fun e w' => e = .returned (.tuple #[]) ∧ ∃ S', Vis w0 w' pr pa pv mb n (.slice a n cap) S' ∧ M.Dfs (M.ent R) n v S S' := by
  induction f with
  | zero =>
    intro w S v hV hv hS hc
    have := M.cnt_lt (p := fun _ => false) (q := fun i => !S i) (k := n) hv rfl (by simp [hS]) (fun i _ hi => by cases hi)
    omega
  | succ f IH =>
    intro w S v hV hv hS hc
    have HIH := Lib.hid IH
    have HV := Lib.hid hV
    have HSq := Lib.hid h
    obtain ⟨n1, n2⟩ := h.2.2.2
    obtain ⟨b, off, ra, rc, rfl, -, -⟩ := h.1.rect_first h.2.1 n1
    have HC := Lib.hid hc
    have HSv := Lib.hid hS
    have c0 := hV.cr
    have c1 := hV.ca
    have hpr := hV.nr
    clear IH hV hc hS h
    go_enter Try.func82, Try.ntmps82
    go_wp2_with (at_mapUpdate; refine wpList_put _ rfl _ _ _ rfl mb n S v rfl HV.out.set n2 hv HSv.out rfl rfl ?_; intro w1 hs1 hg1; have c2 := (HV.out.grown hg1 hs1).ca)
    have HV1 := Lib.hid (HV.out.grown hg1 hs1)
    clear c2
    go_loopw [5, 6, 11] (fun _ _ i wr => ∃ (k : Nat) (S' : Nat → Bool), k ≤ n ∧ i = .int .i64 k ∧ Hid (Vis w0 wr pr pa pv mb n (.slice (some ⟨b, off, none⟩) n cap) S') ∧ Hid (M.Part (M.ent R) n v S k S')) (fun _ _ i _ => n - (intOf i).toNat)
    case atStart => exact ⟨0, M.upd S v, Nat.zero_le _, rfl, HV1, M.dfs_start hv⟩
    case round =>
      clear HV1 HV c0 c1
      obtain ⟨k, S', hk, rfl, HV, HP⟩ := hrel
      by_cases hlt : k < n
      · have hki : (k : Int) < (n : Int) := by omega
        have c0 := HV.out.cr
        have c1 := HV.out.ca
        have c2 : wr.cell? ⟨pv, 0, none⟩ = some (.func (.func 82) #[] #[.pointer (some ⟨pr, 0, none⟩), .pointer (some ⟨pa, 0, none⟩), .pointer (some ⟨pv, 0, none⟩)]) := HV.out.cv
        obtain ⟨d, od, rd, rdo, c4, z, hdd, hz, c41, c42⟩ := (HSq.out.1.below HV.out.below).rect_ent HSq.out.2.1 k v hlt hv
        injection hdd with hdd
        injection hdd with e1 e2
        subst e1 e2
        have HZ := Lib.hid hz
        clear hz
        have hlk := HV.out.set.look n2 k hlt
        by_cases hzb : z = -1000000000000000
        · have HP2 : Hid (M.Part (M.ent R) n v S (k + 1) S') := M.dfs_skip HP.out (.inl (by rw [← HZ.out]; exact hzb))
          have hz1 : (z != -1000000000000000) = false := by simp [hzb]
          clear hzb hlk
          go_wp2
          go_roundw
          case rel => exact ⟨k + 1, S', by omega, by go_num, HV, HP2⟩
          case measure => simp [intOf]; omega
        · have hz1 : (z != -1000000000000000) = true := by simpa using hzb
          cases e : S' k with
          | true =>
            have HP2 : Hid (M.Part (M.ent R) n v S (k + 1) S') := M.dfs_skip HP.out (.inr e)
            rw [e] at hlk
            clear hzb e
            go_wp2
            go_roundw
            case rel => exact ⟨k + 1, S', by omega, by go_num, HV, HP2⟩
            case measure => simp [intOf]; omega
          | false =>
            rw [e] at hlk
            have HE := Lib.hid e
            have HZb : Hid (M.ent R k v ≠ -1000000000000000) := by show _ ≠ _; rw [← HZ.out]; exact hzb
            have HL : Hid (M.cnt (fun i => !S' i) n ≤ f) := M.cnt_left hv HSv.out (M.dfs_mono HP.out) HC.out
            clear hzb e
            go_wp2_with fail
            refine (HIH.out wr S' k HV.out hlt HE.out HL.out).mono ?_
            rintro e w2 ⟨rfl, S2, hV2, hd2⟩
            have HV2 := Lib.hid hV2
            have HP2 := Lib.hid (M.dfs_call hv hlt HZb.out HP.out hd2)
            clear hV2 hd2
            go_wp2
            go_roundw
            case rel => exact ⟨k + 1, S2, by omega, by go_num, HV2, HP2⟩
            case measure => simp [intOf]; omega
      · obtain rfl : k = n := by omega
        go_wp2
        exact bodyPost_end (v := .tuple #[]) (by simp [results, Try.results82, go_sem]) rfl ⟨rfl, S', HV.out, M.dfs_end HP.out⟩
set_option maxRecDepth 100000 in
set_option maxHeartbeats 1000000 in
theorem reachedFrom (a : Option Addr) (n cap : Nat) (R : List (List Int)) (v : Nat) (w : World) (h : Sq w a n R) (hv : v < n) :
    Calls Try.prog 50 #[.slice a n cap, .int .i64 v] w fun e w' => ∃ b, e = .returned (.map (some b)) ∧ w.heap.size ≤ b ∧ IsSet w' b n (M.rchB (M.ent R) n v) ∧ Below w.heap.size w w' := by
  have HSq := Lib.hid h
  have hmm := @run_makeMap Try.prog
  have hst : ∀ (w : World) (a : Addr) (f : Fn) (c : Array Value), (store a (.func f #[] c)).run Try.prog w = stored Try.prog w a (.func f #[] c) .plain := fun w a f c => run_store _ w a _ _ rfl
  obtain ⟨n1, n2⟩ := h.2.2.2
  clear h
  go_enter Try.func50, Try.ntmps50
  go_wp2_with fail
  obtain ⟨w1, hw1⟩ : ∃ x, x = (((w.alloc (.cells #[.slice a n cap] 24)).alloc (.map #[] 0)).alloc (.cells #[.map (some (w.heap.size + 1))] 71)).alloc (.cells #[visF (w.heap.size + 1 + 1) w.heap.size (w.heap.size + 1 + 1 + 1)] 101) := ⟨_, rfl⟩
  have HV : Hid (Vis w w1 (w.heap.size + 1 + 1) w.heap.size (w.heap.size + 1 + 1 + 1) (w.heap.size + 1) n (.slice a n cap) (fun _ => false)) := by
    show Vis _ _ _ _ _ _ _ _ _
    have e : (w.alloc (.cells #[.slice a n cap] 24)).heap.size = w.heap.size + 1 := by simp
    have hs := isSet_made (w.alloc (.cells #[.slice a n cap] 24)) n
    rw [e] at hs
    have hb1 : Below w.heap.size w (w.alloc (.cells #[.slice a n cap] 24)) := b_alloc _ _
    have hb : Below w.heap.size w w1 := by
      rw [hw1]
      refine ((hb1.alloc ?_ _).alloc ?_ _).alloc ?_ _ <;> simp <;> omega
    refine ⟨hb, ?_, ?_, ?_, ?_, by omega, by omega, by omega, by omega⟩
    · rw [hw1]; simp [World.cell?_alloc_past, go_sem]
    · rw [hw1]; simp [World.cell?_alloc_past, go_sem]
    · rw [hw1]; simp [World.cell?_alloc_past, go_sem]
    · rw [hw1]
      refine ((hs.below (b_alloc _ _) ?_).below (b_alloc _ _) ?_) <;> simp
  change Calls _ _ _ ((((w.alloc (.cells #[.slice a n cap] 24)).alloc (.map #[] 0)).alloc (.cells #[.map (some (w.heap.size + 1))] 71)).alloc (.cells #[visF (w.heap.size + 1 + 1) w.heap.size (w.heap.size + 1 + 1 + 1)] 101)) _
  rw [← hw1]
  clear hw1 hst hmm
  refine (visit a n cap R w _ _ _ _ HSq.out n w1 _ v HV.out hv rfl (M.cnt_max _ _)).mono ?_
  rintro e w2 ⟨rfl, S', hV2, hd⟩
  have c0 := hV2.cr
  have HV2 := Lib.hid hV2
  have HD := Lib.hid (M.dfs_all hv hd)
  clear hV2 hd
  go_wp2
  go_ret
  exact ⟨_, rfl, by omega, HV2.out.set.congr fun i _ => HD.out i, HV2.out.below⟩
set_option maxRecDepth 100000 in
set_option maxHeartbeats 400000 in
theorem reaching (a : Option Addr) (n cap : Nat) (R : List (List Int)) (v : Nat) (w : World) (h : Sq w a n R) (hv : v < n) :
    Calls Try.prog 84 #[.slice a n cap, .int .i64 v] w fun e w' => ∃ b, e = .returned (.map (some b)) ∧ w.heap.size ≤ b ∧ IsSet w' b n (fun i => M.rchB (M.ent R) n i v) ∧ Below w.heap.size w w' := by
  have HSq := Lib.hid h
  obtain ⟨n1, n2⟩ := h.2.2.2
  clear h
  go_enter Try.func84, Try.ntmps84
  go_wp2_with fail
  refine (transposed _ _ _ n R _ HSq.out.1 HSq.out.2.1 n1 n2 n1 n2).mono ?_
  rintro e w1 ⟨b1, c1, rfl, ho, hb⟩
  have HQ1 : Hid (Sq w1 b1 n (M.mk n n fun i j => M.ent R j i)) := ⟨ho.mat, rect_mk _ _ _, fun i j hi hj => by rw [M.ent_mk _ _ _ _ _ hi hj]; exact HSq.out.2.2.1 j i hj hi, n1, n2⟩
  have HB1 := Lib.hid hb
  clear ho hb
  go_wp2_with fail
  refine (reachedFrom _ _ _ _ v _ HQ1.out hv).mono ?_
  rintro e w2 ⟨b2, rfl, hlo, hs, hb⟩
  have HS2 := Lib.hid (hs.congr (S' := fun i => M.rchB (M.ent R) n i v) fun i hi => M.rchB_turn (A := M.ent R) (B := M.ent (M.mk n n fun i j => M.ent R j i)) (fun i j hi hj => M.ent_mk _ _ _ _ _ hi hj) v i)
  have HB2 := Lib.hid (HB1.out.trans (hb.mono HB1.out.size))
  have hlo2 : w.heap.size ≤ b2 := Nat.le_trans HB1.out.size hlo
  clear hs hb
  go_wp2
  go_ret
  exact ⟨_, rfl, hlo2, HS2.out, HB2.out⟩
end Go.Proofs.Ythonlfjjgmmnpab.V

namespace Go.Proofs.Ythonlfjjgmmnpab.V
open Go.RowKit

set_option maxRecDepth 100000 in
set_option maxHeartbeats 400000 in
theorem eqInts (a : Option Addr) (n cap : Nat) (l : List Int) (a' : Option Addr) (n' cap' : Nat) (l' : List Int) (w : World) (h : Ints .i64 w a n l) (h' : Ints .i64 w a' n' l') (heq : l = l') :
    Calls Try.prog 63 #[.slice a n cap, .slice a' n' cap'] w fun e w' => e = .returned (.bool true) ∧ ∃ q, w' = w.drewN q := by
  subst heq
  obtain ⟨hl, hm, hr⟩ := h
  obtain ⟨hl', hm', hr'⟩ := h'
  obtain rfl : n = n' := by omega
  unfold maxLen at hm
  clear hm'
  have HL := Lib.hid hl
  clear hl hl'
  go_enter Try.func63, Try.ntmps63
  go_wp2
  go_loopw [5] (fun i wr => ∃ k : Nat, k ≤ n ∧ i = .int .i64 k ∧ ∃ q, wr = w.drewN q) (fun i _ => n - (intOf i).toNat)
  case atStart => exact ⟨0, Nat.zero_le _, rfl, 0, rfl⟩
  case round =>
    obtain ⟨k, hk, rfl, q, rfl⟩ := hrel
    by_cases hlt : k < n
    · rcases hr with h0 | ⟨b, off, rfl, hbl, hc⟩
      · omega
      rcases hr' with h0 | ⟨b', off', rfl, hbl', hc'⟩
      · omega
      have hck := hc k hlt
      have hck' := hc' k hlt
      obtain ⟨x, hx⟩ : ∃ x, x = l.getD k 0 := ⟨_, rfl⟩
      rw [← hx] at hck hck'
      clear hc hx hc'
      have hki : (k : Int) < (n : Int) := by omega
      go_wp2
      go_quiet (fail)
      go_wp2
      go_roundw
      case rel => exact ⟨k + 1, by omega, by go_num, _, rfl⟩
      case measure => simp [intOf]; omega
    · have hkn : k = n := by omega
      subst hkn
      clear hr hr'
      go_wp2
      go_ret
      exact ⟨rfl, q, rfl⟩

set_option maxRecDepth 100000 in
set_option maxHeartbeats 400000 in
theorem copyInts (a : Option Addr) (n cap : Nat) (l : List Int) (w : World) (h : Ints .i64 w a n l) (hs : n ≤ 1048576) :
    Calls Try.prog 62 #[.slice a n cap] w fun e w' => e = .returned (.slice (some ⟨w.heap.size, 0, none⟩) n n) ∧ Own w' w.heap.size (.slice (some ⟨w.heap.size, 0, none⟩) n n) l ∧ Below w.heap.size w w' := by
  obtain ⟨hl, hm, hr⟩ := h
  have hm2 := hm
  unfold maxLen at hm
  have HL := Lib.hid hl
  clear hl
  have hmk := run_make_row' (P := Try.prog) 30 2 (.int .i64 0) 8 Try.underlying30 info64 rfl .i64 .i64 n (by omega) (by omega)
  go_enter Try.func62, Try.ntmps62
  go_wp2
  clear hmk
  go_loopw [4] (fun i wr => ∃ k : Nat, k ≤ n ∧ i = .int .i64 k ∧ Own wr w.heap.size (.slice (some ⟨w.heap.size, 0, none⟩) n n) ((List.range n).map fun j => if j < k then l.getD j 0 else 0) ∧ Below w.heap.size w wr) (fun i _ => n - (intOf i).toNat)
  case atStart => exact ⟨0, Nat.zero_le _, rfl, by simpa using own_made w _ n (Nat.le_refl _) hm2, b_alloc _ _⟩
  case round =>
    obtain ⟨k, hk, rfl, hrow, hb⟩ := hrel
    by_cases hlt : k < n
    · rcases hr with h0 | ⟨b, off, rfl, hbl, hc⟩
      · omega
      have hck := hc k hlt
      obtain ⟨x, hx⟩ : ∃ x, x = l.getD k 0 := ⟨_, rfl⟩
      rw [← hx] at hck
      have hck' : wr.cell? ⟨b, off + k, none⟩ = some (.int .i64 x) := by rw [hb.cell (p := ⟨b, off + k, none⟩) hbl]; exact hck
      have hst : ∃ v, wr.cell? ⟨w.heap.size, k, none⟩ = some v := ⟨_, hrow.cellAt k hlt⟩
      obtain ⟨v, hst⟩ := hst
      have hfz := hrow.frozenAt k
      have HR := Lib.hid hrow
      have HB := Lib.hid hb
      have HX := Lib.hid hx
      clear hc hx hck hrow hb
      go_wp2
      go_roundw
      case rel =>
        refine ⟨k + 1, by omega, by go_num, ?_, HB.out.setCell (Nat.le_refl _) _⟩
        have := Own.set HR.out k x
        rw [M.map_set] at this
        refine (congrArg (Own _ _ _) (List.map_congr_left fun j hj => ?_)).mp this
        by_cases e : j = k
        · subst e; rw [if_pos rfl, if_pos (by omega), HX.out]
        · rw [if_neg e]
          by_cases e2 : j < k
          · rw [if_pos e2, if_pos (by omega)]
          · rw [if_neg e2, if_neg (by omega)]
      case measure => simp [intOf]; omega
    · have hkn : k = n := by omega
      subst hkn
      have HR := Lib.hid hrow
      have HB := Lib.hid hb
      clear hr hrow hb
      go_wp2
      go_ret
      refine ⟨rfl, ?_, HB.out⟩
      refine (congrArg (Own _ _ _) ?_).mp HR.out
      have hl := HL.out
      apply List.ext_getElem
      · simp [hl]
      · intro i h1 h2
        simp [show i < k by omega, h2]

/-- What is left of a size. -/
def SzPost (n : Nat) (left : Int) (w : World) (e : Ending) (w' : World) : Prop := ∃ x : Int, e = .returned (.int .i64 x) ∧ (x < 0 ∨ (0 ≤ x ∧ x + n = left)) ∧ w = w'

set_option maxRecDepth 100000 in
set_option maxHeartbeats 400000 in
theorem szInts (a : Option Addr) (n cap : Nat) (left : Int) (w : World) (hm : n ≤ maxLen) (h1 : 0 ≤ left) (h2 : left ≤ 1048576) :
    Calls Try.prog 61 #[.slice a n cap, .int .i64 left] w (SzPost n left w) := by
  unfold maxLen at hm
  by_cases hlt : left < n
  · go_enter Try.func61, Try.ntmps61
    go_wp2
    go_ret
    exact ⟨_, rfl, .inl (by omega), rfl⟩
  · go_enter Try.func61, Try.ntmps61
    go_wp2
    go_ret
    exact ⟨_, rfl, .inr ⟨by omega, by omega⟩, rfl⟩

/-- What is left of a size: nothing, or all the sizes fit. -/
def SzMPost (n : Nat) (R : List (List Int)) (left : Int) (w : World) (e : Ending) (w' : World) : Prop := ∃ x : Int, e = .returned (.int .i64 x) ∧ (x < 0 ∨ (0 ≤ x ∧ x ≤ left ∧ (n : Int) ≤ left ∧ (M.pre R R.length : Int) ≤ left)) ∧ w = w'

set_option maxRecDepth 100000 in
set_option maxHeartbeats 400000 in
theorem szIntss (a : Option Addr) (n cap : Nat) (R : List (List Int)) (left : Int) (w : World) (h : Mat w a n R) (h1 : 0 ≤ left) (h2 : left ≤ 1048576) :
    Calls Try.prog 29 #[.slice a n cap, .int .i64 left] w (SzMPost n R left w) := by
  have HM := Lib.hid h
  obtain ⟨hl, hm, -⟩ := h
  unfold maxLen at hm
  have HL := Lib.hid hl
  clear hl
  by_cases hlt : left < n
  · go_enter Try.func29, Try.ntmps29
    go_wp2
    go_ret
    exact ⟨_, rfl, .inl (by omega), rfl⟩
  · go_enter Try.func29, Try.ntmps29
    go_wp2
    go_loop [1, 5] (fun x i => ∃ (k : Nat) (y : Int), k ≤ n ∧ i = .int .i64 k ∧ x = .int .i64 y ∧ 0 ≤ y ∧ (M.pre R k : Int) + n + y ≤ left) (fun _ i => n - (intOf i).toNat)
    case atStart => exact ⟨0, left - n, Nat.zero_le _, rfl, rfl, by omega, by rw [M.pre_zero]; omega⟩
    case round =>
      obtain ⟨k, y, hk, rfl, rfl, hy, hp⟩ := hrel
      by_cases hkn : k < n
      · obtain ⟨b, off, ra, rc, L, l, rfl, hbl, hll, hc, hI⟩ := HM.out.at k hkn
        have hps := M.pre_succ R k (by have := HL.out; omega)
        have hLl : L = l.length := hI.1.symm
        rw [← hll, ← hLl] at hps
        have HP := Lib.hid hps
        have hLm := hI.2.1
        clear hI hll hps hLl
        go_wp2_with fail
        refine (szInts _ _ _ _ _ hLm hy (by omega)).mono ?_
        rintro e w' ⟨z, rfl, hz, rfl⟩
        rcases hz with hz | ⟨hz1, hz2⟩
        · go_wp2
          go_ret
          exact ⟨_, rfl, .inl (by omega), rfl⟩
        · go_wp2
          go_round
          case rel => exact ⟨k + 1, z, by omega, by go_num, rfl, hz1, by rw [HP.out]; omega⟩
          case measure => simp [intOf]; omega
      · obtain rfl : k = n := by omega
        go_wp2
        go_ret
        exact ⟨_, rfl, .inr ⟨hy, by omega, by omega, by rw [HL.out]; omega⟩, rfl⟩

end Go.Proofs.Ythonlfjjgmmnpab.V
