/- Texts laid together: VisZ, Cmo, Cps, MatH, Hv3. -/
import Derived.Test.YthonlfjjgmmnpaaGreatQh5
import Derived.Test.YthonlfjjgmmnpaaGreatQh8
import Derived.Test.YthonlfjjgmmnpaaGreatQh3
import Derived.Maps.Own
import Derived.Maps.OwnOps
import Derived.Maps.Views
import Derived.Test.YthonlfjjgmmnpaaGreatQh11
import Derived.Test.YthonlfjjgmmnpaaGreatQh1
import Derived.Test.YthonlfjjgmmnpaaGreatRows
import Derived.Test.YthonlfjjgmmnpaaGreatQh2
import Derived.WalkKit
import Derived.ProofKit
import Derived.WalkSmall
import Derived.Lib.Hide
import Derived.Deep.OwnRows
import Derived.Maps.AppendAt
namespace Go.Proofs.YthonlfjjgmmnpaaGreat.V
set_option maxRecDepth 100000
open Go.RowKit Go.Maps
theorem keyI : Keyed Tryz.prog 2 := int_keyed Tryz.underlying2
theorem zeroB (w : World) : (zeroValue 4).run Tryz.prog w = .ok (.bool false) w := by kernel_rfl
theorem keyAt (t : Nat) (ht : t < 1000) : keyOf Tryz.prog 2 (.int .i64 (t : Int)) = some (.int .i64 (t : Int)) := keyOf_int_mk Tryz.underlying2 (WalkArith.wf_i64 (by omega))
/-- Block b is a map that holds the set S of the n nodes. -/
def IsSet (w : World) (b n : Nat) (S : Nat → Bool) : Prop :=
  ∃ D : DataW Unit, w.ownsMap Tryz.prog 2 (plainElem Tryz.prog 4) b (M.cnt S n) D ∧ IsMap D ∧ ∀ t : Nat, t < n → D.atKey (.int .i64 (t : Int)) (.lit (.bool false)) = .lit (.bool (S t))
theorem IsSet.lt {w : World} {b n : Nat} {S : Nat → Bool} (h : IsSet w b n S) : b < w.heap.size := by
  obtain ⟨D, h, -⟩ := h
  exact h.lt
theorem IsSet.block {w w' : World} {b n : Nat} {S : Nat → Bool} (h : IsSet w b n S) (e : w'.heap[b]? = w.heap[b]?) : IsSet w' b n S := by
  obtain ⟨D, ⟨es, clock, hb, F, hs, hD⟩, h2, h3⟩ := h
  exact ⟨D, ⟨es, clock, e.trans hb, F, hs, hD⟩, h2, h3⟩
theorem IsSet.below {w w' : World} {B b n : Nat} {S : Nat → Bool} (h : IsSet w b n S) (hb : Below B w w') (hB : b < B) : IsSet w' b n S := h.block (hb.block b hB)
theorem IsSet.congr {w : World} {b n : Nat} {S S' : Nat → Bool} (h : IsSet w b n S) (e : ∀ i, i < n → S i = S' i) : IsSet w b n S' := by
  obtain ⟨D, h1, h2, h3⟩ := h
  exact ⟨D, by rw [← M.cnt_congr e]; exact h1, h2, fun t ht => by rw [h3 t ht, e t ht]⟩
theorem isSet_made (w : World) (n : Nat) : IsSet (w.alloc (.map #[] 0)) w.heap.size n (fun _ => false) :=
  ⟨.map [], by rw [M.cnt_none fun _ _ => rfl]; exact World.ownsMap_made _ _ _ _, ⟨[], rfl⟩, fun _ _ => rfl⟩
theorem plainElem_bool_inv {v : Value} {z : DataW Unit × List MemPlace} (h : plainElem Tryz.prog 4 v = some z) : ∃ x, v = .bool x ∧ z = (.lit (.bool x), []) := by
  unfold plainElem at h
  rw [Tryz.underlying4] at h
  cases v <;> simp at h
  exact ⟨_, rfl, h.symm⟩
theorem IsSet.look {w : World} {b n : Nat} {S : Nat → Bool} (h : IsSet w b n S) (hn : n ≤ 10) (t : Nat) (ht : t < n) : (Instr.lookup 174 (.map (some b)) (.int .i64 (t : Int)) false).run Tryz.prog w = .ok (.bool (S t)) w := by
  obtain ⟨D, h1, h2, h3⟩ := h
  obtain ⟨v, ps, hr, hv⟩ := h1.lookup keyI Tryz.underlying174 (zeroB w) (plainElem_bool Tryz.underlying4 false) (keyAt t (by omega))
  rw [h3 t ht] at hv
  obtain ⟨x, rfl, hz⟩ := plainElem_bool_inv hv
  simp only [Prod.mk.injEq, DataW.lit.injEq, Lit.bool.injEq] at hz
  rw [hr, hz.1]
theorem wpList_put (w : World) {ops : Array Oper} {rest : List Oper} {o : Oper} {a : Act} {Q : Exit → Act → World → Prop}
    (hg : o.guard = none) (m x v : Operand) (hop : o.op = Op.mapUpdate 174 m x v) (b n : Nat) (S : Nat → Bool) (t : Nat)
    (hm : a.eval m = .map (some b)) (hown : IsSet w b n S) (hn : n ≤ 10) (ht : t < n) (hS : S t = false) (hx : a.eval x = .int .i64 (t : Int)) (hv : a.eval v = .bool true)
    (hK : ∀ w', IsSet w' b n (M.upd S t) → w.grownBy w' (some b) → wpList Tryz.prog ops Q rest (a.put o.dst undef) w') :
    wpList Tryz.prog ops Q (o :: rest) a w := by
  obtain ⟨D, h1, h2, h3⟩ := hown
  have hc := M.cnt_max S n
  refine wpList_mapUpdate_own w hg m x v 174 hop 2 4 keyI Tryz.underlying174 _ b (M.cnt S n) D hm h1 (by unfold maxLen; omega) _ _ _ hx hv (keyAt t (by omega)) _ [] (plainElem_bool Tryz.underlying4 true) fun w' h' hg' => hK w' ⟨_, by rw [M.cnt_upd ht hS]; exact h', ?_, fun i hi => ?_⟩ hg'
  · obtain ⟨es, rfl⟩ := h2
    exact ⟨_, rfl⟩
  · by_cases e : i = t
    · subst e
      rw [atKey_put_same h2 (by trivial)]
      unfold M.upd; simp
    · rw [atKey_put_other (by intro k; injection k with _ k; omega), h3 i hi]
      unfold M.upd
      rw [decide_eq_false e, Bool.false_or]
end Go.Proofs.YthonlfjjgmmnpaaGreat.V

namespace Go.Proofs.YthonlfjjgmmnpaaGreat.V
set_option maxRecDepth 100000
open Go.RowKit Go.Maps
def visF (pr pa pv : Nat) : Value := .func (.func 205) #[] #[.pointer (some ⟨pr, 0, none⟩), .pointer (some ⟨pa, 0, none⟩), .pointer (some ⟨pv, 0, none⟩)]
structure Vis (w0 w : World) (pr pa pv mb n : Nat) (sa : Value) (S : Nat → Bool) : Prop where
  below : Below w0.heap.size w0 w
  cr : w.cell? ⟨pr, 0, none⟩ = some (.map (some mb))
  ca : w.cell? ⟨pa, 0, none⟩ = some sa
  cv : w.cell? ⟨pv, 0, none⟩ = some (visF pr pa pv)
  set : IsSet w mb n S
  lo : w0.heap.size ≤ mb
  nr : pr ≠ mb
  na : pa ≠ mb
  nv : pv ≠ mb
theorem Vis.grown {w0 w w' : World} {pr pa pv mb n : Nat} {sa : Value} {S S' : Nat → Bool} (h : Vis w0 w pr pa pv mb n sa S) (hg : w.grownBy w' (some mb)) (hs : IsSet w' mb n S') : Vis w0 w' pr pa pv mb n sa S' := by
  have hc : ∀ p v, p ≠ mb → w.cell? ⟨p, 0, none⟩ = some v → w'.cell? ⟨p, 0, none⟩ = some v := fun p v hne hc => by
    rw [World.cell?_of_block (w := w) (a := ⟨p, 0, none⟩) (hg.block p (cell_lt hc) (by intro e; injection e with e; exact hne e))]; exact hc
  exact ⟨h.below.grown hg h.below.size (fun j hj => by cases hj; exact h.lo), hc _ _ h.nr h.cr, hc _ _ h.na h.ca, hc _ _ h.nv h.cv, hs, h.lo, h.nr, h.na, h.nv⟩
set_option maxRecDepth 100000 in
set_option maxHeartbeats 2000000 in
theorem visit (a : Option Addr) (n cap : Nat) (R : List (List Int)) (w0 : World) (pr pa pv mb : Nat) (h : Sq w0 a n R) (f : Nat) :
    ∀ (w : World) (S : Nat → Bool) (v : Nat), Vis w0 w pr pa pv mb n (.slice a n cap) S → v < n → S v = false → M.cnt (fun i => !S i) n ≤ f →
    Calls Tryz.prog 205 #[.int .i64 v, .pointer (some ⟨pr, 0, none⟩), .pointer (some ⟨pa, 0, none⟩), .pointer (some ⟨pv, 0, none⟩)] w fun e w' => e = .returned (.tuple #[]) ∧ ∃ S', Vis w0 w' pr pa pv mb n (.slice a n cap) S' ∧ M.Dfs (M.ent R) n v S S' := by
  induction f with
  | zero =>
    intro w S v hV hv hS hc
    have := M.cnt_lt (p := fun _ => false) (q := fun i => !S i) (k := n) hv rfl (by simp [hS]) (fun i _ hi => by cases hi)
    omega
  | succ f IH =>
    intro w S v hV hv hS hc
    have HIH := Lib.hid IH
    have HV := Lib.hid hV
    have HSq := Lib.hid h
    obtain ⟨n1, n2⟩ := h.2.2.2
    obtain ⟨b, off, ra, rc, rfl, -, -⟩ := h.1.rect_first h.2.1 n1
    have HC := Lib.hid hc
    have HSv := Lib.hid hS
    have c0 := hV.cr
    have c1 := hV.ca
    have hpr := hV.nr
    clear IH hV hc hS h
    go_enter Tryz.func205, Tryz.ntmps205
    go_wp2_with (at_mapUpdate; refine wpList_put _ rfl _ _ _ rfl mb n S v rfl HV.out.set n2 hv HSv.out rfl rfl ?_; intro w1 hs1 hg1; have c2 := (HV.out.grown hg1 hs1).ca)
    have HV1 := Lib.hid (HV.out.grown hg1 hs1)
    clear c2
    go_loopw [5, 6, 11] (fun _ _ i wr => ∃ (k : Nat) (S' : Nat → Bool), k ≤ n ∧ i = .int .i64 k ∧ Hid (Vis w0 wr pr pa pv mb n (.slice (some ⟨b, off, none⟩) n cap) S') ∧ Hid (M.Part (M.ent R) n v S k S')) (fun _ _ i _ => n - (intOf i).toNat)
    case atStart => exact ⟨0, M.upd S v, Nat.zero_le _, rfl, HV1, M.dfs_start hv⟩
    case round =>
      clear HV1 HV c0 c1
      obtain ⟨k, S', hk, rfl, HV, HP⟩ := hrel
      by_cases hlt : k < n
      · have hki : (k : Int) < (n : Int) := by omega
        have c0 := HV.out.cr
        have c1 := HV.out.ca
        have c2 : wr.cell? ⟨pv, 0, none⟩ = some (.func (.func 205) #[] #[.pointer (some ⟨pr, 0, none⟩), .pointer (some ⟨pa, 0, none⟩), .pointer (some ⟨pv, 0, none⟩)]) := HV.out.cv
        obtain ⟨d, od, rd, rdo, c4, z, hdd, hz, c41, c42⟩ := (HSq.out.1.below HV.out.below).rect_ent HSq.out.2.1 k v hlt hv
        injection hdd with hdd
        injection hdd with e1 e2
        subst e1 e2
        have HZ := Lib.hid hz
        clear hz
        have hlk := HV.out.set.look n2 k hlt
        by_cases hzb : z = -1000000000000000
        · have HP2 : Hid (M.Part (M.ent R) n v S (k + 1) S') := M.dfs_skip HP.out (.inl (by rw [← HZ.out]; exact hzb))
          have hz1 : (z != -1000000000000000) = false := by simp [hzb]
          clear hzb hlk
          go_wp2
          go_roundw
          case rel => exact ⟨k + 1, S', by omega, by go_num, HV, HP2⟩
          case measure => simp [intOf]; omega
        · have hz1 : (z != -1000000000000000) = true := by simpa using hzb
          cases e : S' k with
          | true =>
            have HP2 : Hid (M.Part (M.ent R) n v S (k + 1) S') := M.dfs_skip HP.out (.inr e)
            rw [e] at hlk
            clear hzb e
            go_wp2
            go_roundw
            case rel => exact ⟨k + 1, S', by omega, by go_num, HV, HP2⟩
            case measure => simp [intOf]; omega
          | false =>
            rw [e] at hlk
            have HE := Lib.hid e
            have HZb : Hid (M.ent R k v ≠ -1000000000000000) := by show _ ≠ _; rw [← HZ.out]; exact hzb
            have HL : Hid (M.cnt (fun i => !S' i) n ≤ f) := M.cnt_left hv HSv.out (M.dfs_mono HP.out) HC.out
            clear hzb e
            go_wp2_with fail
            refine (HIH.out wr S' k HV.out hlt HE.out HL.out).mono ?_
            rintro e w2 ⟨rfl, S2, hV2, hd2⟩
            have HV2 := Lib.hid hV2
            have HP2 := Lib.hid (M.dfs_call hv hlt HZb.out HP.out hd2)
            clear hV2 hd2
            go_wp2
            go_roundw
            case rel => exact ⟨k + 1, S2, by omega, by go_num, HV2, HP2⟩
            case measure => simp [intOf]; omega
      · obtain rfl : k = n := by omega
        go_wp2
        exact bodyPost_end (v := .tuple #[]) (by simp [results, Tryz.results205, go_sem]) rfl ⟨rfl, S', HV.out, M.dfs_end HP.out⟩
set_option maxRecDepth 100000 in
set_option maxHeartbeats 1000000 in
theorem reachedFrom (a : Option Addr) (n cap : Nat) (R : List (List Int)) (v : Nat) (w : World) (h : Sq w a n R) (hv : v < n) :
    Calls Tryz.prog 192 #[.slice a n cap, .int .i64 v] w fun e w' => ∃ b, e = .returned (.map (some b)) ∧ w.heap.size ≤ b ∧ IsSet w' b n (M.rchB (M.ent R) n v) ∧ Below w.heap.size w w' := by
  have HSq := Lib.hid h
  have hmm := @run_makeMap Tryz.prog
  have hst : ∀ (w : World) (a : Addr) (f : Fn) (c : Array Value), (store a (.func f #[] c)).run Tryz.prog w = stored Tryz.prog w a (.func f #[] c) .plain := fun w a f c => run_store _ w a _ _ rfl
  obtain ⟨n1, n2⟩ := h.2.2.2
  clear h
  go_enter Tryz.func192, Tryz.ntmps192
  go_wp2_with fail
  obtain ⟨w1, hw1⟩ : ∃ x, x = (((w.alloc (.cells #[.slice a n cap] 24)).alloc (.map #[] 0)).alloc (.cells #[.map (some (w.heap.size + 1))] 174)).alloc (.cells #[visF (w.heap.size + 1 + 1) w.heap.size (w.heap.size + 1 + 1 + 1)] 188) := ⟨_, rfl⟩
  have HV : Hid (Vis w w1 (w.heap.size + 1 + 1) w.heap.size (w.heap.size + 1 + 1 + 1) (w.heap.size + 1) n (.slice a n cap) (fun _ => false)) := by
    show Vis _ _ _ _ _ _ _ _ _
    have e : (w.alloc (.cells #[.slice a n cap] 24)).heap.size = w.heap.size + 1 := by simp
    have hs := isSet_made (w.alloc (.cells #[.slice a n cap] 24)) n
    rw [e] at hs
    have hb1 : Below w.heap.size w (w.alloc (.cells #[.slice a n cap] 24)) := b_alloc _ _
    have hb : Below w.heap.size w w1 := by
      rw [hw1]
      refine ((hb1.alloc ?_ _).alloc ?_ _).alloc ?_ _ <;> simp <;> omega
    refine ⟨hb, ?_, ?_, ?_, ?_, by omega, by omega, by omega, by omega⟩
    · rw [hw1]; simp [World.cell?_alloc_past, go_sem]
    · rw [hw1]; simp [World.cell?_alloc_past, go_sem]
    · rw [hw1]; simp [World.cell?_alloc_past, go_sem]
    · rw [hw1]
      refine ((hs.below (b_alloc _ _) ?_).below (b_alloc _ _) ?_) <;> simp
  change Calls _ _ _ ((((w.alloc (.cells #[.slice a n cap] 24)).alloc (.map #[] 0)).alloc (.cells #[.map (some (w.heap.size + 1))] 174)).alloc (.cells #[visF (w.heap.size + 1 + 1) w.heap.size (w.heap.size + 1 + 1 + 1)] 188)) _
  rw [← hw1]
  clear hw1 hst hmm
  refine (visit a n cap R w _ _ _ _ HSq.out n w1 _ v HV.out hv rfl (M.cnt_max _ _)).mono ?_
  rintro e w2 ⟨rfl, S', hV2, hd⟩
  have c0 := hV2.cr
  have HV2 := Lib.hid hV2
  have HD := Lib.hid (M.dfs_all hv hd)
  clear hV2 hd
  go_wp2
  go_ret
  exact ⟨_, rfl, by omega, HV2.out.set.congr fun i _ => HD.out i, HV2.out.below⟩
set_option maxRecDepth 100000 in
set_option maxHeartbeats 400000 in
theorem reaching (a : Option Addr) (n cap : Nat) (R : List (List Int)) (v : Nat) (w : World) (h : Sq w a n R) (hv : v < n) :
    Calls Tryz.prog 193 #[.slice a n cap, .int .i64 v] w fun e w' => ∃ b, e = .returned (.map (some b)) ∧ w.heap.size ≤ b ∧ IsSet w' b n (fun i => M.rchB (M.ent R) n i v) ∧ Below w.heap.size w w' := by
  have HSq := Lib.hid h
  obtain ⟨n1, n2⟩ := h.2.2.2
  clear h
  go_enter Tryz.func193, Tryz.ntmps193
  go_wp2_with fail
  refine (transposed _ _ _ n R _ HSq.out.1 HSq.out.2.1 n1 n2 n1 n2).mono ?_
  rintro e w1 ⟨b1, c1, rfl, ho, hb⟩
  have HQ1 : Hid (Sq w1 b1 n (M.mk n n fun i j => M.ent R j i)) := ⟨ho.mat, rect_mk _ _ _, fun i j hi hj => by rw [M.ent_mk _ _ _ _ _ hi hj]; exact HSq.out.2.2.1 j i hj hi, n1, n2⟩
  have HB1 := Lib.hid hb
  clear ho hb
  go_wp2_with fail
  refine (reachedFrom _ _ _ _ v _ HQ1.out hv).mono ?_
  rintro e w2 ⟨b2, rfl, hlo, hs, hb⟩
  have HS2 := Lib.hid (hs.congr (S' := fun i => M.rchB (M.ent R) n i v) fun i hi => M.rchB_turn (A := M.ent R) (B := M.ent (M.mk n n fun i j => M.ent R j i)) (fun i j hi hj => M.ent_mk _ _ _ _ _ hi hj) v i)
  have HB2 := Lib.hid (HB1.out.trans (hb.mono HB1.out.size))
  have hlo2 : w.heap.size ≤ b2 := Nat.le_trans HB1.out.size hlo
  clear hs hb
  go_wp2
  go_ret
  exact ⟨_, rfl, hlo2, HS2.out, HB2.out⟩
end Go.Proofs.YthonlfjjgmmnpaaGreat.V

namespace Go.Proofs.YthonlfjjgmmnpaaGreat.V
set_option maxRecDepth 100000
open Go.RowKit Go.Maps
set_option maxRecDepth 100000 in
set_option maxHeartbeats 2000000 in
theorem componentOf (a : Option Addr) (n cap : Nat) (R : List (List Int)) (v : Nat) (w : World) (h : Sq w a n R) (hv : v < n) :
    Calls Tryz.prog 159 #[.slice a n cap, .int .i64 v] w fun e w' => ∃ b c, e = .returned (.slice b (M.compL (M.ent R) n v).length c) ∧ Own w' w.heap.size (.slice b (M.compL (M.ent R) n v).length c) (M.compL (M.ent R) n v) ∧ Below w.heap.size w w' := by
  have HSq := Lib.hid h
  obtain ⟨n1, n2⟩ := h.2.2.2
  clear h
  go_enter Tryz.func159, Tryz.ntmps159
  go_wp2_with fail
  refine (reachedFrom _ _ _ R v _ HSq.out hv).mono ?_
  rintro e w1 ⟨b1, rfl, hlo, hs, hb⟩
  have HS1 := Lib.hid hs
  have HB1 := Lib.hid hb
  clear hs hb
  go_wp2_with fail
  refine (reaching _ _ _ R v _ (HSq.out.below HB1.out) hv).mono ?_
  rintro e w2 ⟨b2, rfl, hlo2, hs, hb⟩
  have HS2 := Lib.hid hs
  have HS12 := Lib.hid (HS1.out.below hb HS1.out.lt)
  have HB2 := Lib.hid (HB1.out.trans (hb.mono HB1.out.size))
  clear hs hb HS1 HB1
  go_wp2
  go_loopw [7, 8, 17] (fun o _ i wr => ∃ (k : Nat) (b : Option Addr) (c : Nat), k ≤ n ∧ i = .int .i64 k ∧ o = .slice b (M.compP (M.ent R) n v k).length c ∧ Hid (Own wr w2.heap.size (.slice b (M.compP (M.ent R) n v k).length c) (M.compP (M.ent R) n v k)) ∧ Hid (Below w2.heap.size w2 wr)) (fun _ _ i _ => n - (intOf i).toNat)
  case atStart => exact ⟨0, none, 0, Nat.zero_le _, rfl, rfl, own_nil _ _, Below.refl _ _⟩
  case round =>
    obtain ⟨k, b, c, hk, rfl, rfl, HO, HB⟩ := hrel
    by_cases hlt : k < n
    · have hki : (k : Int) < (n : Int) := by omega
      have HL1 := (HS12.out.below HB.out HS12.out.lt).look n2 k hlt
      have HL2 : (Instr.lookup 174 (.map (some b2)) (.int .i64 (k : Int)) false).run Tryz.prog wr = .ok (.bool (M.rchB (M.ent R) n k v)) wr := (HS2.out.below HB.out HS2.out.lt).look n2 k hlt
      have hnx := M.compP_next (M.ent R) n v k
      have hrel : M.relB (M.ent R) n v k = (M.rchB (M.ent R) n v k && M.rchB (M.ent R) n k v) := rfl
      have hlen := M.compP_len (M.ent R) n v k
      obtain ⟨x, hx⟩ : ∃ x, x = M.rchB (M.ent R) n v k := ⟨_, rfl⟩
      obtain ⟨y, hy⟩ : ∃ y, y = M.rchB (M.ent R) n k v := ⟨_, rfl⟩
      rw [← hy] at HL2
      rw [← hx] at HL1 hrel
      rw [← hy] at hrel
      rw [hrel] at hnx
      clear hx hy hrel
      cases x with
      | false =>
        have HN : Hid (M.compP (M.ent R) n v (k + 1) = M.compP (M.ent R) n v k) := by show _ = _; rw [hnx]; simp
        clear hnx
        go_wp2
        go_roundw
        case rel => exact ⟨k + 1, b, c, by omega, by go_num, by rw [HN.out], by show Own _ _ _ _; rw [HN.out]; exact HO.out, HB⟩
        case measure => simp [intOf]; omega
      | true =>
        cases y with
        | false =>
          have HN : Hid (M.compP (M.ent R) n v (k + 1) = M.compP (M.ent R) n v k) := by show _ = _; rw [hnx]; simp
          clear hnx
          go_wp2
          go_roundw
          case rel => exact ⟨k + 1, b, c, by omega, by go_num, by rw [HN.out], by show Own _ _ _ _; rw [HN.out]; exact HO.out, HB⟩
          case measure => simp [intOf]; omega
        | true =>
          have HN : Hid (M.compP (M.ent R) n v (k + 1) = M.compP (M.ent R) n v k ++ [(k : Int)]) := by show _ = _; rw [hnx]; simp
          clear hnx
          generalize M.compP (M.ent R) n v k = l at *
          go_wp2_with (at_builtin; refine append1 _ rfl (.tmp 28) (.tmp 30) rfl w2.heap.size _ l (k : Int) _ rfl rfl HO.out rfl (by omega) HB.out.size ?_)
          intro b4 c4 w4 hO4 hb4 _
          have HO4 := Lib.hid hO4
          have HB4 := Lib.hid (HB.out.trans hb4)
          rw [← HN.out] at HO4
          clear hO4 hb4
          go_wp2
          go_roundw
          case rel => exact ⟨k + 1, b4, c4, by omega, by go_num, by rw [HN.out, List.length_append]; rfl, by show Own _ _ _ _; rw [HN.out, List.length_append]; rw [HN.out] at HO4; exact HO4.out, HB4⟩
          case measure => simp [intOf]; omega
    · obtain rfl : k = n := by omega
      go_wp2
      go_ret
      exact ⟨b, c, rfl, HO.out.mono HB2.out.size, HB2.out.trans (HB.out.mono HB2.out.size)⟩
end Go.Proofs.YthonlfjjgmmnpaaGreat.V

namespace Go.Proofs.YthonlfjjgmmnpaaGreat
namespace M
def canRes (R : List (List Int)) (x y : Int) : Bool × Int := if sqB R then (if inN R.length x && inN R.length y then (rchB (ent R) R.length x.toNat y.toNat, 0) else (false, 2)) else (false, 1)
def cmpsRes (R : List (List Int)) : List (List Int) × Int := if sqB R then (compsL (ent R) R.length, 0) else ([], 1)
def irrRes (R : List (List Int)) : Bool × Int := if sqB R then (decide ((compL (ent R) R.length 0).length = R.length), 0) else (false, 1)
theorem nodes2 (n : Nat) (x y : Int) : nodesB n [x, y] = (inN n x && inN n y) := by unfold nodesB; simp
theorem inN_k {n : Nat} {x : Int} (h : inN n x = true) : ∃ k : Nat, k < n ∧ x = k := by
  unfold inN at h
  rw [Bool.and_eq_true, decide_eq_true_eq, decide_eq_true_eq] at h
  exact ⟨x.toNat, by omega, by omega⟩
end M
namespace V
open Go.RowKit Go.Maps
def BPostC (r : Bool × Int) (w : World) (e : Ending) (w' : World) : Prop := e = .returned (.tuple #[.bool r.1, .int .i64 r.2]) ∧ Below w.heap.size w w'
theorem BPostC.mk' {r : Bool × Int} {b : Bool} {c : Int} {w w' : World} (hr : r = (b, c)) (hb : Below w.heap.size w w') : BPostC r w (.returned (.tuple #[.bool b, .int .i64 c])) w' := by subst hr; exact ⟨rfl, hb⟩
set_option maxRecDepth 100000 in
set_option maxHeartbeats 2000000 in
theorem componentsOf (a : Option Addr) (n cap : Nat) (R : List (List Int)) (w : World) (h : Sq w a n R) :
    Calls Tryz.prog 119 #[.slice a n cap] w fun e w' => ∃ b m c, e = .returned (.slice b m c) ∧ OwnM w' w.heap.size (.slice b m c) (M.compsL (M.ent R) n) ∧ Below w.heap.size w w' := by
  have HSq := Lib.hid h
  obtain ⟨n1, n2⟩ := h.2.2.2
  clear h
  go_enter Tryz.func119, Tryz.ntmps119
  go_wp2
  go_loopw [3, 4, 5, 8] (fun o _ _ i wr => ∃ (k : Nat) (b : Option Addr) (c : Nat), k ≤ n ∧ i = .int .i64 k ∧ o = .slice b (M.compsP (M.ent R) n k).length c ∧ Hid (OwnM wr w.heap.size (.slice b (M.compsP (M.ent R) n k).length c) (M.compsP (M.ent R) n k)) ∧ Hid (Below w.heap.size w wr)) (fun _ _ _ i _ => n - (intOf i).toNat)
  case atStart => exact ⟨0, none, 0, Nat.zero_le _, rfl, rfl, ownM_nil _ _, Below.refl _ _⟩
  case round =>
    obtain ⟨k, b, c, hk, rfl, rfl, HO, HB⟩ := hrel
    obtain ⟨wo, rfl⟩ : ∃ x, x = wr := ⟨_, rfl⟩
    by_cases hlt : k < n
    · have hki : (k : Int) < (n : Int) := by omega
      have HNx := Lib.hid (M.compsP_next (M.ent R) n k)
      have HLn := Lib.hid (M.compsP_len (M.ent R) n k)
      go_wp2_with fail
      refine (componentOf _ _ _ R k _ (HSq.out.below HB.out) hlt).mono ?_
      rintro e w1 ⟨b1, c1, rfl, ho, hb⟩
      have HO1 := Lib.hid ho
      have HB1 := Lib.hid hb
      obtain ⟨d, od, x, rfl, -, hx, cx⟩ := ho.ints'.at 0 (M.compL_pos hlt)
      rw [Nat.add_zero] at cx
      have hrep := (M.rep_t (A := M.ent R) hlt).2.2
      rw [← hx] at hrep
      have HRp := Lib.hid hrep
      have hlen1 : (M.compL (M.ent R) n k).length ≤ 10 := by have := M.compP_len (M.ent R) n k n; unfold M.compL; omega
      have hlen0 := M.compL_pos (A := M.ent R) hlt
      clear ho hb hx hrep
      generalize M.compL (M.ent R) n k = l at *
      by_cases hr : x = (k : Int)
      · have HN : Hid (M.compsP (M.ent R) n (k + 1) = M.compsP (M.ent R) n k ++ [l]) := by show _ = _; rw [HNx.out, if_pos (by have := HRp.out; omega)]
        have hr2 : (x == (k : Int)) = true := by simp [hr]
        clear hr
        generalize M.compsP (M.ent R) n k = L at *
        go_wp2_with (at_builtin; refine appendRow wo _ rfl (.tmp 19) (.tmp 21) rfl w.heap.size _ _ L l _ rfl rfl HO.out HB1.out HO1.out rfl (by have := HLn.out; omega) HB.out.size ?_)
        intro b4 c4 w4 hO4 hb4 _
        have HO4 := Lib.hid hO4
        have HB4 := Lib.hid ((HB.out.trans (HB1.out.mono HB.out.size)).trans hb4)
        clear hO4 hb4
        go_wp2
        go_roundw
        case rel => exact ⟨k + 1, b4, c4, by omega, by go_num, by rw [HN.out, List.length_append]; rfl, by show OwnM _ _ _ _; rw [HN.out, List.length_append]; exact HO4.out, HB4⟩
        case measure => simp [intOf]; omega
      · have HN : Hid (M.compsP (M.ent R) n (k + 1) = M.compsP (M.ent R) n k) := by show _ = _; rw [HNx.out, if_neg (by have := HRp.out; omega), List.append_nil]
        have hr2 : (x == (k : Int)) = false := by simpa using hr
        go_wp2
        go_roundw
        case rel => exact ⟨k + 1, b, c, by omega, by go_num, by rw [HN.out], by show OwnM _ _ _ _; rw [HN.out]; exact HO.out.below HB1.out, HB.out.trans (HB1.out.mono HB.out.size)⟩
        case measure => simp [intOf]; omega
    · obtain rfl : k = n := by omega
      go_wp2
      go_ret
      exact ⟨b, _, c, rfl, HO.out, HB.out⟩
end V
end Go.Proofs.YthonlfjjgmmnpaaGreat

namespace Go.Proofs.YthonlfjjgmmnpaaGreat
namespace M
/-- The least number from k on that fits, within so many. -/
def lv (p : Nat → Bool) : Nat → Nat → Nat
  | 0, k => k
  | f + 1, k => if p k then k else lv p f (k + 1)
theorem lv_is {p : Nat → Bool} {m : Nat} (hm : p m = true) (f : Nat) : ∀ k, k ≤ m → m < k + f → (∀ v, k ≤ v → v < m → p v = false) → lv p f k = m := by
  induction f with
  | zero => intro k h1 h2; omega
  | succ f ih =>
    intro k h1 h2 h3
    by_cases e : k = m
    · subst e; show (if p k then k else _) = _; rw [if_pos hm]
    · show (if p k then k else _) = _
      rw [h3 k (Nat.le_refl _) (by omega), if_neg (by simp)]
      exact ih (k + 1) (by omega) (by omega) fun v h4 h5 => h3 v (by omega) h5
theorem lv_ex {p : Nat → Bool} {n : Nat} (h : ∃ m, m < n ∧ p m = true) : p (lv p n 0) = true ∧ lv p n 0 < n ∧ ∀ v, v < lv p n 0 → p v = false := by
  have key : ∀ n, (∃ m, m < n ∧ p m = true) → ∃ m, m < n ∧ p m = true ∧ ∀ v, v < m → p v = false := by
    intro n
    induction n with
    | zero => rintro ⟨m, hm, _⟩; omega
    | succ n ih =>
      rintro ⟨m, hm, hp⟩
      by_cases e : ∃ m, m < n ∧ p m = true
      · obtain ⟨m, h1, h2, h3⟩ := ih e
        exact ⟨m, by omega, h2, h3⟩
      · refine ⟨m, hm, hp, fun v hv => ?_⟩
        cases h : p v with
        | false => rfl
        | true => exact absurd ⟨v, by omega, h⟩ e
  obtain ⟨m, h1, h2, h3⟩ := key n h
  rw [lv_is h2 n 0 (Nat.zero_le _) (by omega) fun v _ hv => h3 v hv]
  exact ⟨h2, h1, h3⟩
/-- Whether a heaviest path with s + 1 arcs goes on from x by v. -/
def stepB (A : Nat → Nat → Int) (n t s x v : Nat) : Bool := decide (times (cpw A n s t v) (A v x) = cpw A n (s + 1) t x)
def nxt (A : Nat → Nat → Int) (n t s x : Nat) : Nat := lv (stepB A n t s x) n 0
/-- The number of arcs. -/
def arcs (A : Nat → Nat → Int) (n f t : Nat) : Nat := lv (fun s => decide (cpw A n s t f = starF A n t f)) 11 0
/-- The nodes of the path. -/
def xs (A : Nat → Nat → Int) (n t s f : Nat) : Nat → Nat
  | 0 => f
  | k + 1 => nxt A n t (s - 1 - k) (xs A n t s f k)
def hvL (A : Nat → Nat → Int) (n t s f : Nat) (k : Nat) : List Int := (List.range k).map fun i => ((xs A n t s f i : Nat) : Int)
def heavyRes (R : List (List Int)) (f t : Int) : List Int × Int :=
  if sqB R then (if inN R.length f && inN R.length t then (if noPos (ent R) R.length then (if starF (ent R) R.length t.toNat f.toNat = -1000000000000000 then ([], 4)
    else (hvL (ent R) R.length t.toNat (arcs (ent R) R.length f.toNat t.toNat) f.toNat (arcs (ent R) R.length f.toNat t.toNat + 1), 0)) else ([], 5)) else ([], 2)) else ([], 1)
theorem hvL_len (A : Nat → Nat → Int) (n t s f k : Nat) : (hvL A n t s f k).length = k := by simp [hvL]
theorem hvL_succ (A : Nat → Nat → Int) (n t s f k : Nat) : hvL A n t s f (k + 1) = hvL A n t s f k ++ [((xs A n t s f k : Nat) : Int)] := by
  unfold hvL; rw [List.range_succ]; simp
theorem hvL_at (A : Nat → Nat → Int) (n t s f k i : Nat) (h : i < k) : (hvL A n t s f k).getD i 0 = ((xs A n t s f i : Nat) : Int) := by
  simp [hvL, h]
theorem lv_le (p : Nat → Bool) (f : Nat) : ∀ k, lv p f k ≤ k + f := by
  induction f with
  | zero => intro k; exact Nat.le_refl _
  | succ f ih =>
    intro k
    show (if p k then k else _) ≤ _
    split
    · omega
    · have := ih (k + 1); omega
theorem heavyRes_len (R : List (List Int)) (f t : Int) : (heavyRes R f t).1.length ≤ 12 := by
  unfold heavyRes
  split
  · split
    · split
      · split
        · simp
        · rw [hvL_len]
          have := lv_le (fun s => decide (cpw (ent R) R.length s t.toNat f.toNat = starF (ent R) R.length t.toNat f.toNat)) 11 0
          unfold arcs
          omega
      · simp
    · simp
  · simp
section
variable {A : Nat → Nat → Int} {n : Nat} (hn : n ≤ 10) (hA : ∀ i j, i < n → j < n → Sm 1000001000000 (A i j))
include hn hA
/-- There is a number of arcs with which the weight in the star is reached. -/
theorem arcs_is (hp : noPos A n = true) {f t : Nat} (hf : f < n) (ht : t < n) (h : starF A n t f ≠ -1000000000000000) :
    cpw A n (arcs A n f t) t f = starF A n t f ∧ arcs A n f t ≤ 10 ∧ ∀ s, s < arcs A n f t → cpw A n s t f ≠ starF A n t f := by
  have hd := o_diag hn hA hp
  have e1 : o (starF A n t f) = obm (fun i j => o (A i j)) n n t f := by
    unfold starF
    rw [← clo_star hn hA hp ht hf, o_cbm hA n (by omega) t f ht hf]
  obtain ⟨s, hs, hle⟩ := opw_star (f := fun i j => o (A i j)) ht hf (by rw [← e1]; exact fun e => h (o_none.1 e))
  have hge := opw_le hd ht hf s
  have e2 := ole_anti hge hle
  rw [← o_cpw hA s (by omega) t f ht hf, ← e1] at e2
  have e3 := o_inj e2
  obtain ⟨h1, h2, h3⟩ := lv_ex (p := fun s => decide (cpw A n s t f = starF A n t f)) (n := 11) ⟨s, by omega, by simpa using e3⟩
  refine ⟨of_decide_eq_true h1, by unfold arcs; omega, fun s hs => ?_⟩
  have := h3 s hs
  simpa using this
end
section
variable {A : Nat → Nat → Int} {n : Nat} (hA : ∀ i j, i < n → j < n → Sm 1000001000000 (A i j))
include hA
/-- A heaviest path with more than no arcs goes on. -/
theorem nxt_is {t s x : Nat} (hs : s ≤ 10) (ht : t < n) (hx : x < n) (h : cpw A n (s + 1) t x ≠ -1000000000000000) :
    nxt A n t s x < n ∧ times (cpw A n s t (nxt A n t s x)) (A (nxt A n t s x) x) = cpw A n (s + 1) t x ∧ ∀ v, v < nxt A n t s x → times (cpw A n s t v) (A v x) ≠ cpw A n (s + 1) t x := by
  have hex : ∃ v, v < n ∧ stepB A n t s x v = true := by
    have e := o_cpw hA (s + 1) (by omega) t x ht hx
    rcases osum_att n (fun u => omul (opw (fun i j => o (A i j)) n s t u) (o (A u x))) with k | ⟨u, hu, k⟩
    · exact absurd (o_none.1 (e.trans k)) h
    · refine ⟨u, hu, ?_⟩
      unfold stepB
      rw [decide_eq_true_eq]
      refine o_inj ?_
      rw [o_times (cpw_sm hA s t u ht hu) (hA u x hu hx) (by omega) (by omega), o_cpw hA s (by omega) t u ht hu]
      exact (e.trans k).symm
  obtain ⟨h1, h2, h3⟩ := lv_ex hex
  refine ⟨h2, of_decide_eq_true h1, fun v hv => ?_⟩
  have := h3 v hv
  simpa [stepB] using this
theorem nxt_fin {t s x : Nat} (hs : s ≤ 10) (ht : t < n) (hx : x < n) (h : cpw A n (s + 1) t x ≠ -1000000000000000) :
    cpw A n s t (nxt A n t s x) ≠ -1000000000000000 ∧ A (nxt A n t s x) x ≠ -1000000000000000 := by
  obtain ⟨h1, h2, -⟩ := nxt_is hA hs ht hx h
  refine ⟨fun e => h ?_, fun e => h ?_⟩
  · rw [← h2, e, bot_times]
  · rw [← h2, e, times_bot]
/-- Along the path the rest stays a heaviest one. -/
theorem xs_inv {t s f : Nat} (hs : s ≤ 10) (ht : t < n) (hf : f < n) (h : cpw A n s t f ≠ -1000000000000000) (k : Nat) (hk : k ≤ s) :
    xs A n t s f k < n ∧ cpw A n (s - k) t (xs A n t s f k) ≠ -1000000000000000 := by
  induction k with
  | zero => exact ⟨hf, h⟩
  | succ k ih =>
    obtain ⟨h1, h2⟩ := ih (by omega)
    have e : s - k = s - 1 - k + 1 := by omega
    rw [e] at h2
    show nxt A n t (s - 1 - k) (xs A n t s f k) < n ∧ cpw A n (s - (k + 1)) t (nxt A n t (s - 1 - k) (xs A n t s f k)) ≠ _
    rw [show s - (k + 1) = s - 1 - k by omega]
    exact ⟨(nxt_is hA (by omega) ht h1 h2).1, (nxt_fin hA (by omega) ht h1 h2).1⟩
/-- What is left of the weight. -/
theorem xs_need {t s f : Nat} (hs : s ≤ 10) (ht : t < n) (hf : f < n) (h : cpw A n s t f ≠ -1000000000000000) (k : Nat) (hk : k < s) :
    cpw A n (s - (k + 1)) t (xs A n t s f (k + 1)) = cpw A n (s - k) t (xs A n t s f k) - A (xs A n t s f (k + 1)) (xs A n t s f k) := by
  obtain ⟨h1, h2⟩ := xs_inv hA hs ht hf h k (by omega)
  have e : s - k = s - 1 - k + 1 := by omega
  rw [e] at h2
  have h3 := (nxt_is hA (by omega) ht h1 h2).2.1
  have h4 := nxt_fin hA (by omega) ht h1 h2
  rw [show s - (k + 1) = s - 1 - k by omega, e]
  show cpw A n (s - 1 - k) t (nxt A n t (s - 1 - k) (xs A n t s f k)) = _ - A (nxt A n t (s - 1 - k) (xs A n t s f k)) _
  unfold times at h3
  rw [if_neg (by rintro (e | e); exact h4.1 e; exact h4.2 e)] at h3
  omega
theorem xs_end {t s f : Nat} (hs : s ≤ 10) (ht : t < n) (hf : f < n) (h : cpw A n s t f ≠ -1000000000000000) : xs A n t s f s = t := by
  obtain ⟨h1, h2⟩ := xs_inv hA hs ht hf h s (Nat.le_refl _)
  rw [Nat.sub_self] at h2
  have h2 : unit t (xs A n t s f s) ≠ -1000000000000000 := h2
  unfold unit at h2
  split at h2
  · next e => exact e.symm
  · exact absurd rfl h2
end
end M
end Go.Proofs.YthonlfjjgmmnpaaGreat

namespace Go.Proofs.YthonlfjjgmmnpaaGreat.V
open Go.RowKit

/-- The matrices P, n rows each, in a list of its own; each was made at a world of its own and has stayed since. -/
def Pws (w : World) (B : Nat) (v : Value) (m n : Nat) (P : Nat → List (List Int)) : Prop :=
  ∃ V : List Value, V.length = m ∧ w.ownsRow B 24 1 v m V ∧
    ∀ i, i < m → ∃ (wi : World) (lo : Nat) (b : Option Addr) (c : Nat), V.getD i (.slice none 0 0) = .slice b n c ∧ OwnM wi lo (.slice b n c) (P i) ∧ wi.heap.size ≤ w.heap.size ∧ Same lo wi.heap.size wi w ∧ ∀ k, v.ownBlock = some k → ¬(lo ≤ k ∧ k < wi.heap.size)

theorem OwnM.same {wi w : World} {lo : Nat} {v : Value} {R : List (List Int)} (h : OwnM wi lo v R) (hs : Same lo wi.heap.size wi w) : OwnM w lo v R :=
  h.keep hs
theorem Pws.below {w w' : World} {B : Nat} {v : Value} {m n : Nat} {P : Nat → List (List Int)} (h : Pws w B v m n P) (hb : Below w.heap.size w w') : Pws w' B v m n P := by
  obtain ⟨V, h1, h2, h3⟩ := h
  refine ⟨V, h1, ownsRow_keep h2 (fun k hv => hb.block k (own_lt h2 hv).2), fun i hi => ?_⟩
  obtain ⟨wi, lo, b, c, e, ho, hz, hs, hk⟩ := h3 i hi
  exact ⟨wi, lo, b, c, e, ho, Nat.le_trans hz hb.size, hs.below hb hz, hk⟩
/-- One of the matrices. -/
theorem Pws.at {w : World} {B : Nat} {a : Option Addr} {m n cap : Nat} {P : Nat → List (List Int)} (h : Pws w B (.slice a m cap) m n P) (i : Nat) (hi : i < m) :
    ∃ g b c, a = some ⟨g, 0, none⟩ ∧ w.cell? ⟨g, i, none⟩ = some (.slice b n c) ∧ Mat w b n (P i) := by
  obtain ⟨V, h1, h2, h3⟩ := h
  obtain ⟨a', c', hv, hc, hm, hg⟩ := own_form h2
  injection hv with e1 e2 e3
  subst e1 e3
  obtain ⟨g, rfl, hB, hlt⟩ := hg (by omega)
  obtain ⟨wi, lo, b, c, e, ho, hz, hs, hk⟩ := h3 i hi
  refine ⟨g, b, c, rfl, ?_, (ho.same hs).mat⟩
  rw [World.ownsRow.cellAt h2 i (by omega), ← e]
  simp [show i < V.length by omega]
theorem Pws.caps {w : World} {B : Nat} {a : Option Addr} {m n cap : Nat} {P : Nat → List (List Int)} (h : Pws w B (.slice a m cap) m n P) : m ≤ cap ∧ cap ≤ maxLen := by
  obtain ⟨V, h1, h2, _⟩ := h
  obtain ⟨a', c', hv, k1, k2, _⟩ := own_form h2
  injection hv with e1 e2 e3
  subst e3
  exact ⟨k1, k2⟩
theorem pws_lit1 (w : World) (B n : Nat) (hB : B ≤ w.heap.size) {b : Option Addr} {c : Nat} {M : List (List Int)} (ho : OwnM w B (.slice b n c) M) (P : Nat → List (List Int)) (hP : P 0 = M) :
    Pws (w.alloc (.cells #[.slice b n c] 24)) B (.slice (some ⟨w.heap.size, 0, none⟩) 1 1) 1 n P := by
  refine ⟨[.slice b n c], rfl, World.ownsRow_lit w #[.slice b n c] 1 hB (by decide) rfl, fun i hi => ?_⟩
  obtain rfl : i = 0 := by omega
  refine ⟨w, B, b, c, rfl, by rw [hP]; exact ho, (b_alloc w _).size, (Same.refl B w.heap.size w).below (b_alloc w _) (Nat.le_refl _), fun k hk => ?_⟩
  simp only [Value.ownBlock, Option.some.injEq] at hk
  omega
theorem infoM64 : (Tryz.prog.info? 24).map (fun i => (i.zero, i.size, i.bytes)) = some (some (.slice none 0 0), 1, 24) := by kernel_rfl

set_option maxRecDepth 100000 in
set_option maxHeartbeats 400000 in
theorem sNode (a : Option Addr) (n cap : Nat) (x : Int) (w : World) (hn : n ≤ 1000) : Calls Tryz.prog 69 #[.slice a n cap, .int .i64 x] w fun e w' => e = .returned (.bool (M.inN n x)) ∧ w = w' := by
  go_enter Tryz.func69, Tryz.ntmps69
  go_wp2_with fail
  refine (sIn _ _ _ _).mono ?_
  rintro e w' ⟨rfl, rfl⟩
  go_wp2
  go_ret
  exact ⟨retB (by unfold M.inN; rw [Bool.eq_iff_iff]; simp; omega), rfl⟩
theorem sNode_b (a : Option Addr) (n cap : Nat) (x : Int) (w : World) (b : Bool) (hb : M.inN n x = b) (hn : n ≤ 1000) : Calls Tryz.prog 69 #[.slice a n cap, .int .i64 x] w fun e w' => e = .returned (.bool b) ∧ w = w' := by
  subst hb; exact sNode a n cap x w hn
end Go.Proofs.YthonlfjjgmmnpaaGreat.V
