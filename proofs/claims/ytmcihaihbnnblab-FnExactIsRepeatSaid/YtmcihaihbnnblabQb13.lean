/- Texts laid together: IBot, Hv1, Orb. -/
import Derived.Test.YtmcihaihbnnblabRows
import Derived.Test.YtmcihaihbnnblabQb1
import Derived.Test.YtmcihaihbnnblabQb2
import Derived.Test.YtmcihaihbnnblabQb3
import Derived.WalkKit
import Derived.ProofKit
import Derived.WalkSmall
import Derived.Deep.QuietTactic
import Derived.BigQuiet
import Derived.BigRegion
import Derived.Deep.Draws
import Derived.Lib.Hide
import Derived.OpenShut
import Derived.Deep.OwnRows
import Derived.Test.YtmcihaihbnnblabQb4
import Derived.Test.YtmcihaihbnnblabQb12
import Derived.Test.YtmcihaihbnnblabQb11
import Derived.Test.YtmcihaihbnnblabQb5
import Derived.Test.YtmcihaihbnnblabQb6
import Derived.Test.YtmcihaihbnnblabQb7
import Derived.Test.YtmcihaihbnnblabQb8
import Derived.Test.YtmcihaihbnnblabQb9
set_option linter.unusedSimpArgs false
set_option linter.unusedVariables false
set_option linter.unusedSectionVars false
namespace Go.Proofs.Ytmcihaihbnnblab.V
open Go.RowKit

set_option maxRecDepth 100000 in
set_option maxHeartbeats 1000000 in
theorem filled (m n : Nat) (x : Int) (w : World) (m1 : 1 ≤ m) (hm : m ≤ 10) (n1 : 1 ≤ n) (hn : n ≤ 10) :
    Calls Try.prog 104 #[.int .i64 m, .int .i64 n, .int .i64 x] w (MPost m (M.mk m n fun _ _ => x) w) := by
  have hmk := run_make_row' (P := Try.prog) 22 29 (.slice none 0 0) 24 Try.underlying22 infoS64 rfl .i64 .i64 m (by omega) (by omega)
  have hO0 : Hid (OwnM (w.alloc (.cells (madeCells #[.slice none 0 0] m) 29)) w.heap.size (.slice (some ⟨w.heap.size, 0, none⟩) m m) (List.replicate m [])) := ownM_made w _ m (Nat.le_refl _) (by unfold maxLen; omega)
  go_enter Try.func104, Try.ntmps104
  go_wp2
  clear hmk
  go_loopw [8, 13] (fun _ i wr => ∃ k : Nat, k ≤ m ∧ i = .int .i64 k ∧ OwnM wr w.heap.size (.slice (some ⟨w.heap.size, 0, none⟩) m m) ((List.range m).map fun j => if j < k then (List.range n).map (fun _ => x) else []) ∧ Below w.heap.size w wr) (fun _ i _ => m - (intOf i).toNat)
  case atStart =>
    refine ⟨0, Nat.zero_le _, rfl, (congrArg (OwnM _ _ _) ?_).mp hO0.out, b_alloc _ _⟩
    apply List.ext_getElem
    · simp
    · intro i h1 h2; simp
  case round =>
    obtain ⟨k, hk, rfl, hO, hb⟩ := hrel
    have HO := Lib.hid hO
    have HB := Lib.hid hb
    clear hO hb hO0
    by_cases hlt : k < m
    · have hki : (k : Int) < (m : Int) := by omega
      have hg := HO.out.lt rfl
      have hlit := one_lit wr x
      go_wp2_with fail
      refine (repeat1 wr.heap.size n 1 x _ n1 hn hlit (by simp)).mono ?_
      rintro e w1 ⟨rfl, ho1, hb1⟩
      have hb1' : Below wr.heap.size wr w1 := (b_alloc wr _).trans (hb1.mono (by simp))
      rw [show (wr.alloc (.cells #[.int .i64 x] 2)).heap.size = wr.heap.size + 1 by simp] at ho1
      have ho1' := ho1.mono (Nat.le_succ _)
      have hst : ∃ v, w1.cell? ⟨w.heap.size, k, none⟩ = some v := by
        obtain ⟨v, hv⟩ := HO.out.outer k hlt
        exact ⟨v, by rw [hb1'.cell (p := ⟨w.heap.size, k, none⟩) hg]; exact hv⟩
      obtain ⟨v, hst⟩ := hst
      have hfz : w1.frozen? ⟨w.heap.size, k, none⟩ = false := by rw [hb1'.frozen (p := ⟨w.heap.size, k, none⟩) hg]; exact HO.out.outerFz k
      have HN := Lib.hid (HO.out.setRow hb1' HB.out.size ho1' k hlt)
      have HB1 := Lib.hid (bnext HB.out hb1')
      clear ho1 hb1 hg hlit hb1' ho1'
      go_wp2
      go_roundw
      case rel =>
        refine ⟨k + 1, by omega, by go_num, ?_, HB1.out.setCell (Nat.le_refl _) _⟩
        refine (congrArg (OwnM _ _ _) ?_).mp HN.out
        apply List.ext_getElem
        · simp
        · intro j h1 h2
          simp only [List.length_map, List.length_range] at h2
          rw [List.getElem_set]
          simp only [List.getElem_map, List.getElem_range]
          by_cases e : k = j
          · subst e; rw [if_pos rfl, if_pos (by omega)]
          · rw [if_neg e]
            by_cases e2 : j < k
            · rw [if_pos e2, if_pos (by omega)]
            · rw [if_neg e2, if_neg (by omega)]
      case measure => simp [intOf]; omega
    · have hkn : k = m := by omega
      subst hkn
      go_wp2
      go_ret
      refine ⟨_, _, rfl, (congrArg (OwnM _ _ _) ?_).mp HO.out, HB.out⟩
      unfold M.mk
      exact List.map_congr_left fun j hj => by rw [if_pos (List.mem_range.1 hj)]

set_option maxRecDepth 100000 in
set_option maxHeartbeats 1000000 in
theorem unitOf (n : Nat) (w : World) (n1 : 1 ≤ n) (hn : n ≤ 10) :
    Calls Try.prog 81 #[.int .i64 n] w (MPost n (M.unitM n) w) := by
  go_enter Try.func81, Try.ntmps81
  go_wp2_with fail
  refine (filled n n _ _ n1 hn n1 hn).mono ?_
  rintro e w1 ⟨a, cap, rfl, hO, hb⟩
  have hO' : OwnM w1 w.heap.size (.slice a n cap) (M.mk n n fun i j => if i = j ∧ i < 0 then 0 else -1000000000000000) :=
    (congrArg (OwnM _ _ _) (M.mk_congr fun i _ j _ => by rw [if_neg (by omega)])).mp hO
  have HO0 := Lib.hid hO'
  have HB0 := Lib.hid hb
  clear hO hb hO'
  go_wp2
  go_loopw [4, 10] (fun _ i wr => ∃ k : Nat, k ≤ n ∧ i = .int .i64 k ∧ OwnM wr w.heap.size (.slice a n cap) (M.mk n n fun i j => if i = j ∧ i < k then 0 else -1000000000000000) ∧ Below w.heap.size w wr) (fun _ i _ => n - (intOf i).toNat)
  case atStart => exact ⟨0, Nat.zero_le _, rfl, HO0.out, HB0.out⟩
  case round =>
    obtain ⟨k, hk, rfl, hO, hb⟩ := hrel
    have HO := Lib.hid hO
    have HB := Lib.hid hb
    clear hO hb
    by_cases hlt : k < n
    · obtain ⟨g, q, L, c, x, rfl, hg, hq, hL, hx, h1, h2, h3, h4⟩ := HO.out.at k k hlt (by rw [M.mk_rowlen _ _ _ _ hlt]; exact hlt)
      rw [M.mk_rowlen _ _ _ _ hlt] at hL
      obtain rfl : n = L := hL.symm
      have hN := h4 0
      rw [M.mk_set _ _ _ _ _ _ hlt] at hN
      have HN := Lib.hid hN
      have hki : (k : Int) < (n : Int) := by omega
      clear hx h4 hN
      go_wp2
      go_roundw
      case rel =>
        refine ⟨k + 1, by omega, by go_num, (congrArg (OwnM _ _ _) (M.mk_congr fun i _ j _ => ?_)).mp HN.out, HB.out.setCell hq _⟩
        by_cases e : i = k
        · subst e
          by_cases e2 : j = i
          · subst e2; simp
          · rw [if_pos rfl, if_neg e2, if_neg (by omega), if_neg (by omega)]
        · rw [if_neg e]
          by_cases e2 : i = j ∧ i < k
          · rw [if_pos e2, if_pos (by omega)]
          · rw [if_neg e2, if_neg (by omega)]
      case measure => simp [intOf]; omega
    · obtain rfl : k = n := by omega
      go_wp2
      go_ret
      refine ⟨_, _, rfl, (congrArg (OwnM _ _ _) (M.mk_congr fun i hi j _ => ?_)).mp HO.out, HB.out⟩
      by_cases e : i = j
      · rw [if_pos ⟨e, hi⟩, if_pos e]
      · rw [if_neg (by omega), if_neg e]


end Go.Proofs.Ytmcihaihbnnblab.V

namespace Go.Proofs.Ytmcihaihbnnblab.V
open Go.RowKit

theorem OwnM.caps {w : World} {B n cap : Nat} {a : Option Addr} {R : List (List Int)} (h : OwnM w B (.slice a n cap) R) : n ≤ cap ∧ cap ≤ maxLen := by
  obtain ⟨V, h1, h2, _⟩ := h
  obtain ⟨a', c', hv, k1, k2, _⟩ := own_form h2
  injection hv with e1 e2 e3
  subst e2 e3
  exact ⟨k1, k2⟩
/-- One row of an owned matrix, as a list of its own. -/
theorem OwnM.row {w : World} {B n cap : Nat} {a : Option Addr} {R : List (List Int)} (h : OwnM w B (.slice a n cap) R) (i : Nat) (hi : i < n) :
    ∃ g ra rc, a = some ⟨g, 0, none⟩ ∧ w.cell? ⟨g, i, none⟩ = some (.slice ra (R.getD i []).length rc) ∧ Own w B (.slice ra (R.getD i []).length rc) (R.getD i []) := by
  have hl := h.len
  obtain ⟨V, h1, h2, h3, h4, h5⟩ := h
  obtain ⟨a', c', hv, hc, hm, hg⟩ := own_form h2
  injection hv with e1 e2 e3
  subst e1 e2 e3
  obtain ⟨g, rfl, hB, hlt⟩ := hg (by omega)
  have hr := h3 i (by omega)
  obtain ⟨ra, rc, hrv, _⟩ := own_form hr
  rw [hrv] at hr
  refine ⟨g, ra, rc, rfl, ?_, hr⟩
  rw [World.ownsRow.cellAt h2 i (by omega), ← hrv]
  simp [show i < V.length by omega]
theorem ownM_lit1 (w : World) (B : Nat) (hB : B ≤ w.heap.size) {rv : Value} {l : List Int} (ho : Own w B rv l) : OwnM (w.alloc (.cells #[rv] 29)) B (.slice (some ⟨w.heap.size, 0, none⟩) 1 1) [l] := by
  refine ⟨[rv], rfl, World.ownsRow_lit w #[rv] 1 hB (by decide) rfl, fun i hi => ?_, fun i hi k hk => ?_, fun i j hi hj hne => ?_⟩
  · obtain rfl : i = 0 := by simp at hi; omega
    exact ho.below (b_alloc w _)
  · obtain rfl : i = 0 := by simp at hi; omega
    have := (own_lt ho hk).2
    intro e
    simp only [Value.ownBlock, Option.some.injEq] at e
    omega
  · simp at hi hj; omega
/-- A part of one row. -/
theorem mat_sub {w : World} {b off n : Nat} {R : List (List Int)} (h : Mat w (some ⟨b, off, none⟩) n R) (k : Nat) (hk : k < n) : Mat w (some ⟨b, off + k, none⟩) 1 [R.getD k []] := by
  obtain ⟨h1, h2, h3⟩ := h
  refine ⟨rfl, by decide, .inr ?_⟩
  rcases h3 with h3 | ⟨b', off', e, hlt, hc⟩
  · omega
  · injection e with e
    injection e with e1 e2
    subst e1 e2
    refine ⟨b, off + k, rfl, hlt, fun i hi => ?_⟩
    obtain rfl : i = 0 := by omega
    obtain ⟨ra, rc, hr, hI⟩ := hc k hk
    exact ⟨ra, rc, hr, hI⟩
/-- The weights to a node, one row for each number of arcs. -/
def M.wtM (A : Nat → Nat → Int) (n t k : Nat) : List (List Int) := M.mk k n fun s j => M.cpw A n s t j
theorem M.wt_row (A : Nat → Nat → Int) (n t k s : Nat) (h : s < k) : (M.wtM A n t k).getD s [] = (List.range n).map fun j => M.cpw A n s t j := M.mk_row _ _ _ _ h
theorem M.wt_next (R : List (List Int)) (n t s : Nat) : (M.mk 1 n (fun i j => M.dot [(List.range n).map fun j => M.cpw (M.ent R) n s t j] R i j n)).getD 0 [] = (List.range n).map fun j => M.cpw (M.ent R) n (s + 1) t j := by
  rw [M.mk_row _ _ _ _ (by omega)]
  refine List.map_congr_left fun j _ => ?_
  unfold M.dot
  refine M.sumN_congr fun u hu => ?_
  congr 1
  unfold M.ent
  simp [hu]


end Go.Proofs.Ytmcihaihbnnblab.V

namespace Go.Proofs.Ytmcihaihbnnblab
namespace M
theorem orbL_one (R : List (List Int)) (x : List Int) : orbL R x 1 = [x] := rfl
theorem orbRes_ok (R : List (List Int)) (x : List Int) (n : Int) : pre (orbRes R x n).1 (orbRes R x n).1.length ≤ 2000 ∧ (orbRes R x n).1.length ≤ 101 := by
  unfold orbRes
  split
  · next h =>
    obtain ⟨hs, hx, hl⟩ := orbCode_t h
    split
    · next h2 =>
      split
      · refine ⟨?_, by rw [orbL_len]; omega⟩
        have hv := (isVec_t hx).2.1
        have : ∀ k, pre (orbL R x (n.toNat + 1)) k ≤ 10 * k := by
          intro k
          unfold pre
          induction k with
          | zero => simp
          | succ k ih =>
            by_cases q : k < (orbL R x (n.toNat + 1)).length
            · rw [List.take_succ_eq_append_getElem q, List.map_append, List.sum_append]
              have hk : k < n.toNat + 1 := by rw [orbL_len] at q; exact q
              have : (orbL R x (n.toNat + 1))[k].length ≤ 10 := by
                have e : (orbL R x (n.toNat + 1))[k] = orb R x k := by
                  have := orbL_get (R := R) (x := x) hk
                  rw [List.getD_eq_getElem?_getD, List.getElem?_eq_getElem q] at this
                  exact this
                rw [e, orb_len hl]; omega
              simp only [List.map_cons, List.map_nil, List.sum_cons, List.sum_nil]
              omega
            · rw [List.take_of_length_le (by omega)]
              rw [List.take_of_length_le (by omega)] at ih
              omega
        have := this (orbL R x (n.toNat + 1)).length
        show pre (orbL R x (n.toNat + 1)) (orbL R x (n.toNat + 1)).length ≤ 2000
        rw [orbL_len] at this ⊢
        omega
      · simp [pre]
    · simp [pre]
  · simp [pre]
end M
namespace V
set_option maxRecDepth 100000
open Go.RowKit
theorem sq_parts7 {w : World} {a : Option Addr} {n : Nat} {R : List (List Int)} (h : Mat w a n R) (hs : M.sqB R = true) : Rect R n n ∧ 1 ≤ n ∧ n ≤ 10 ∧ ∀ i j, i < n → j < n → M.Sm 1000000 (M.ent R i j) := by
  have hq := sq_of h hs
  have e := (M.sq_sm hs).2.2
  rw [h.1] at e
  exact ⟨hq.2.1, hq.2.2.2.1, hq.2.2.2.2, e⟩
set_option maxRecDepth 100000 in
set_option maxHeartbeats 400000 in
theorem orbitCode (a : Option Addr) (n cap : Nat) (R : List (List Int)) (a' : Option Addr) (N cap' : Nat) (l : List Int) (w : World) (h : Mat w a n R) (h' : Ints .i64 w a' N l) :
    Calls Try.prog 73 #[.slice a n cap, .slice a' N cap'] w fun e w' => e = .returned (.int .i64 (M.orbCode R l)) ∧ w = w' := by
  have HA := Lib.hid h
  have HI := Lib.hid h'
  have hRn : R.length = n := h.1
  have hln : l.length = N := h'.1
  obtain ⟨v1, hv1⟩ : ∃ v, v = M.sqB R := ⟨_, rfl⟩
  have HV1 := Lib.hid hv1.symm
  cases v1 with
  | false =>
    have HE : Hid (M.orbCode R l = 1) := by show _ = _; unfold M.orbCode; rw [← hv1]; rfl
    clear h h' hv1 hRn hln
    go_enter Try.func73, Try.ntmps73
    go_wp2_with (go_at_call 44; refine (isSquare_b _ _ _ R _ false HV1.out HA.out).mono ?_; rintro e w' ⟨rfl, rfl⟩)
    go_ret
    rw [HE.out]
    exact ⟨rfl, rfl⟩
  | true =>
    obtain ⟨v2, hv2⟩ : ∃ v, v = M.isVec l := ⟨_, rfl⟩
    have HV2 := Lib.hid hv2.symm
    cases v2 with
    | false =>
      have HE : Hid (M.orbCode R l = 1) := by show _ = _; unfold M.orbCode; rw [← hv1, ← hv2]; rfl
      clear h h' hv1 hv2 hRn hln
      go_enter Try.func73, Try.ntmps73
      go_wp2_with (first | (go_at_call 44; refine (isSquare_b _ _ _ R _ true HV1.out HA.out).mono ?_; rintro e w' ⟨rfl, rfl⟩) | (go_at_call 70; refine (isVector_b _ _ _ l _ false HV2.out HI.out).mono ?_; rintro e w' ⟨rfl, rfl⟩))
      go_ret
      rw [HE.out]
      exact ⟨rfl, rfl⟩
    | true =>
      by_cases hl : N = n
      · subst hl
        have HE : Hid (M.orbCode R l = 0) := by show _ = _; unfold M.orbCode; rw [← hv1, ← hv2, if_pos (by rfl), if_pos (by omega)]
        clear h h' hv1 hv2 hRn hln
        go_enter Try.func73, Try.ntmps73
        go_wp2_with (first | (go_at_call 44; refine (isSquare_b _ _ _ R _ true HV1.out HA.out).mono ?_; rintro e w' ⟨rfl, rfl⟩) | (go_at_call 70; refine (isVector_b _ _ _ l _ true HV2.out HI.out).mono ?_; rintro e w' ⟨rfl, rfl⟩))
        go_ret
        rw [HE.out]
        exact ⟨rfl, rfl⟩
      · have HE : Hid (M.orbCode R l = 5) := by show _ = _; unfold M.orbCode; rw [← hv1, ← hv2, if_pos (by rfl), if_neg (by omega)]
        have hne : ((N : Int) != (n : Int)) = true := by simp; omega
        clear h h' hv1 hv2 hRn hln
        go_enter Try.func73, Try.ntmps73
        go_wp2_with (first | (go_at_call 44; refine (isSquare_b _ _ _ R _ true HV1.out HA.out).mono ?_; rintro e w' ⟨rfl, rfl⟩) | (go_at_call 70; refine (isVector_b _ _ _ l _ true HV2.out HI.out).mono ?_; rintro e w' ⟨rfl, rfl⟩))
        go_ret
        rw [HE.out]
        exact ⟨rfl, rfl⟩
set_option maxRecDepth 100000 in
set_option maxHeartbeats 4000000 in
theorem orbitOf (a : Option Addr) (n cap : Nat) (R : List (List Int)) (a' : Option Addr) (N cap' : Nat) (l : List Int) (m : Int) (w : World) (h : Mat w a n R) (h' : Ints .i64 w a' N l) :
    Calls Try.prog 34 #[.slice a n cap, .slice a' N cap', .int .i64 m] w (MRes (M.orbRes R l m) w) := by
  have HA := Lib.hid h
  have HI := Lib.hid h'
  obtain ⟨k0, hk0⟩ : ∃ k, k = M.orbCode R l := ⟨_, rfl⟩
  have HK := Lib.hid hk0.symm
  by_cases hk : k0 = 0
  · subst hk
    obtain ⟨hs, hx, hl⟩ := M.orbCode_t hk0.symm
    obtain ⟨hr, n1, n2, hsm⟩ := sq_parts7 h hs
    have hRn : R.length = n := h.1
    have hNn : N = n := by rw [← h'.1, hl]; exact hRn
    subst hNn
    by_cases hm : 0 ≤ m ∧ m ≤ 100
    · obtain ⟨q, rfl⟩ := Int.eq_ofNat_of_zero_le hm.1
      have hq : q ≤ 100 := by omega
      have hq2 : (decide ((q : Int) < 0)) = false := by simp
      have HE : Hid (M.orbRes R l (q : Int) = if (M.orbL R l (q + 1)).all M.isVec then (M.orbL R l (q + 1), 0) else ([], 3)) := by show _ = _; unfold M.orbRes; rw [← hk0, if_pos rfl, if_pos hm]; rfl
      have HV := Lib.hid hx
      have HR := Lib.hid hr
      have HRB : Hid (∀ i j, i < N → j < N → M.Big (M.ent R i j)) := fun i j hi hj => M.big_sm (hsm i j hi hj) (by omega)
      have HLn : Hid (∀ k, (M.orb R l k).length = N) := fun k => by rw [M.orb_len hl]; exact hRn
      clear h h' hk0 hs hx hl hr hsm hRn hm
      go_enter Try.func34, Try.ntmps34
      go_wp2_with (go_at_call 73; refine (orbitCode _ _ _ R _ _ _ l _ HA.out HI.out).mono ?_; rintro e w' ⟨rfl, rfl⟩; rw [HK.out])
      refine (clone _ _ _ l _ HI.out (by omega) (by omega)).mono ?_
      rintro e w1 ⟨b1, c1, rfl, ho, hb⟩
      have HO0 : Hid (OwnM (w1.alloc (.cells #[.slice b1 N c1] 29)) w.heap.size (.slice (some ⟨w1.heap.size, 0, none⟩) 1 1) (M.orbL R l (0 + 1))) := ownM_lit1 w1 _ hb.size ho
      have HB0 : Hid (Below w.heap.size w (w1.alloc (.cells #[.slice b1 N c1] 29))) := hb.alloc hb.size _
      have HF0 : Hid ((M.orbL R l (0 + 1)).all M.isVec = true) := by show _ = _; rw [Nat.zero_add, M.orbL_one]; simp [HV.out]
      clear ho hb
      go_wp2
      go_loopw [9, 10, 27] (fun o _ kv wr => ∃ (k : Nat) (b : Option Addr) (c : Nat), k ≤ q ∧ kv = .int .i64 k ∧ o = .slice b (k + 1) c ∧ Hid (OwnM wr w.heap.size (.slice b (k + 1) c) (M.orbL R l (k + 1))) ∧ Hid ((M.orbL R l (k + 1)).all M.isVec = true) ∧ Hid (Below w.heap.size w wr)) (fun _ _ kv _ => q - (intOf kv).toNat)
      case atStart => exact ⟨0, _, _, Nat.zero_le _, rfl, rfl, HO0, HF0, HB0⟩
      case round =>
        obtain ⟨k, b, c, hk, rfl, rfl, HO, HF, HB⟩ := hrel
        obtain ⟨wo, rfl⟩ : ∃ x, x = wr := ⟨_, rfl⟩
        by_cases hkl : k < q
        · have hki : (k : Int) < (q : Int) := by omega
          obtain ⟨g, ra, rc, rfl, hcr, hro⟩ := HO.out.row k (by omega)
          rw [M.orbL_get (Nat.lt_succ_self k), HLn.out k] at hcr hro
          have hvk := M.orb_all HF.out (Nat.lt_succ_self k)
          have HRo := Lib.hid hro.ints'
          have HBg : Hid (∀ j, j < N → M.Big ((M.orb R l k).getD j 0)) := fun j hj => M.big_val ((M.isVec_t hvk).2.2 j (by rw [HLn.out]; exact hj))
          have hzo : w.heap.size ≤ wo.heap.size := HB.out.size
          obtain ⟨bv, hbv⟩ : ∃ b, b = M.isVec (M.orb R l (k + 1)) := ⟨_, rfl⟩
          have HBv := Lib.hid hbv.symm
          have HLk : Hid ((M.orbL R l (k + 1)).length = k + 1) := M.orbL_len _ _ _
          have hz1 : ((k : Int) + 1 - 1) = (k : Int) := by omega
          clear hro hvk hbv
          go_wp2_with fail
          refine (timesColumn _ _ _ R _ _ _ (M.orb R l k) _ (HA.out.below HB.out) HRo.out HR.out HRB.out HBg.out n1 n2 n1 n2).mono ?_
          rintro e w3 ⟨b3, c3, rfl, ho3, hb3⟩
          have HR3 : Hid (Own w3 wo.heap.size (.slice b3 N c3) (M.orb R l (k + 1))) := ho3
          have HB3 := Lib.hid hb3
          clear ho3 hb3
          cases bv with
          | false =>
            have HN : Hid ((M.orbL R l (q + 1)).all M.isVec = false) := M.orb_all_not (k := k + 1) (by omega) HBv.out
            go_wp2_with fail
            refine (isVector_b _ _ _ (M.orb R l (k + 1)) _ false HBv.out HR3.out.ints').mono ?_
            rintro e w' ⟨rfl, rfl⟩
            go_wp2
            go_ret2
            exact MRes.nil (by rw [HE.out, HN.out]; rfl) (HB.out.trans (HB3.out.mono hzo))
          | true =>
            have HF2 : Hid ((M.orbL R l (k + 1 + 1)).all M.isVec = true) := M.orb_all_next HF.out HBv.out
            go_wp2_with (first | (go_at_call 70; refine (isVector_b _ _ _ (M.orb R l (k + 1)) _ true HBv.out HR3.out.ints').mono ?_; rintro e w' ⟨rfl, rfl⟩) | (at_builtin; refine appendRow wo _ rfl (.tmp 40) (.tmp 42) rfl w.heap.size _ _ (M.orbL R l (k + 1)) (M.orb R l (k + 1)) (k + 1) HLk.out rfl HO.out HB3.out HR3.out rfl (by rw [HLk.out]; omega) hzo ?_))
            intro b4 c4 w4 hO4 hb4 _
            rw [← M.orbL_next] at hO4
            have HO4 := Lib.hid hO4
            have HB4 := Lib.hid ((HB.out.trans (HB3.out.mono hzo)).trans hb4)
            clear hO4 hb4
            go_wp2
            go_roundw
            case rel => exact ⟨k + 1, b4, c4, by omega, by go_num, rfl, HO4, HF2, HB4⟩
            case measure => simp [intOf]; omega
        · obtain rfl : k = q := by omega
          go_wp2
          go_ret2
          rw [HE.out, HF.out]
          exact ⟨_, _, _, rfl, HO.out, HB.out⟩
    · have HE : Hid (M.orbRes R l m = ([], 2)) := by show _ = _; unfold M.orbRes; rw [← hk0, if_pos rfl, if_neg hm]
      by_cases hm0 : m < 0
      · clear h h' hk0 hs hx hl hr hsm hRn hm
        go_enter Try.func34, Try.ntmps34
        go_wp2_with (go_at_call 73; refine (orbitCode _ _ _ R _ _ _ l _ HA.out HI.out).mono ?_; rintro e w' ⟨rfl, rfl⟩; rw [HK.out])
        go_ret2
        exact MRes.nil HE.out (Below.refl _ _)
      · have hm1 : 100 < m := by omega
        clear h h' hk0 hs hx hl hr hsm hRn hm
        go_enter Try.func34, Try.ntmps34
        go_wp2_with (go_at_call 73; refine (orbitCode _ _ _ R _ _ _ l _ HA.out HI.out).mono ?_; rintro e w' ⟨rfl, rfl⟩; rw [HK.out])
        go_ret2
        exact MRes.nil HE.out (Below.refl _ _)
  · have HE : Hid (M.orbRes R l m = ([], k0)) := by show _ = _; unfold M.orbRes; rw [← hk0, if_neg hk]
    have hk2 : (k0 != 0) = true := by simpa using hk
    clear h h' hk0 hk
    go_enter Try.func34, Try.ntmps34
    go_wp2_with (go_at_call 73; refine (orbitCode _ _ _ R _ _ _ l _ HA.out HI.out).mono ?_; rintro e w' ⟨rfl, rfl⟩; rw [HK.out])
    go_ret2
    exact MRes.nil HE.out (Below.refl _ _)
end V
end Go.Proofs.Ytmcihaihbnnblab
