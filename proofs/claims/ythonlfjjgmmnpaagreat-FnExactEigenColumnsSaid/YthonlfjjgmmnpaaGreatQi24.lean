/- Texts laid together: Nds, Cpi, Repeat, IBot. -/
import Derived.Test.YthonlfjjgmmnpaaGreatQi23
import Derived.Test.YthonlfjjgmmnpaaGreatQi16
import Derived.Sort.OwnSortedInts
import Derived.Laws.IdiomRangeMap
import Derived.Test.YthonlfjjgmmnpaaGreatQi22
import Derived.Test.YthonlfjjgmmnpaaGreatQi18
import Derived.Test.YthonlfjjgmmnpaaGreatQi8
import Derived.Test.YthonlfjjgmmnpaaGreatRows
import Derived.Test.YthonlfjjgmmnpaaGreatQi1
import Derived.Test.YthonlfjjgmmnpaaGreatQi2
import Derived.WalkKit
import Derived.ProofKit
import Derived.WalkSmall
import Derived.Deep.QuietTactic
import Derived.BigQuiet
import Derived.BigRegion
import Derived.Deep.Draws
import Derived.Lib.Hide
import Derived.OpenShut
import Derived.Deep.OwnRows
import Derived.Laws.CopyOwn
import Derived.Deep.RegionLaw
import Derived.IntWalk
import Derived.Maps.AppendAt
import Derived.StillTailTactics
import Derived.Deep.RegionHeld3
import Derived.Test.YthonlfjjgmmnpaaGreatQi3
import Derived.Test.YthonlfjjgmmnpaaGreatQi5
namespace Go.Proofs.YthonlfjjgmmnpaaGreat.V
set_option maxRecDepth 100000
open Go.RowKit Go.Maps Go.Sort
theorem putRow_grow0 (w : World) (g off q : Nat) (d : Array Int) : putRow (Value.int .i64) (Sort.ahead w q) g off d = Sort.grow (putRow (Value.int .i64) (Sort.ahead w q) g off d) #[] := by
  unfold Sort.grow putRow mapBlock Sort.ahead
  simp
set_option maxRecDepth 100000 in
set_option maxHeartbeats 400000 in
theorem sortInts (B : Nat) (b : Option Addr) (c : Nat) (l : List Int) (w : World) (h : Own w B (.slice b l.length c) l) (hl : l.length ≤ 1000) :
    Calls Tryz.prog 104 #[.slice b l.length c] w fun e w' => e = .returned (.tuple #[]) ∧ Own w' B (.slice b l.length c) (l.mergeSort fun x y => decide (x ≤ y)) ∧ w.grownBy w' (Value.slice b l.length c).ownBlock := by
  by_cases h0 : l.length = 0
  · obtain rfl : l = [] := List.eq_nil_of_length_eq_zero h0
    refine (Tryz.slices_Sort_int_none b c w).mono ?_
    rintro e w' ⟨rfl, rfl⟩
    exact ⟨rfl, by simpa using h, ⟨rfl, rfl, rfl, Nat.le_refl _, fun _ _ _ => rfl⟩⟩
  · rcases h.2 with ⟨-, hn⟩ | ⟨g, cap, cur, hv, hbase, hb, h1, h2, h3, h4⟩
    · exact absurd hn h0
    · injection hv with e1 e2 e3
      subst e1 e3
      rw [Nat.mul_one] at h4
      refine (Tryz.slices_Sort_int g 0 c l w (holds_of_blockI hb h4) (Array.getElem?_eq_some_iff.1 hb).1 (by omega)).mono ?_
      rintro e w' ⟨rfl, nn, os, rfl⟩
      have hlen : (l.mergeSort fun x y => decide (x ≤ y)).length = l.length := by simp
      refine ⟨rfl, ?_, grownBy_sortedI _⟩
      show World.ownsRow _ _ _ _ _ (List.mergeSort _ _).length _
      rw [hlen]
      exact ownsRow_sortedI hlen hbase hb h1 h2 h3
set_option maxRecDepth 100000 in
set_option maxHeartbeats 400000 in
theorem compactInts (B : Nat) (b : Option Addr) (c : Nat) (l : List Int) (w : World) (h : Own w B (.slice b l.length c) l) (hl : l.length ≤ 1000) :
    Calls Tryz.prog 105 #[.slice b l.length c] w fun e w' => e = .returned (.slice b (Lib.compact l).length c) ∧ Own w' B (.slice b (Lib.compact l).length c) (Lib.compact l) ∧ w.grownBy w' (Value.slice b l.length c).ownBlock := by
  by_cases h0 : l.length = 0
  · obtain rfl : l = [] := List.eq_nil_of_length_eq_zero h0
    refine (Tryz.slices_Compact_int_empty b c w).mono ?_
    rintro e w' ⟨rfl, rfl⟩
    have e0 : Lib.compact ([] : List Int) = [] := by simp [Lib.compact, Lib.compactUpTo]
    rw [e0]
    exact ⟨rfl, h, ⟨rfl, rfl, rfl, Nat.le_refl _, fun _ _ _ => rfl⟩⟩
  · rcases h.2 with ⟨-, hn⟩ | ⟨g, cap, cur, hv, hbase, hb, h1, h2, h3, h4⟩
    · exact absurd hn h0
    · injection hv with e1 e2 e3
      subst e1 e3
      rw [Nat.mul_one] at h4
      have hcl := Lib.compact_length_le l
      refine (Tryz.slices_Compact_int g 0 c l w (holds_of_blockI hb h4) (by omega) h1).mono ?_
      rintro e w' ⟨rfl, q, rfl⟩
      have hlen : (Lib.compact l ++ List.replicate (l.length - (Lib.compact l).length) 0).length = l.length := by simp; omega
      refine ⟨rfl, ?_, ?_⟩
      · rw [putRow_grow0]
        have ho := ownsRow_sortedI (w := w) (n := q) (os := #[]) (ss := l) (ts := Lib.compact l ++ List.replicate (l.length - (Lib.compact l).length) 0) hlen hbase hb h1 h2 h3
        rcases ho.2 with ⟨he, -⟩ | ⟨g', cap', cur', hv', hb1, hb2, hb3, hb4, hb5, hb6⟩
        · cases he
        · injection hv' with e1 e2 e3
          injection e1 with e1
          injection e1 with e1
          subst e1 e3
          refine ⟨by simp, .inr ⟨g, c, cur', rfl, hb1, hb2, by omega, hb4, hb5, ?_⟩⟩
          have hk := congrArg (List.take (Lib.compact l).length) hb6
          have hz : List.take (Lib.compact l).length (List.map (Value.int .i64) (Lib.compact l)) = List.map (Value.int .i64) (Lib.compact l) := List.take_of_length_le (by simp)
          rw [List.take_take, Nat.min_eq_left (by omega), List.map_append, List.take_append_of_le_length (by simp), hz] at hk
          rw [Nat.mul_one]
          exact hk
      · rw [putRow_grow0]; exact grownBy_sortedI _
theorem append1A (w : World) {ops : Array Oper} {rest : List Oper} {o : Oper} {a : Act} {Q : Exit → Act → World → Prop} (hgd : o.guard = none) (s x : Operand)
    (ho : o.op = .call { callee := .builtin .append, args := #[s, x], argTypes := #[28, 28] }) (B : Nat) (v : Value) (l : List Int) (y : Int) (n : Nat) (hn : l.length = n) (hs : a.eval s = v) (hown : Own w B v l)
    {A : Nat} (hx : a.eval x = .slice (some ⟨A, 0, none⟩) 1 1) (hA : A = w.heap.size) (hlen : l.length ≤ 2000000) (hB : B ≤ w.heap.size)
    (h : ∀ b' c' w', Own w' B (.slice b' (n + 1) c') (l ++ [y]) → Below B w w' → wpList Tryz.prog ops Q rest (a.put o.dst (.slice b' (n + 1) c')) w') :
    wpList Tryz.prog ops Q (o :: rest) a (w.alloc (.cells #[.int .i64 y] 2)) :=
  append1 w hgd s x ho B v l y n hn hs hown (by rw [hx, hA]) hlen hB fun b' c' w' h1 h2 _ => h b' c' w' h1 h2
set_option maxRecDepth 100000 in
set_option maxHeartbeats 4000000 in
theorem criticalNodes (n m b : Nat) (S : Nat → Nat → Bool) (w : World) (hI : IsArcs w b n m S) (n2 : n ≤ 10) (hm : m ≤ 100) :
    Calls Tryz.prog 52 #[.map (some b)] w fun e w' => ∃ (bb : Option Addr) (c : Nat) (l : List Int), e = .returned (.slice bb l.length c) ∧ Own w' w.heap.size (.slice bb l.length c) l ∧ (∃ ss : List Int, l = Lib.compact (ss.mergeSort fun x y => decide (x ≤ y)) ∧ ∀ x, x ∈ ss ↔ ∃ f t : Nat, f < n ∧ t < n ∧ S f t = true ∧ x = f) ∧ Below w.heap.size w w' := by
  have HI := Lib.hid hI
  have hbl := hI.lt
  clear hI
  go_enter Tryz.func52, Tryz.ntmps52
  go_wp2_with (first | (at_range; refine wpList_rangeA _ rfl _ rfl b n m S rfl HI.out ?_; intro w0 cnt hr hcm hg hz))
  go_frame
  have HR0 := Lib.hid hr
  have HG0 := Lib.hid hg
  have HZ0 := Lib.hid hz
  have HB0 : Hid (Below w.heap.size w w0) := (Below.refl _ _).grown hg (Nat.le_refl _) (fun j hj => by cases hj)
  clear hr hg hz
  go_loopw [3, 4] (fun sv _ wr => ∃ (L : Nat → Nat → Bool) (ss : List Int) (k : Nat) (bb : Option Addr) (c : Nat), sv = .slice bb ss.length c ∧ Hid (RngA wr b w.heap.size n m S L k) ∧ Hid (Own wr (w.heap.size + 1) (.slice bb ss.length c) ss) ∧ ss.length + k ≤ 100 ∧ Hid (∀ x, x ∈ ss ↔ ∃ f t : Nat, f < n ∧ t < n ∧ S f t = true ∧ L f t = false ∧ x = f) ∧ Hid (Below w.heap.size w wr) ∧ w.heap.size + 1 ≤ wr.heap.size) (fun _ _ wr => wr.rangeLeft b w.heap.size)
  case atStart =>
    exact ⟨S, [], cnt, none, 0, rfl, HR0, own_nil _ _, by simp; omega, fun x => ⟨fun h => by simp at h, fun ⟨f, t, _, _, h1, h2, _⟩ => by rw [h1] at h2; cases h2⟩, HB0, by rw [HZ0.out]; exact Nat.le_refl _⟩
  case round =>
    obtain ⟨L, ss, k, bb, c, rfl, HR, HO, hk, HM, HB, hsz⟩ := hrel
    clear HR0 HG0 HB0
    go_wp2_with (first | (at_next; refine wpList_nextA _ rfl _ rfl b _ n m S L k n2 rfl HR.out ?_ ?_))
    · intro hl0
      have HMs : Hid (∀ x, x ∈ ss ↔ ∃ f t : Nat, f < n ∧ t < n ∧ S f t = true ∧ x = f) := fun x => (HM.out x).trans ⟨fun ⟨f, t, h1, h2, h3, _, h5⟩ => ⟨f, t, h1, h2, h3, h5⟩, fun ⟨f, t, h1, h2, h3, h5⟩ => ⟨f, t, h1, h2, h3, hl0 f t h1 h2, h5⟩⟩
      have HOb : Hid (∀ j, (Value.slice bb ss.length c).ownBlock = some j → w.heap.size ≤ j) := fun j hj => by have := (own_lt HO.out hj).1; omega
      clear hl0
      go_wp2_with fail
      refine (sortInts (w.heap.size + 1) bb c ss _ HO.out (by omega)).mono ?_
      rintro e w1 ⟨rfl, ho, hg1⟩
      have hlen : (ss.mergeSort fun x y => decide (x ≤ y)).length = ss.length := by simp
      have HB1 := Lib.hid (HB.out.grown hg1 (by omega) (fun j hj => HOb.out j hj))
      have hz1 : w.heap.size ≤ w1.heap.size := HB1.out.size
      have hcc := compactInts (w.heap.size + 1) bb c (ss.mergeSort fun x y => decide (x ≤ y)) w1 (by rw [hlen]; exact ho) (by rw [hlen]; omega)
      rw [hlen] at hcc
      have HCC := Lib.hid hcc
      clear hcc hlen ho hg1
      go_wp2_with fail
      refine HCC.out.mono ?_
      rintro e w2 ⟨rfl, ho2, hg2⟩
      have HO2 := Lib.hid (ho2.mono (B' := w.heap.size) (by omega))
      have HB2 := Lib.hid (HB1.out.grown hg2 hz1 (fun j hj => HOb.out j hj))
      clear ho2 hg2
      go_wp2
      go_ret
      exact ⟨bb, c, _, rfl, HO2.out, ⟨ss, rfl, HMs.out⟩, HB2.out⟩
    · intro f t w1 k1 hf ht hl hs hr1 hlt hg1 hs1 hen
      have HR1 := Lib.hid hr1
      have HOb : Hid (Own (w1.alloc (.cells #[.int .i64 (f : Int), .int .i64 (t : Int)] 61)) (w.heap.size + 1) (.slice bb ss.length c) ss) := by
        show Own _ _ _ _
        refine (HO.out.keep (w' := w1) fun j h1 h2 => hg1.block j h2 (by intro e; injection e with e; omega)).below (b_alloc _ _)
      have HB1 := Lib.hid (HB.out.grown hg1 (by omega) (fun j hj => by cases hj; exact Nat.le_refl _))
      have HLt := Lib.hid hlt
      have HMs : Hid (∀ x, x ∈ ss ++ [(f : Int)] ↔ ∃ f' t' : Nat, f' < n ∧ t' < n ∧ S f' t' = true ∧ strike L f t f' t' = false ∧ x = f') := fun x => by
        rw [List.mem_append, HM.out x, List.mem_singleton]
        constructor
        · rintro (⟨f', t', h1, h2, h3, h4, h5⟩ | rfl)
          · exact ⟨f', t', h1, h2, h3, by unfold strike; rw [h4]; rfl, h5⟩
          · exact ⟨f, t, hf, ht, hs, by unfold strike; simp, rfl⟩
        · rintro ⟨f', t', h1, h2, h3, h4, h5⟩
          unfold strike at h4
          by_cases hq : f' = f ∧ t' = t
          · right; rw [h5, hq.1]
          · left
            refine ⟨f', t', h1, h2, h3, ?_, h5⟩
            have : (decide (f' = f) && decide (t' = t)) = false := by
              by_cases p1 : f' = f
              · by_cases p2 : t' = t
                · exact absurd ⟨p1, p2⟩ hq
                · simp [p2]
              · simp [p1]
            rw [this] at h4
            simpa using h4
      have HS1 := Lib.hid hs1
      have hszA : w.heap.size + 1 ≤ (w1.alloc (.cells #[.int .i64 (f : Int), .int .i64 (t : Int)] 61)).heap.size := by simp; omega
      have HSzA := Lib.hid hszA
      clear hr1 hg1 hs1 hl hs hlt hszA
      go_wp2_with (at_builtin; refine append1A _ rfl (.tmp 11) (.tmp 14) rfl (w.heap.size + 1) _ ss (f : Int) _ rfl rfl HOb.out rfl (by simp) (by omega) HSzA.out ?_)
      intro b4 c4 w4 hO4 hb4
      have HO4 := Lib.hid hO4
      have hb5 : Below (w.heap.size + 1) w1 w4 := ((b_alloc w1 (.cells #[.int .i64 (f : Int), .int .i64 (t : Int)] 61)).mono (by have := HS1.out; omega)).trans hb4
      have HR4 := Lib.hid (HR1.out.blocks (hb5.block b (by omega)) (hb5.block w.heap.size (by omega)))
      have HB4 := Lib.hid (HB1.out.trans (hb5.mono (by omega)))
      have hsz4 : w.heap.size + 1 ≤ w4.heap.size := by have := hb5.size; have := HS1.out; omega
      have hk1 : (ss ++ [(f : Int)]).length + k1 ≤ 100 := by rw [List.length_append]; have := HLt.out; simp; omega
      clear hO4 hb4 hb5 hen
      go_wp2
      go_roundw
      case rel => exact ⟨strike L f t, ss ++ [(f : Int)], k1, b4, c4, by rw [List.length_append]; rfl, HR4, by show Own _ _ _ _; rw [List.length_append]; exact HO4.out, hk1, HMs, HB4, hsz4⟩
      case measure => rw [HR4.out.left_eq, HR.out.left_eq]; exact HLt.out
set_option maxRecDepth 100000 in
set_option maxHeartbeats 400000 in
/-- .. of no map. -/
theorem criticalNodes_nil (w : World) :
    Calls Tryz.prog 52 #[.map none] w fun e w' => e = .returned (.slice none 0 0) ∧ Below w.heap.size w w' := by
  have hr := run_range_nilMap (P := Tryz.prog) w 55 61 4 Tryz.underlying55
  have hn := fun ty => run_next_nilMap (P := Tryz.prog) w ty 0 0 #[]
  go_enter Tryz.func52, Tryz.ntmps52
  go_wp2
  refine wp_loop_rounds 1 ?_
  rw [rounds_succ]
  go_wp2_with fail
  refine (Tryz.slices_Sort_int_none none 0 _).mono ?_
  rintro e w1 ⟨rfl, rfl⟩
  go_wp2_with fail
  refine (Tryz.slices_Compact_int_empty none 0 _).mono ?_
  rintro e w2 ⟨rfl, rfl⟩
  go_wp2
  go_ret
  exact ⟨rfl, b_alloc _ _⟩
set_option maxRecDepth 100000 in
set_option maxHeartbeats 1000000 in
theorem criticalNodesX (a : Option Addr) (n cap : Nat) (R : List (List Int)) (w : World) (h : Mat w a n R) :
    Calls Tryz.prog 15 #[.slice a n cap] w (VRes (M.nodesRes R) w) := by
  have HA := Lib.hid h
  have hRn : R.length = n := h.1
  by_cases hc : M.crCode R = 0
  · obtain ⟨h1, h2⟩ := M.cr_code hc
    have H1 := Lib.hid h1
    have H2 := Lib.hid h2
    obtain ⟨-, n1, n2, -⟩ := sq_parts h h1
    have HE : Hid (M.nodesRes R = (M.nodesL R, 0)) := by show _ = _; unfold M.nodesRes; rw [if_pos hc]
    have HRn := Lib.hid hRn
    clear h hc h1 h2 hRn
    go_enter Tryz.func15, Tryz.ntmps15
    go_wp2_with fail
    refine (criticalArcs _ _ _ R _ HA.out H1.out H2.out).mono ?_
    rintro e w1 ⟨b1, m1, rfl, -, hm1, hI, hb⟩
    have HI := Lib.hid hI
    have HB := Lib.hid hb
    clear hI hb
    go_wp2_with fail
    refine (criticalNodes n m1 b1 _ _ HI.out n2 hm1).mono ?_
    rintro e w2 ⟨b2, c2, l, rfl, ho, ⟨ss, hl, hss⟩, hb⟩
    have hN : l = M.nodesL R := by rw [hl]; exact M.srt_nodes fun x => by rw [HRn.out]; exact hss x
    have HN := Lib.hid hN
    have HO := Lib.hid (ho.mono HB.out.size)
    have HB2 := Lib.hid (HB.out.trans (hb.mono HB.out.size))
    clear ho hb hl hss hN
    go_wp2
    go_ret2
    rw [HE.out]
    refine ⟨_, _, _, rfl, ?_, HB2.out⟩
    show Own _ _ _ (M.nodesL R)
    rw [← HN.out]
    exact HO.out
  · have HC := Lib.hid hc
    obtain ⟨k, hk⟩ : ∃ k, k = M.crCode R := ⟨_, rfl⟩
    have HE : Hid (M.nodesRes R = ([], k)) := by show _ = _; unfold M.nodesRes; rw [if_neg hc, hk]
    have HK := Lib.hid hk
    clear h hc hRn hk
    go_enter Tryz.func15, Tryz.ntmps15
    go_wp2_with fail
    refine (criticalArcs_no _ _ _ R _ HA.out HC.out).mono ?_
    rintro e w1 ⟨rfl, hb⟩
    rw [← HK.out]
    have HB := Lib.hid hb
    clear hb
    go_wp2_with fail
    refine (criticalNodes_nil _).mono ?_
    rintro e w2 ⟨rfl, hb⟩
    have HB2 := Lib.hid (HB.out.trans (hb.mono HB.out.size))
    clear hb
    go_wp2
    go_ret2
    exact VRes.nil HE.out HB2.out
end Go.Proofs.YthonlfjjgmmnpaaGreat.V

namespace Go.Proofs.YthonlfjjgmmnpaaGreat
namespace M
theorem kept_ids (L : List (List Int)) (p : List Int → Bool) (k : Nat) : kept (fun i => p (L.getD i [])) k = idsK L p k := rfl
theorem cut_crM {R : List (List Int)} {n : Nat} (hn : R.length = n) : mk n n (cutF (ent R) (crB R)) = crM R := by subst hn; rfl
theorem comps_one {A : Nat → Nat → Int} {n : Nat} (h : 1 ≤ n) : 1 ≤ (compsL A n).length := by
  obtain ⟨L, e, -⟩ := compsL_first (A := A) h
  rw [e]; simp
end M
namespace V
set_option maxRecDepth 100000
open Go.RowKit
set_option maxRecDepth 100000 in
set_option maxHeartbeats 1000000 in
theorem compDel (nb : Nat) (b3 : Option Addr) (N c3 : Nat) (ns : List Int) (ra : Option Addr) (m rc : Nat) (l : List Int) (t : Bool) (w : World) (hc : w.cell? ⟨nb, 0, none⟩ = some (.slice b3 N c3)) (hns : Ints .i64 w b3 N ns) (hl : Ints .i64 w ra m l) (hm : 1 ≤ m) (ht : M.hasB ns (l.getD 0 0) = t) :
    Calls Tryz.prog 120 #[.slice ra m rc, .pointer (some ⟨nb, 0, none⟩)] w fun e w' => e = .returned (.bool (!t)) ∧ ∃ q, w' = w.drewN q := by
  obtain ⟨q, qo, x0, hra, -, hx0, cx0⟩ := hl.at 0 (by omega)
  subst hra
  rw [Nat.add_zero] at cx0
  rw [← hx0] at ht
  have HC : Hid (∀ q, Calls Tryz.prog 67 #[.slice b3 N c3, .int .i64 x0] (w.drewN q) fun e w' => e = .returned (.bool t) ∧ (w.drewN q) = w') := fun q => containsI b3 N c3 ns x0 t _ (hns.below (b_draws _ _)) (by rw [← ht]; exact M.hasB_iff)
  have hm0 : (0 : Int) < (m : Int) := by omega
  clear hns hl hx0 ht
  go_enter Tryz.func120, Tryz.ntmps120
  go_wp2
  go_quiet ((go_at_call 67; exact q_one_s (HC.out _)))
  go_wp2
  go_ret
  exact ⟨rfl, _, rfl⟩
set_option maxRecDepth 100000 in
set_option maxHeartbeats 4000000 in
theorem criticalComponents (a : Option Addr) (n cap : Nat) (R : List (List Int)) (bm m : Nat) (w : World) (h : Mat w a n R) (hs : M.sqB R = true) (hI : IsArcs w bm n m (M.crB R)) (hm : m ≤ 100) :
    Calls Tryz.prog 73 #[.slice a n cap, .map (some bm)] w fun e w' => ∃ b mm c, e = .returned (.slice b mm c) ∧ OwnM w' w.heap.size (.slice b mm c) (M.crComps R) ∧ Below w.heap.size w w' := by
  have HA := Lib.hid h
  have HRn := Lib.hid h.1
  have HI := Lib.hid hI
  have hbl := hI.lt
  obtain ⟨hr, n1, n2, -⟩ := sq_parts h hs
  have HR := Lib.hid hr
  have HSm := Lib.hid (M.crM_sm hs h.1)
  have HRc : Hid (Rect (M.crM R) n n) := by show Rect _ _ _; rw [← h.1]; exact rect_mk _ _ _
  have HCut := Lib.hid (M.cut_crM h.1)
  clear h hs hr hI
  go_enter Tryz.func73, Tryz.ntmps73
  go_wp2_with fail
  refine (criticalNodes n m bm _ _ HI.out n2 hm).mono ?_
  rintro e w1 ⟨b1, c1, l, rfl, ho, ⟨ss, hl, hss⟩, hb⟩
  have hN : l = M.nodesL R := by rw [hl]; exact M.srt_nodes fun x => by rw [HRn.out]; exact hss x
  subst hN
  clear hl hss
  have HO1 := Lib.hid ho
  have HB1 := Lib.hid hb
  have hz1 := hb.size
  clear ho hb
  obtain ⟨wb, hwb⟩ : ∃ x, x = w1.alloc (.cells #[.slice b1 (M.nodesL R).length c1] 28) := ⟨_, rfl⟩
  have HX : Hid (wb.cell? ⟨w1.heap.size, 0, none⟩ = some (.slice b1 (M.nodesL R).length c1) ∧ wb.heap.size = w1.heap.size + 1 ∧ Below w1.heap.size w1 wb) := by
    show _ ∧ _
    rw [hwb]
    exact ⟨by simp [go_sem], by simp, b_alloc _ _⟩
  have HBb := Lib.hid (HB1.out.trans (HX.out.2.2.mono hz1))
  have hzb : w.heap.size ≤ wb.heap.size := HBb.out.size
  go_wp2_with fail
  rw [← hwb]
  clear hwb
  refine (criticalPart _ _ _ R bm m _ _ (HA.out.below HBb.out) HR.out n1 n2 (HI.out.below HBb.out hbl)).mono ?_
  rintro e w2 ⟨b2, c2, rfl, ho, hb⟩
  rw [HCut.out] at ho
  have HQ2 : Hid (Sq w2 b2 n (M.crM R)) := ⟨ho.mat, HRc.out, fun i j hi hj => M.sm_wide (HSm.out i j hi hj), n1, n2⟩
  have HB2 := Lib.hid hb
  have hz2 : wb.heap.size ≤ w2.heap.size := hb.size
  clear ho hb
  go_wp2_with fail
  refine (componentsOf _ _ _ (M.crM R) _ HQ2.out).mono ?_
  rintro e w3 ⟨b3, m3, c3, rfl, ho, hb⟩
  have hm3 := ho.len
  have hone := M.comps_one (A := M.ent (M.crM R)) n1
  have hln : (M.compsL (M.ent (M.crM R)) n).length ≤ n := M.compsP_len _ _ _
  have HRow := Lib.hid (fun k (hk : k < (M.compsL (M.ent (M.crM R)) n).length) => M.crRow HRn.out hk)
  have HEnd := Lib.hid (M.crComps_ids HRn.out)
  have HB3 := Lib.hid hb
  have hz3 : w2.heap.size ≤ w3.heap.size := hb.size
  obtain ⟨V, hV⟩ := ho
  have hcap : (M.compsL (M.ent (M.crM R)) n).length ≤ c3 := by
    obtain ⟨a', c', hv, hc, -⟩ := own_form hV.2.1
    injection hv with e1 e2 e3
    omega
  generalize M.compsL (M.ent (M.crM R)) n = L at *
  subst hm3
  obtain ⟨g, -, -, hg3, -⟩ := hV.cell 0 (by omega)
  subst hg3
  have hgB := own_lt hV.2.1 (k := g) rfl
  have HV := Lib.hid hV
  have HNd : Hid (Own w3 w.heap.size (.slice b1 (M.nodesL R).length c1) (M.nodesL R)) := by
    show Own _ _ _ _
    exact ((HO1.out.below HX.out.2.2).below (HB2.out)).below (HB3.out)
  have hcell3 : w3.cell? ⟨w1.heap.size, 0, none⟩ = some (.slice b1 (M.nodesL R).length c1) := by
    have hx2 := HX.out.2.1
    rw [HB3.out.cell (p := ⟨w1.heap.size, 0, none⟩) (by show w1.heap.size < _; omega), HB2.out.cell (p := ⟨w1.heap.size, 0, none⟩) (by show w1.heap.size < _; omega)]
    exact HX.out.1
  have HD := Lib.hid (deleteF w2.heap.size g L.length c3 (.pointer (some ⟨w1.heap.size, 0, none⟩)) V (fun i => M.crPick R (L.getD i [])) w3 (by omega) hV.2.1 hcap (fun k hk => by
      obtain ⟨g', ra, rc, -, hv, -⟩ := hV.cell k hk
      exact ⟨ra, _, rc, hv⟩) (fun W k hk hc => by
      obtain ⟨g', ra, rc, -, hv, -⟩ := hV.cell k hk
      have hro : Own W w2.heap.size (.slice ra (L.getD k []).length rc) (L.getD k []) := by
        rw [← hv]
        exact (hV.2.2.1 k hk).chg hc fun kk e1 e2 => hV.2.2.2.1 k hk kk e1 (by rw [e2]; rfl)
      have hno : Own W w.heap.size (.slice b1 (M.nodesL R).length c1) (M.nodesL R) := HNd.out.chg hc fun kk e1 e2 => by
        have h1 := own_lt HO1.out e1
        have hx2 := HX.out.2.1
        have e3 : kk = g := e2
        omega
      rw [hv]
      obtain ⟨r1, r2⟩ := HRow.out k hk
      refine compDel w1.heap.size b1 _ c1 (M.nodesL R) ra _ rc (L.getD k []) _ W ?_ hno.ints' hro.ints' r1 r2
      rw [← hcell3]
      have hx2 := HX.out.2.1
      exact World.cell?_of_block (hc.other w1.heap.size (by omega))))
  clear hV hcell3
  have hb3 : Below wb.heap.size wb w3 := HB2.out.trans (HB3.out.mono hz2)
  have HBz := Lib.hid (HBb.out.trans (hb3.mono hzb))
  clear hb3
  go_wp2_with fail
  refine (HD.out).mono ?_
  rintro e w4 ⟨rfl, ho, hc⟩
  rw [M.kept_ids] at ho ⊢
  have HP : Hid (OwnM w4 w.heap.size (.slice (some ⟨g, 0, none⟩) (M.idsK L (M.crPick R) L.length).length c3) (M.crComps R)) := by
    show OwnM _ _ _ _
    rw [← HEnd.out]
    refine OwnM.mono (B := w2.heap.size) ⟨_, OwnV.pick HV.out _ (M.idsK_up _ _ _) (fun i hi => M.idsK_lt hi) ho fun i kk hi e => ?_⟩ (by omega)
    have hlt := own_lt (HV.out.2.2.1 i hi) e
    have hne := HV.out.2.2.2.1 i hi kk e
    exact ⟨hc.other kk fun e2 => hne (by rw [e2]; rfl), hlt.1, hne⟩
  have HB4 := Lib.hid (HBz.out.trans (hc.below (B := w.heap.size) fun k hk => by have e3 : k = g := hk; omega))
  clear ho hc
  generalize (M.idsK L (M.crPick R) L.length).length = mm at *
  go_wp2
  go_ret
  exact ⟨_, _, _, rfl, HP.out, HB4.out⟩
set_option maxRecDepth 100000 in
set_option maxHeartbeats 1000000 in
theorem criticalComponentsX (a : Option Addr) (n cap : Nat) (R : List (List Int)) (w : World) (h : Mat w a n R) :
    Calls Tryz.prog 31 #[.slice a n cap] w (MRes (M.compRes R) w) := by
  have HA := Lib.hid h
  by_cases hc : M.crCode R = 0
  · obtain ⟨h1, h2⟩ := M.cr_code hc
    have H1 := Lib.hid h1
    have H2 := Lib.hid h2
    have HE : Hid (M.compRes R = (M.crComps R, 0)) := by show _ = _; unfold M.compRes; rw [if_pos hc]
    clear h hc h1 h2
    go_enter Tryz.func31, Tryz.ntmps31
    go_wp2_with fail
    refine (criticalArcs _ _ _ R _ HA.out H1.out H2.out).mono ?_
    rintro e w1 ⟨b1, m1, rfl, -, hm1, hI, hb⟩
    have HI := Lib.hid hI
    have HB := Lib.hid hb
    clear hI hb
    go_wp2_with fail
    refine (criticalComponents _ _ _ R _ _ _ (HA.out.below HB.out) H1.out HI.out hm1).mono ?_
    rintro e w2 ⟨b2, m2, c2, rfl, ho, hb⟩
    have HO := Lib.hid (ho.mono HB.out.size)
    have HB2 := Lib.hid (HB.out.trans (hb.mono HB.out.size))
    clear ho hb
    go_wp2
    go_ret2
    rw [HE.out]
    exact ⟨_, _, _, rfl, HO.out, HB2.out⟩
  · have HC := Lib.hid hc
    obtain ⟨k, hk⟩ : ∃ k, k = M.crCode R := ⟨_, rfl⟩
    have HE : Hid (M.compRes R = ([], k)) := by show _ = _; unfold M.compRes; rw [if_neg hc, hk]
    have HK := Lib.hid hk
    have hk0 : (k != 0) = true := by rw [hk]; simpa using hc
    clear h hc hk
    go_enter Tryz.func31, Tryz.ntmps31
    go_wp2_with fail
    refine (criticalArcs_no _ _ _ R _ HA.out HC.out).mono ?_
    rintro e w1 ⟨rfl, hb⟩
    rw [← HK.out]
    have HB := Lib.hid hb
    clear hb
    go_wp2
    go_ret2
    exact MRes.nil HE.out HB.out
end V
end Go.Proofs.YthonlfjjgmmnpaaGreat

namespace Go.Proofs.YthonlfjjgmmnpaaGreat.V
open Go.RowKit

set_option maxRecDepth 100000 in
set_option maxHeartbeats 1000000 in
theorem mul64 (n : Nat) (w : World) (h1 : 1 ≤ n) (h2 : n ≤ 10) : Calls Tryz.prog 209 #[.int .u64 1, .int .u64 n] w fun e w' => e = .returned (.tuple #[.int .u64 0, .int .u64 n]) ∧ w = w' := by
  have hn : n = 1 ∨ n = 2 ∨ n = 3 ∨ n = 4 ∨ n = 5 ∨ n = 6 ∨ n = 7 ∨ n = 8 ∨ n = 9 ∨ n = 10 := by omega
  clear h1 h2
  rcases hn with rfl | rfl | rfl | rfl | rfl | rfl | rfl | rfl | rfl | rfl
  all_goals
    go_enter Tryz.func209, Tryz.ntmps209
    go_wp2
    go_ret2
    exact ⟨rfl, rfl⟩

set_option maxRecDepth 100000 in
set_option maxHeartbeats 1000000 in
theorem mulU (n : Nat) (w : World) (h1 : 1 ≤ n) (h2 : n ≤ 10) : Calls Tryz.prog 204 #[.int .u64 1, .int .u64 n] w fun e w' => e = .returned (.tuple #[.int .u64 0, .int .u64 n]) ∧ w = w' := by
  go_enter Tryz.func204, Tryz.ntmps204
  go_wp2_with (first | (go_at_call 209; refine (mul64 _ _ h1 h2).mono ?_; rintro e w' ⟨rfl, rfl⟩))
  go_ret2
  exact ⟨rfl, rfl⟩

/-- A row of n integers of which the first k are x. -/
def repL (x : Int) (k n : Nat) : List Value := List.replicate k (.int .i64 x) ++ List.replicate (n - k) (.int .i64 0)
theorem repL_splice (x : Int) (k n m : Nat) (hk : k ≤ n) (hm : k + m ≤ n) : splice (repL x k n) k (List.replicate m (.int .i64 x)) = repL x (k + m) n := by
  unfold splice repL
  rw [List.take_left' (by simp), List.drop_append, List.length_replicate, List.length_replicate]
  have e1 : List.drop (k + m) (List.replicate k (Value.int IntKind.i64 x)) = [] := by simp
  rw [e1, List.nil_append, List.drop_replicate, ← List.append_assoc, List.replicate_append_replicate]
  congr 2
  omega
theorem repL_made (x : Int) (n : Nat) : (madeCells #[.int .i64 0] n) = (repL x 0 n).toArray := by
  apply Array.ext'
  rw [toList_madeCells_one]
  simp [repL]
theorem own_repL (w : World) (B g n : Nat) (x : Int) (hg : w.heap[g]? = some (.cells (repL x n n).toArray 2 (0, 0))) (hB : B ≤ g) (hn : n ≤ maxLen) : Own w B (.slice (some ⟨g, 0, none⟩) n n) ((List.range n).map fun _ => x) := by
  refine ⟨by simp, .inr ⟨g, n, _, by simp, hB, hg, by simp, hn, by simp [repL], ?_⟩⟩
  simp [repL]
  apply List.ext_getElem
  · simp
  · intro i h1 h2; simp

theorem one_cell {w : World} {a : Addr} {u : Value} (h : w.cell? a = some u) : ∀ j v, [u][j]? = some v → w.cell? (a.add j) = some v := by
  intro j v hj
  match j, hj with
  | 0, hj =>
    simp at hj
    subst hj
    simpa [Addr.add] using h
theorem one_one {x : Int} : ∀ v ∈ [Value.int IntKind.i64 x], v.oneCell' = true := by
  intro v hv; simp at hv; subst hv; rfl

theorem one_lit (w : World) (x : Int) : (w.alloc (.cells #[.int .i64 x] 2)).cell? ⟨w.heap.size, 0, none⟩ = some (.int .i64 x) := cell_one_new w (.int .i64 x) _ 0 _ rfl
theorem rep_one {x : Int} {m : Nat} : ∀ v ∈ List.replicate m (Value.int IntKind.i64 x), v.oneCell' = true := by
  intro v hv; rw [List.mem_replicate] at hv; rw [hv.2]; rfl
theorem rep_cells {w : World} {g k n m : Nat} {x : Int} {T : TypeId} (h : w.heap[g]? = some (.cells (repL x k n).toArray T (0, 0))) (hk : k ≤ n) (hm : m ≤ k) : ∀ j v, (List.replicate m (Value.int IntKind.i64 x))[j]? = some v → w.cell? ((⟨g, 0, none⟩ : Addr).add j) = some v := by
  intro j v hj
  rw [List.getElem?_replicate] at hj
  split at hj
  · next hlt =>
    injection hj with hj
    subst hj
    have e : (⟨g, 0, none⟩ : Addr).add j = ⟨g, j, none⟩ := by cases j <;> simp [Addr.add]
    rw [e]
    simp only [World.cell?, h]
    simp [repL, List.getElem?_append, show j < k by omega]
  · cases hj

set_option maxRecDepth 100000 in
set_option maxHeartbeats 1000000 in
theorem repeat1 (g n cap : Nat) (x : Int) (w : World) (h1 : 1 ≤ n) (h2 : n ≤ 10) (hc : w.cell? ⟨g, 0, none⟩ = some (.int .i64 x)) (hg : g < w.heap.size) :
    Calls Tryz.prog 191 #[.slice (some ⟨g, 0, none⟩) 1 cap, .int .i64 n] w fun e w' => e = .returned (.slice (some ⟨w.heap.size, 0, none⟩) n n) ∧ Own w' w.heap.size (.slice (some ⟨w.heap.size, 0, none⟩) n n) ((List.range n).map fun _ => x) ∧ Below w.heap.size w w' := by
  have hmk := run_make_row' (P := Tryz.prog) 28 2 (.int .i64 0) 8 Tryz.underlying28 info64 rfl .i64 .i64 n (by omega) (by omega)
  have HC := Lib.hid hc
  have hsz : (Tryz.prog.info? 2).map (·.size) = some 1 := by kernel_rfl
  have HS := Lib.hid hsz
  clear hc hsz
  go_enter Tryz.func191, Tryz.ntmps191
  go_wp2_with fail
  refine (mulU n _ h1 h2).mono ?_
  rintro e w' ⟨rfl, rfl⟩
  have hW1 : Hid ((w.alloc (.cells (madeCells #[.int .i64 0] n) 2)).heap[w.heap.size]? = some (.cells (repL x 0 n).toArray 2 (0, 0))) := by
    show _ = _
    rw [repL_made x n]
    show (w.heap.push _)[w.heap.size]? = _
    simp
  have hcell : Hid ((w.alloc (.cells (madeCells #[.int .i64 0] n) 2)).cell? ⟨g, 0, none⟩ = some (.int .i64 x)) := by
    show _ = _
    rw [(b_alloc w _).cell (p := ⟨g, 0, none⟩) hg]; exact HC.out
  go_wp2_with (with_reducible refine wpList_copy_splice rfl (.tmp 31) (.tmp 32) 28 28 rfl 2 Tryz.underlying28 HS.out (some ⟨w.heap.size, 0, none⟩) (some ⟨g, 0, none⟩) n n 1 cap rfl rfl w.heap.size 0 (repL x 0 n) 2 hW1.out [.int .i64 x] ?hn ?hpos ?hfit ?hone w.heap.size w (b_alloc w _) (Nat.le_refl _) ?_)
  case hn => exact (Nat.min_eq_left h1).symm
  case hpos =>
    intro j v hj
    match j, hj with
    | 0, hj =>
      simp at hj
      subst hj
      exact HC.out
  case hfit => simp [repL]; omega
  case hone => exact one_one
  intro w1 hg1 hb1
  have HG1 : Hid (w1.heap[w.heap.size]? = some (.cells (repL x 1 n).toArray 2 (0, 0))) := by
    have := hg1.out
    rw [show [Value.int .i64 x] = List.replicate 1 (.int .i64 x) from rfl, repL_splice x 0 n 1 (by omega) (by omega)] at this
    exact this
  have HB1 := Lib.hid hb1
  clear hg1 hb1 hW1 hcell
  go_wp2
  go_loopw [8] (fun i wr => ∃ k : Nat, 1 ≤ k ∧ k ≤ n ∧ i = .int .i64 k ∧ Hid (wr.heap[w.heap.size]? = some (.cells (repL x k n).toArray 2 (0, 0))) ∧ Below w.heap.size w wr) (fun i _ => n - (intOf i).toNat)
  case atStart => exact ⟨1, Nat.le_refl _, h1, rfl, HG1, HB1.out⟩
  case round =>
    obtain ⟨k, hk1, hk, rfl, HG, hb⟩ := hrel
    have HB := Lib.hid hb
    clear hb
    by_cases hlt : k < n
    · have hne : ¬ n = k := by omega
      have hki : (k : Int) < (n : Int) := by omega
      have hkn : k ≤ n := by omega
      go_wp2
      obtain ⟨m, hm⟩ : ∃ m, m = min k (n - k) := ⟨_, rfl⟩
      have hm1 : 1 ≤ m := by omega
      have hm2 : m ≤ k := by omega
      have hm3 : k + m ≤ n := by omega
      have HM := Lib.hid (rep_cells (x := x) HG.out hkn hm2)
      have HMm := Lib.hid hm
      have HN := Lib.hid (repL_splice x k n m hkn hm3)
      clear hm
      have hw : IntKind.i64.wrap ((k : Int) + (m : Int)) = (k : Int) + (m : Int) := IntWalk.i64_in _ (by omega)
      go_region_law (refine step_copy_splice rfl (.tmp 41) (.tmp 44) 28 28 rfl 2 Tryz.underlying28 HS.out (some ⟨w.heap.size, k, none⟩) (some ⟨w.heap.size, 0, none⟩) (n - k) (n - k) k n (by go_simp) (by go_simp) w.heap.size k (repL x k n) 2 HG.out (List.replicate m (.int .i64 x)) (by rw [List.length_replicate]; exact HMm.out) (fun _ => ⟨rfl, _, rfl, HM.out⟩) (by simp [repL]; omega) rep_one w.heap.size w HB.out.drew (Nat.le_refl _) ?_; intro w4 hg4 hb4)
      have HG4 : Hid (w4.heap[w.heap.size]? = some (.cells (repL x (k + m) n).toArray 2 (0, 0))) := by
        have := hg4.out
        rw [HN.out] at this
        exact this
      have HB4 := Lib.hid hb4
      clear hg4 hb4 hw
      go_simp
      go_wp2
      go_roundw
      case rel => exact ⟨k + m, by omega, by omega, vi (by omega), HG4, HB4.out⟩
      case measure => simp [intOf]; omega
    · obtain rfl : k = n := by omega
      go_wp2
      go_ret
      exact ⟨rfl, own_repL _ _ _ _ _ HG.out (Nat.le_refl _) (by unfold maxLen; omega), HB.out⟩
end Go.Proofs.YthonlfjjgmmnpaaGreat.V

namespace Go.Proofs.YthonlfjjgmmnpaaGreat.V
open Go.RowKit

set_option maxRecDepth 100000 in
set_option maxHeartbeats 1000000 in
theorem filled (m n : Nat) (x : Int) (w : World) (m1 : 1 ≤ m) (hm : m ≤ 10) (n1 : 1 ≤ n) (hn : n ≤ 10) :
    Calls Tryz.prog 156 #[.int .i64 m, .int .i64 n, .int .i64 x] w (MPost m (M.mk m n fun _ _ => x) w) := by
  have hmk := run_make_row' (P := Tryz.prog) 24 28 (.slice none 0 0) 24 Tryz.underlying24 infoS64 rfl .i64 .i64 m (by omega) (by omega)
  have hO0 : Hid (OwnM (w.alloc (.cells (madeCells #[.slice none 0 0] m) 28)) w.heap.size (.slice (some ⟨w.heap.size, 0, none⟩) m m) (List.replicate m [])) := ownM_made w _ m (Nat.le_refl _) (by unfold maxLen; omega)
  go_enter Tryz.func156, Tryz.ntmps156
  go_wp2
  clear hmk
  go_loopw [8, 13] (fun _ i wr => ∃ k : Nat, k ≤ m ∧ i = .int .i64 k ∧ OwnM wr w.heap.size (.slice (some ⟨w.heap.size, 0, none⟩) m m) ((List.range m).map fun j => if j < k then (List.range n).map (fun _ => x) else []) ∧ Below w.heap.size w wr) (fun _ i _ => m - (intOf i).toNat)
  case atStart =>
    refine ⟨0, Nat.zero_le _, rfl, (congrArg (OwnM _ _ _) ?_).mp hO0.out, b_alloc _ _⟩
    apply List.ext_getElem
    · simp
    · intro i h1 h2; simp
  case round =>
    obtain ⟨k, hk, rfl, hO, hb⟩ := hrel
    have HO := Lib.hid hO
    have HB := Lib.hid hb
    clear hO hb hO0
    by_cases hlt : k < m
    · have hki : (k : Int) < (m : Int) := by omega
      have hg := HO.out.lt rfl
      have hlit := one_lit wr x
      go_wp2_with fail
      refine (repeat1 wr.heap.size n 1 x _ n1 hn hlit (by simp)).mono ?_
      rintro e w1 ⟨rfl, ho1, hb1⟩
      have hb1' : Below wr.heap.size wr w1 := (b_alloc wr _).trans (hb1.mono (by simp))
      rw [show (wr.alloc (.cells #[.int .i64 x] 2)).heap.size = wr.heap.size + 1 by simp] at ho1
      have ho1' := ho1.mono (Nat.le_succ _)
      have hst : ∃ v, w1.cell? ⟨w.heap.size, k, none⟩ = some v := by
        obtain ⟨v, hv⟩ := HO.out.outer k hlt
        exact ⟨v, by rw [hb1'.cell (p := ⟨w.heap.size, k, none⟩) hg]; exact hv⟩
      obtain ⟨v, hst⟩ := hst
      have hfz : w1.frozen? ⟨w.heap.size, k, none⟩ = false := by rw [hb1'.frozen (p := ⟨w.heap.size, k, none⟩) hg]; exact HO.out.outerFz k
      have HN := Lib.hid (HO.out.setRow hb1' HB.out.size ho1' k hlt)
      have HB1 := Lib.hid (bnext HB.out hb1')
      clear ho1 hb1 hg hlit hb1' ho1'
      go_wp2
      go_roundw
      case rel =>
        refine ⟨k + 1, by omega, by go_num, ?_, HB1.out.setCell (Nat.le_refl _) _⟩
        refine (congrArg (OwnM _ _ _) ?_).mp HN.out
        apply List.ext_getElem
        · simp
        · intro j h1 h2
          simp only [List.length_map, List.length_range] at h2
          rw [List.getElem_set]
          simp only [List.getElem_map, List.getElem_range]
          by_cases e : k = j
          · subst e; rw [if_pos rfl, if_pos (by omega)]
          · rw [if_neg e]
            by_cases e2 : j < k
            · rw [if_pos e2, if_pos (by omega)]
            · rw [if_neg e2, if_neg (by omega)]
      case measure => simp [intOf]; omega
    · have hkn : k = m := by omega
      subst hkn
      go_wp2
      go_ret
      refine ⟨_, _, rfl, (congrArg (OwnM _ _ _) ?_).mp HO.out, HB.out⟩
      unfold M.mk
      exact List.map_congr_left fun j hj => by rw [if_pos (List.mem_range.1 hj)]

end Go.Proofs.YthonlfjjgmmnpaaGreat.V
