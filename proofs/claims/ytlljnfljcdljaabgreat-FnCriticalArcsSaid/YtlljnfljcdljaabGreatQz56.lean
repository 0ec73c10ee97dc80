/- Texts laid together: Nds. -/
import Derived.Test.YtlljnfljcdljaabGreatQz14
import Derived.Test.YtlljnfljcdljaabGreatQz20
import Derived.Test.YtlljnfljcdljaabGreatQz55
import Derived.Sort.OwnSortedInts
import Derived.Laws.IdiomRangeMap
set_option linter.unusedSimpArgs false
set_option linter.unusedVariables false
set_option linter.unusedSectionVars false
namespace Go.Proofs.YtlljnfljcdljaabGreat.V
set_option maxRecDepth 100000
open Go.RowKit Go.Maps Go.Sort
theorem putRow_grow0 (w : World) (g off q : Nat) (d : Array Int) : putRow (Value.int .i64) (Sort.ahead w q) g off d = Sort.grow (putRow (Value.int .i64) (Sort.ahead w q) g off d) #[] := by
  unfold Sort.grow putRow mapBlock Sort.ahead
  simp
set_option maxRecDepth 100000 in
set_option maxHeartbeats 400000 in
theorem sortInts (B : Nat) (b : Option Addr) (c : Nat) (l : List Int) (w : World) (h : Own w B (.slice b l.length c) l) (hl : l.length ≤ 1000) :
    Calls Tryz.prog 67 #[.slice b l.length c] w fun e w' => e = .returned (.tuple #[]) ∧ Own w' B (.slice b l.length c) (l.mergeSort fun x y => decide (x ≤ y)) ∧ w.grownBy w' (Value.slice b l.length c).ownBlock := by
  by_cases h0 : l.length = 0
  · obtain rfl : l = [] := List.eq_nil_of_length_eq_zero h0
    refine (Tryz.slices_Sort_int_none b c w).mono ?_
    rintro e w' ⟨rfl, rfl⟩
    exact ⟨rfl, by simpa using h, ⟨rfl, rfl, rfl, Nat.le_refl _, fun _ _ _ => rfl⟩⟩
  · rcases h.2 with ⟨-, hn⟩ | ⟨g, cap, cur, hv, hbase, hb, h1, h2, h3, h4⟩
    · exact absurd hn h0
    · injection hv with e1 e2 e3
      subst e1 e3
      rw [Nat.mul_one] at h4
      refine (Tryz.slices_Sort_int g 0 c l w (holds_of_blockI hb h4) (Array.getElem?_eq_some_iff.1 hb).1 (by omega)).mono ?_
      rintro e w' ⟨rfl, nn, os, rfl⟩
      have hlen : (l.mergeSort fun x y => decide (x ≤ y)).length = l.length := by simp
      refine ⟨rfl, ?_, grownBy_sortedI _⟩
      show World.ownsRow _ _ _ _ _ (List.mergeSort _ _).length _
      rw [hlen]
      exact ownsRow_sortedI hlen hbase hb h1 h2 h3
set_option maxRecDepth 100000 in
set_option maxHeartbeats 400000 in
theorem compactInts (B : Nat) (b : Option Addr) (c : Nat) (l : List Int) (w : World) (h : Own w B (.slice b l.length c) l) (hl : l.length ≤ 1000) :
    Calls Tryz.prog 68 #[.slice b l.length c] w fun e w' => e = .returned (.slice b (Lib.compact l).length c) ∧ Own w' B (.slice b (Lib.compact l).length c) (Lib.compact l) ∧ w.grownBy w' (Value.slice b l.length c).ownBlock := by
  by_cases h0 : l.length = 0
  · obtain rfl : l = [] := List.eq_nil_of_length_eq_zero h0
    refine (Tryz.slices_Compact_int_empty b c w).mono ?_
    rintro e w' ⟨rfl, rfl⟩
    have e0 : Lib.compact ([] : List Int) = [] := by simp [Lib.compact, Lib.compactUpTo]
    rw [e0]
    exact ⟨rfl, h, ⟨rfl, rfl, rfl, Nat.le_refl _, fun _ _ _ => rfl⟩⟩
  · rcases h.2 with ⟨-, hn⟩ | ⟨g, cap, cur, hv, hbase, hb, h1, h2, h3, h4⟩
    · exact absurd hn h0
    · injection hv with e1 e2 e3
      subst e1 e3
      rw [Nat.mul_one] at h4
      have hcl := Lib.compact_length_le l
      refine (Tryz.slices_Compact_int g 0 c l w (holds_of_blockI hb h4) (by omega) h1).mono ?_
      rintro e w' ⟨rfl, q, rfl⟩
      have hlen : (Lib.compact l ++ List.replicate (l.length - (Lib.compact l).length) 0).length = l.length := by simp; omega
      refine ⟨rfl, ?_, ?_⟩
      · rw [putRow_grow0]
        have ho := ownsRow_sortedI (w := w) (n := q) (os := #[]) (ss := l) (ts := Lib.compact l ++ List.replicate (l.length - (Lib.compact l).length) 0) hlen hbase hb h1 h2 h3
        rcases ho.2 with ⟨he, -⟩ | ⟨g', cap', cur', hv', hb1, hb2, hb3, hb4, hb5, hb6⟩
        · cases he
        · injection hv' with e1 e2 e3
          injection e1 with e1
          injection e1 with e1
          subst e1 e3
          refine ⟨by simp, .inr ⟨g, c, cur', rfl, hb1, hb2, by omega, hb4, hb5, ?_⟩⟩
          have hk := congrArg (List.take (Lib.compact l).length) hb6
          have hz : List.take (Lib.compact l).length (List.map (Value.int .i64) (Lib.compact l)) = List.map (Value.int .i64) (Lib.compact l) := List.take_of_length_le (by simp)
          rw [List.take_take, Nat.min_eq_left (by omega), List.map_append, List.take_append_of_le_length (by simp), hz] at hk
          rw [Nat.mul_one]
          exact hk
      · rw [putRow_grow0]; exact grownBy_sortedI _
theorem append1A (w : World) {ops : Array Oper} {rest : List Oper} {o : Oper} {a : Act} {Q : Exit → Act → World → Prop} (hgd : o.guard = none) (s x : Operand)
    (ho : o.op = .call { callee := .builtin .append, args := #[s, x], argTypes := #[32, 32] }) (B : Nat) (v : Value) (l : List Int) (y : Int) (n : Nat) (hn : l.length = n) (hs : a.eval s = v) (hown : Own w B v l)
    {A : Nat} (hx : a.eval x = .slice (some ⟨A, 0, none⟩) 1 1) (hA : A = w.heap.size) (hlen : l.length ≤ 2000000) (hB : B ≤ w.heap.size)
    (h : ∀ b' c' w', Own w' B (.slice b' (n + 1) c') (l ++ [y]) → Below B w w' → wpList Tryz.prog ops Q rest (a.put o.dst (.slice b' (n + 1) c')) w') :
    wpList Tryz.prog ops Q (o :: rest) a (w.alloc (.cells #[.int .i64 y] 2)) :=
  append1 w hgd s x ho B v l y n hn hs hown (by rw [hx, hA]) hlen hB fun b' c' w' h1 h2 _ => h b' c' w' h1 h2
set_option maxRecDepth 100000 in
set_option maxHeartbeats 4000000 in
theorem criticalNodes (n m b : Nat) (S : Nat → Nat → Bool) (w : World) (hI : IsArcs w b n m S) (n2 : n ≤ 10) (hm : m ≤ 100) :
    Calls Tryz.prog 38 #[.map (some b)] w fun e w' => ∃ (bb : Option Addr) (c : Nat) (l : List Int), e = .returned (.slice bb l.length c) ∧ Own w' w.heap.size (.slice bb l.length c) l ∧ (∃ ss : List Int, l = Lib.compact (ss.mergeSort fun x y => decide (x ≤ y)) ∧ ∀ x, x ∈ ss ↔ ∃ f t : Nat, f < n ∧ t < n ∧ S f t = true ∧ x = f) ∧ Below w.heap.size w w' := by
  have HI := Lib.hid hI
  have hbl := hI.lt
  clear hI
  go_enter Tryz.func38, Tryz.ntmps38
  go_wp2_with (first | (at_range; refine wpList_rangeA _ rfl _ rfl b n m S rfl HI.out ?_; intro w0 cnt hr hcm hg hz))
  go_frame
  have HR0 := Lib.hid hr
  have HG0 := Lib.hid hg
  have HZ0 := Lib.hid hz
  have HB0 : Hid (Below w.heap.size w w0) := (Below.refl _ _).grown hg (Nat.le_refl _) (fun j hj => by cases hj)
  clear hr hg hz
  go_loopw [3, 4] (fun sv _ wr => ∃ (L : Nat → Nat → Bool) (ss : List Int) (k : Nat) (bb : Option Addr) (c : Nat), sv = .slice bb ss.length c ∧ Hid (RngA wr b w.heap.size n m S L k) ∧ Hid (Own wr (w.heap.size + 1) (.slice bb ss.length c) ss) ∧ ss.length + k ≤ 100 ∧ Hid (∀ x, x ∈ ss ↔ ∃ f t : Nat, f < n ∧ t < n ∧ S f t = true ∧ L f t = false ∧ x = f) ∧ Hid (Below w.heap.size w wr) ∧ w.heap.size + 1 ≤ wr.heap.size) (fun _ _ wr => wr.rangeLeft b w.heap.size)
  case atStart =>
    exact ⟨S, [], cnt, none, 0, rfl, HR0, own_nil _ _, by simp; omega, fun x => ⟨fun h => by simp at h, fun ⟨f, t, _, _, h1, h2, _⟩ => by rw [h1] at h2; cases h2⟩, HB0, by rw [HZ0.out]; exact Nat.le_refl _⟩
  case round =>
    obtain ⟨L, ss, k, bb, c, rfl, HR, HO, hk, HM, HB, hsz⟩ := hrel
    clear HR0 HG0 HB0
    go_wp2_with (first | (at_next; refine wpList_nextA _ rfl _ rfl b _ n m S L k n2 rfl HR.out ?_ ?_))
    · intro hl0
      have HMs : Hid (∀ x, x ∈ ss ↔ ∃ f t : Nat, f < n ∧ t < n ∧ S f t = true ∧ x = f) := fun x => (HM.out x).trans ⟨fun ⟨f, t, h1, h2, h3, _, h5⟩ => ⟨f, t, h1, h2, h3, h5⟩, fun ⟨f, t, h1, h2, h3, h5⟩ => ⟨f, t, h1, h2, h3, hl0 f t h1 h2, h5⟩⟩
      have HOb : Hid (∀ j, (Value.slice bb ss.length c).ownBlock = some j → w.heap.size ≤ j) := fun j hj => by have := (own_lt HO.out hj).1; omega
      clear hl0
      go_wp2_with fail
      refine (sortInts (w.heap.size + 1) bb c ss _ HO.out (by omega)).mono ?_
      rintro e w1 ⟨rfl, ho, hg1⟩
      have hlen : (ss.mergeSort fun x y => decide (x ≤ y)).length = ss.length := by simp
      have HB1 := Lib.hid (HB.out.grown hg1 (by omega) (fun j hj => HOb.out j hj))
      have hz1 : w.heap.size ≤ w1.heap.size := HB1.out.size
      have hcc := compactInts (w.heap.size + 1) bb c (ss.mergeSort fun x y => decide (x ≤ y)) w1 (by rw [hlen]; exact ho) (by rw [hlen]; omega)
      rw [hlen] at hcc
      have HCC := Lib.hid hcc
      clear hcc hlen ho hg1
      go_wp2_with fail
      refine HCC.out.mono ?_
      rintro e w2 ⟨rfl, ho2, hg2⟩
      have HO2 := Lib.hid (ho2.mono (B' := w.heap.size) (by omega))
      have HB2 := Lib.hid (HB1.out.grown hg2 hz1 (fun j hj => HOb.out j hj))
      clear ho2 hg2
      go_wp2
      go_ret
      exact ⟨bb, c, _, rfl, HO2.out, ⟨ss, rfl, HMs.out⟩, HB2.out⟩
    · intro f t w1 k1 hf ht hl hs hr1 hlt hg1 hs1 hen
      have HR1 := Lib.hid hr1
      have HOb : Hid (Own (w1.alloc (.cells #[.int .i64 (f : Int), .int .i64 (t : Int)] 51)) (w.heap.size + 1) (.slice bb ss.length c) ss) := by
        show Own _ _ _ _
        refine (HO.out.keep (w' := w1) fun j h1 h2 => hg1.block j h2 (by intro e; injection e with e; omega)).below (b_alloc _ _)
      have HB1 := Lib.hid (HB.out.grown hg1 (by omega) (fun j hj => by cases hj; exact Nat.le_refl _))
      have HLt := Lib.hid hlt
      have HMs : Hid (∀ x, x ∈ ss ++ [(f : Int)] ↔ ∃ f' t' : Nat, f' < n ∧ t' < n ∧ S f' t' = true ∧ strike L f t f' t' = false ∧ x = f') := fun x => by
        rw [List.mem_append, HM.out x, List.mem_singleton]
        constructor
        · rintro (⟨f', t', h1, h2, h3, h4, h5⟩ | rfl)
          · exact ⟨f', t', h1, h2, h3, by unfold strike; rw [h4]; rfl, h5⟩
          · exact ⟨f, t, hf, ht, hs, by unfold strike; simp, rfl⟩
        · rintro ⟨f', t', h1, h2, h3, h4, h5⟩
          unfold strike at h4
          by_cases hq : f' = f ∧ t' = t
          · right; rw [h5, hq.1]
          · left
            refine ⟨f', t', h1, h2, h3, ?_, h5⟩
            have : (decide (f' = f) && decide (t' = t)) = false := by
              by_cases p1 : f' = f
              · by_cases p2 : t' = t
                · exact absurd ⟨p1, p2⟩ hq
                · simp [p2]
              · simp [p1]
            rw [this] at h4
            simpa using h4
      have HS1 := Lib.hid hs1
      have hszA : w.heap.size + 1 ≤ (w1.alloc (.cells #[.int .i64 (f : Int), .int .i64 (t : Int)] 51)).heap.size := by simp; omega
      have HSzA := Lib.hid hszA
      clear hr1 hg1 hs1 hl hs hlt hszA
      go_wp2_with (at_builtin; refine append1A _ rfl (.tmp 11) (.tmp 14) rfl (w.heap.size + 1) _ ss (f : Int) _ rfl rfl HOb.out rfl (by simp) (by omega) HSzA.out ?_)
      intro b4 c4 w4 hO4 hb4
      have HO4 := Lib.hid hO4
      have hb5 : Below (w.heap.size + 1) w1 w4 := ((b_alloc w1 (.cells #[.int .i64 (f : Int), .int .i64 (t : Int)] 51)).mono (by have := HS1.out; omega)).trans hb4
      have HR4 := Lib.hid (HR1.out.blocks (hb5.block b (by omega)) (hb5.block w.heap.size (by omega)))
      have HB4 := Lib.hid (HB1.out.trans (hb5.mono (by omega)))
      have hsz4 : w.heap.size + 1 ≤ w4.heap.size := by have := hb5.size; have := HS1.out; omega
      have hk1 : (ss ++ [(f : Int)]).length + k1 ≤ 100 := by rw [List.length_append]; have := HLt.out; simp; omega
      clear hO4 hb4 hb5 hen
      go_wp2
      go_roundw
      case rel => exact ⟨strike L f t, ss ++ [(f : Int)], k1, b4, c4, by rw [List.length_append]; rfl, HR4, by show Own _ _ _ _; rw [List.length_append]; exact HO4.out, hk1, HMs, HB4, hsz4⟩
      case measure => rw [HR4.out.left_eq, HR.out.left_eq]; exact HLt.out
set_option maxRecDepth 100000 in
set_option maxHeartbeats 400000 in
/-- .. of no map. -/
theorem criticalNodes_nil (w : World) :
    Calls Tryz.prog 38 #[.map none] w fun e w' => e = .returned (.slice none 0 0) ∧ Below w.heap.size w w' := by
  have hr := run_range_nilMap (P := Tryz.prog) w 45 51 4 Tryz.underlying45
  have hn := fun ty => run_next_nilMap (P := Tryz.prog) w ty 0 0 #[]
  go_enter Tryz.func38, Tryz.ntmps38
  go_wp2
  refine wp_loop_rounds 1 ?_
  rw [rounds_succ]
  go_wp2_with fail
  refine (Tryz.slices_Sort_int_none none 0 _).mono ?_
  rintro e w1 ⟨rfl, rfl⟩
  go_wp2_with fail
  refine (Tryz.slices_Compact_int_empty none 0 _).mono ?_
  rintro e w2 ⟨rfl, rfl⟩
  go_wp2
  go_ret
  exact ⟨rfl, b_alloc _ _⟩
set_option maxRecDepth 100000 in
set_option maxHeartbeats 1000000 in
theorem criticalNodesX (a : Option Addr) (n cap : Nat) (R : List (List Int)) (w : World) (h : Mat w a n R) :
    Calls Tryz.prog 14 #[.slice a n cap] w (VRes (M.nodesRes R) w) := by
  have HA := Lib.hid h
  have hRn : R.length = n := h.1
  by_cases hc : M.crCode R = 0
  · obtain ⟨h1, h2⟩ := M.cr_code hc
    have H1 := Lib.hid h1
    have H2 := Lib.hid h2
    obtain ⟨-, n1, n2, -⟩ := sq_parts h h1
    have HE : Hid (M.nodesRes R = (M.nodesL R, 0)) := by show _ = _; unfold M.nodesRes; rw [if_pos hc]
    have HRn := Lib.hid hRn
    clear h hc h1 h2 hRn
    go_enter Tryz.func14, Tryz.ntmps14
    go_wp2_with fail
    refine (criticalArcs _ _ _ R _ HA.out H1.out H2.out).mono ?_
    rintro e w1 ⟨b1, m1, rfl, -, hm1, hI, hb⟩
    have HI := Lib.hid hI
    have HB := Lib.hid hb
    clear hI hb
    go_wp2_with fail
    refine (criticalNodes n m1 b1 _ _ HI.out n2 hm1).mono ?_
    rintro e w2 ⟨b2, c2, l, rfl, ho, ⟨ss, hl, hss⟩, hb⟩
    have hN : l = M.nodesL R := by rw [hl]; exact M.srt_nodes fun x => by rw [HRn.out]; exact hss x
    have HN := Lib.hid hN
    have HO := Lib.hid (ho.mono HB.out.size)
    have HB2 := Lib.hid (HB.out.trans (hb.mono HB.out.size))
    clear ho hb hl hss hN
    go_wp2
    go_ret2
    rw [HE.out]
    refine ⟨_, _, _, rfl, ?_, HB2.out⟩
    show Own _ _ _ (M.nodesL R)
    rw [← HN.out]
    exact HO.out
  · have HC := Lib.hid hc
    obtain ⟨k, hk⟩ : ∃ k, k = M.crCode R := ⟨_, rfl⟩
    have HE : Hid (M.nodesRes R = ([], k)) := by show _ = _; unfold M.nodesRes; rw [if_neg hc, hk]
    have HK := Lib.hid hk
    clear h hc hRn hk
    go_enter Tryz.func14, Tryz.ntmps14
    go_wp2_with fail
    refine (criticalArcs_no _ _ _ R _ HA.out HC.out).mono ?_
    rintro e w1 ⟨rfl, hb⟩
    rw [← HK.out]
    have HB := Lib.hid hb
    clear hb
    go_wp2_with fail
    refine (criticalNodes_nil _).mono ?_
    rintro e w2 ⟨rfl, hb⟩
    have HB2 := Lib.hid (HB.out.trans (hb.mono HB.out.size))
    clear hb
    go_wp2
    go_ret2
    exact VRes.nil HE.out HB2.out
end Go.Proofs.YtlljnfljcdljaabGreat.V
