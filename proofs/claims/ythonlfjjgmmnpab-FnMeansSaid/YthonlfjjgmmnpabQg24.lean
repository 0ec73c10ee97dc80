/- Texts laid together: Dcz, Mns, Like. -/
import Derived.Test.YthonlfjjgmmnpabQg21
import Derived.Test.YthonlfjjgmmnpabQg23
import Derived.Test.YthonlfjjgmmnpabQg8
import Derived.Maps.AppendAt
import Derived.Test.YthonlfjjgmmnpabQg10
import Derived.Test.YthonlfjjgmmnpabRows
import Derived.Test.YthonlfjjgmmnpabQg1
import Derived.Test.YthonlfjjgmmnpabQg2
import Derived.WalkKit
import Derived.ProofKit
import Derived.WalkSmall
import Derived.Deep.QuietTactic
import Derived.BigQuiet
import Derived.BigRegion
import Derived.Deep.Draws
import Derived.Lib.Hide
import Derived.OpenShut
import Derived.Deep.OwnRows
namespace Go.Proofs.Ythonlfjjgmmnpab.M
theorem overL_len (R : List (List Int)) (n : Nat) (y : Int) (h : n ≤ 10) : (overL (ent R) n y).length ≤ 11 := by
  have := pick_len (g := fun v => grow (ent R) n y n [(v : Int)] 0) (m := 11) (fun v => by
    have := grow_nodes (ent R) n y n [(v : Int)] 0
    simp at this; omega) n 0
  exact this
end Go.Proofs.Ythonlfjjgmmnpab.M
namespace Go.Proofs.Ythonlfjjgmmnpab.V
open Go.RowKit

/-- The integers of a slice are appended to an owned list, at a step of a region. -/
theorem step_appendN (w : World) {ops : Array Oper} {o : Oper} {a : Act} {K : Act → World → Prop} {Q : Exit → Act → World → Prop} {E : Prop} (hgd : o.guard = none) (s x : Operand)
    (ho : o.op = .call { callee := .builtin .append, args := #[s, x], argTypes := #[30, 30] }) (B : Nat) (v : Value) (l l2 : List Int) (g n m c : Nat) (hn : l.length = n) (hm : l2.length = m) (hs : a.eval s = v) (hown : Own w B v l)
    (hx : a.eval x = .slice (some ⟨g, 0, none⟩) m c) (hy : ∀ i, i < m → w.cell? ⟨g, i, none⟩ = some (.int .i64 (l2.getD i 0))) (hlen : n + m ≤ 1000) (hB : B ≤ w.heap.size)
    (h : ∀ b' c' w', Own w' B (.slice b' (n + m) c') (l ++ l2) → Below B w w' → K (a.put o.dst (.slice b' (n + m) c')) w') :
    if Region.wanted o (yielded ops a.tmps) = true then Oper.wp Try.prog o a w K Q else E := by
  subst hn hm
  obtain ⟨i0, hi, hz0, hz1, hz2⟩ := info_parts info64
  have hw : Region.wanted o (yielded ops a.tmps) = true := by simp [Region.wanted, hgd]
  rw [if_pos hw]
  obtain ⟨v', w', hr, h2, h3, -, -⟩ := run_append_own_at (P := Try.prog) w B 30 o.type 2 i0 (.int .i64 0) 1 8 Try.underlying30 hi hz0 hz1 hz2 rfl (by decide) v l.length (l.map (Value.int .i64)) hown ⟨g, 0, none⟩ l2.length c (l2.map (Value.int .i64)) (by simp) (fun j u hj => by
      rw [Go.WideShapes.add_plain]
      have hj2 : j < l2.length := by
        have := (List.getElem?_eq_some_iff.1 hj).1
        simpa using this
      rw [Nat.zero_add, hy j hj2, ← hj]
      simp [hj2]) (fun u hu => by obtain ⟨x, _, rfl⟩ := List.mem_map.1 hu; rfl) (by unfold maxLen; omega) (by omega) hB
  have ho' : Own w' B v' (l ++ l2) := by
    show w'.ownsRow B _ 1 v' (l ++ l2).length ((l ++ l2).map (Value.int .i64))
    simpa using h2
  obtain ⟨b', c', hv, -⟩ := own_form ho'
  rw [show (l ++ l2).length = l.length + l2.length by simp] at hv
  subst hv
  unfold Oper.wp execOp
  simp only [ho, resolve, invoke, builtin, Sem.run_bind, Sem.run_pure, Result.andThen_ok, List.map_toArray, List.map_cons, List.map_nil, hs, hx, hr]
  exact h b' c' w' ho' ((Below.refl B w).grown h3 hB (fun k hk => (own_lt hown hk).1))

theorem Ints.drop {k : IntKind} {w : World} {q n : Nat} {l : List Int} (h : Ints k w (some ⟨q, 0, none⟩) n l) (i : Nat) (hi : i < n) : Ints k w (some ⟨q, i, none⟩) (n - i) (l.drop i) := by
  obtain ⟨h1, h2, h3⟩ := h
  rcases h3 with h3 | ⟨b, off, hb, hlt, hc⟩
  · omega
  injection hb with hb
  injection hb with e1 e2
  subst e1 e2
  refine ⟨by simp [h1], by omega, .inr ⟨q, i, rfl, hlt, fun t ht => ?_⟩⟩
  have := hc (i + t) (by omega)
  rw [Nat.zero_add] at this
  rw [this]
  simp [List.getD_eq_getElem?_getD]

set_option maxRecDepth 100000 in
set_option maxHeartbeats 1000000 in
theorem drawCycle (g n cap B : Nat) (a : Option Addr) (R : List (List Int)) (w : World) (h : Src w g) (ho : OwnM w B (.slice a n cap) R) (hB : g < B) (hn : n ≤ 200) :
    Calls Try.prog 77 #[.pointer (some ⟨g, 0, none⟩), .slice a n cap] w (DrawV g w) := by
  have hgs := h.lt
  have HS := Lib.hid h
  have HO := Lib.hid ho
  clear h ho
  by_cases hq : M.sqB R = true
  · have HQ := Lib.hid hq
    have HSq := Lib.hid (sq_of HO.out.mat hq)
    clear hq
    go_enter Try.func77, Try.ntmps77
    go_wp2_with fail
    refine (sSquare_b _ _ _ R _ true HQ.out HO.out.mat).mono ?_
    rintro e w' ⟨rfl, q, rfl⟩
    have HS1 : Hid (Src (w.drewN q) g) := HS.out.below ((b_draws w q).mono (by omega))
    have HT1 : Hid (Thr g w (w.drewN q)) := (Thr.refl g w).drewN q
    generalize w.drewN q = w1 at HS1 HT1
    go_wp2_with fail
    refine (next g 4 _ (by decide) HS1.out).mono ?_
    rintro e w2 ⟨x, rfl, hx1, -, hs2, ht2⟩
    have HS2 := Lib.hid hs2
    have HT2 := Lib.hid (HT1.out.trans ht2)
    clear hs2 ht2 HS1 HT1
    by_cases hx0 : 0 < x
    · have hg2 := HS2.out.lt
      have hlit : Hid (∀ i, i < 4 → ∃ x : Int, (Lit.int .i64 x).wf = true ∧ (w2.alloc (.cells #[.int .i64 (-1000000000000000), .int .i64 (-20), .int .i64 (-5), .int .i64 0] 2)).cell? ⟨w2.heap.size, 0 + i, none⟩ = some (.int .i64 x)) := fun i hi => by
        rcases (show i = 0 ∨ i = 1 ∨ i = 2 ∨ i = 3 by omega) with rfl | rfl | rfl | rfl
        · exact ⟨-1000000000000000, by decide, by simp⟩
        · exact ⟨-20, by decide, by simp⟩
        · exact ⟨-5, by decide, by simp⟩
        · exact ⟨0, by decide, by simp⟩
      go_wp2_with fail
      refine (pick g _ 0 4 4 _ (HS2.out.alloc _) (by omega) (by omega) hg2 hlit.out).mono ?_
      rintro e w3 ⟨y, rfl, -, hs3, ht3⟩
      have HS3 := Lib.hid hs3
      have HT3 := Lib.hid ((HT2.out.alloc (Nat.le_of_lt hg2) _).trans ht3)
      have HSq3 : Hid (Sq w3 a n R) := ⟨(HO.out.thr HT3.out hB).mat, HSq.out.2⟩
      clear hs3 ht3 HS2 HT2 hlit hg2
      obtain ⟨l, hl⟩ : ∃ l, l = M.overL (M.ent R) n y := ⟨_, rfl⟩
      have HL := Lib.hid hl
      have hl11 : l.length ≤ 11 := by rw [hl]; exact M.overL_len R n y HSq3.out.2.2.2.2
      clear hl
      go_wp2_with fail
      refine (sOver _ _ _ R y _ HSq3.out).mono ?_
      rintro e w4 ⟨b4, n4, c4, rfl, ho4, hb4⟩
      rw [← HL.out] at ho4
      have hn4 := ho4.len
      have hn11 : n4 ≤ 11 := by omega
      have HN4 := Lib.hid hn4
      have hz3 : w.heap.size ≤ w3.heap.size := HT3.out.below.size
      have HO4 := Lib.hid (ho4.mono hz3)
      have HS4 := Lib.hid (HS3.out.then hb4 HS3.out.lt)
      have HT4 := Lib.hid (HT3.out.then (hb4.mono hz3) (Nat.le_of_lt hgs))
      clear ho4 hb4 HS3 HT3 HSq3 hz3 HL hn4 hl11
      by_cases h0 : n4 = 0
      · subst h0
        have HR4 := Lib.hid (HO.out.thr HT4.out hB)
        go_wp2_with fail
        refine (drawNodes g n cap B a R _ HS4.out HR4.out hB hn).mono ?_
        rintro e w5 ⟨a5, n5, c5, l5, rfl, ho5, hs5, ht5⟩
        have HO5 := Lib.hid (ho5.mono HT4.out.below.size)
        have HS5 := Lib.hid hs5
        have HT5 := Lib.hid (HT4.out.trans ht5)
        clear ho5 hs5 ht5
        go_wp2
        go_ret
        exact ⟨_, _, _, l5, rfl, HO5.out, HS5.out, HT5.out⟩
      · have hn4p : 0 < n4 := by omega
        have hn4i : (0 : Int) < (n4 : Int) := by omega
        have hwn : (Lit.int .i64 (n4 : Int)).wf = true := wf_small _ (by omega) (by omega)
        have HWN := Lib.hid hwn
        clear hwn
        go_wp2_with fail
        refine (next g (n4 : Int) _ HWN.out HS4.out).mono ?_
        rintro e w5 ⟨k, rfl, hk1, hk2, hs5, ht5⟩
        obtain ⟨k, rfl⟩ := Int.eq_ofNat_of_zero_le hk1
        have hk : k < n4 := by omega
        have ho5 := HO4.out.thr ht5 hgs
        obtain ⟨q, rfl, hq⟩ := own_head ho5 (by rw [← HN4.out]; omega)
        have HO5 := Lib.hid ho5
        have HS5 := Lib.hid hs5
        have HT5 := Lib.hid (HT4.out.trans ht5)
        have hcap := (caps_own ho5).1
        clear ho5 hs5 ht5 HO4 HS4 HT4 hk2 hk1
        have HIk := Lib.hid (HO5.out.ints'.drop k hk)
        have hz5 : w.heap.size ≤ w5.heap.size := HT5.out.below.size
        have hki1 : (0 : Int) ≤ (k : Int) := by omega
        have hki2 : (k : Int) ≤ (n4 : Int) := by omega
        have hki3 : (k : Int) ≤ (c4 : Int) := by omega
        have hki4 : (n4 : Int) ≤ (c4 : Int) := by omega
        have hck : ¬ c4 = k := by omega
        go_wp2_with fail
        have HC5 : Hid (∀ i, i < k → w5.cell? ⟨q, i, none⟩ = some (.int .i64 ((l.take k).getD i 0))) := fun i hi => by
          obtain ⟨q2, o2, x, he, -, hx, hc⟩ := HO5.out.ints'.at i (by omega)
          injection he with he
          injection he with e1 e2
          subst e1 e2
          rw [Nat.zero_add] at hc
          rw [hc, hx]
          simp [List.getD_eq_getElem?_getD, List.getElem?_take, hi]
        have hqlt : Hid (∀ i, i < k → q < w5.heap.size) := fun i hi => cell_lt (HC5.out i hi)
        have HLn := Lib.hid HN4.out.symm
        refine wp_region_any (by kernel_rfl) ?_
        change wpAny _ _ _ _ _ _ _ (World.drew _)
        refine wpAny_take (i := 0) (v := ?v0) rfl (by kernel_rfl) (by kernel_rfl) (by kernel_rfl) (fun _ _ _ h => h) (Or.inl ⟨by rfl, ?hy0⟩) ?rest0
        case hy0 => (intro w; go_simp; try with_reducible rfl)
        (try simp only [Act.put, List.setIfInBounds_toArray, List.set_cons_zero, List.set_cons_succ])
        refine wpAny_take (i := 1) (v := ?v1) rfl (by kernel_rfl) (by kernel_rfl) (by kernel_rfl) (fun _ _ _ h => h) (Or.inl ⟨by rfl, ?hy1⟩) ?rest1
        case hy1 => (intro w; go_simp; try with_reducible rfl)
        (try simp only [Act.put, List.setIfInBounds_toArray, List.set_cons_zero, List.set_cons_succ])
        refine wpAny_take (i := 2) (v := ?v2) rfl (by kernel_rfl) (by kernel_rfl) (by kernel_rfl) (fun _ _ _ h => h) (Or.inl ⟨by rfl, ?hy2⟩) ?rest2
        case hy2 => (intro w; go_simp; try with_reducible rfl)
        (try simp only [Act.put, List.setIfInBounds_toArray, List.set_cons_zero, List.set_cons_succ])
        refine wpAny_take (i := 4) (v := ?v4) rfl (by kernel_rfl) (by kernel_rfl) (by kernel_rfl) (fun _ _ _ h => h) (Or.inl ⟨by rfl, ?hy4⟩) ?rest4
        case hy4 => (intro w; go_simp; try with_reducible rfl)
        (try simp only [Act.put, List.setIfInBounds_toArray, List.set_cons_zero, List.set_cons_succ])
        refine wpAny_take (i := 5) (v := ?v5) rfl (by kernel_rfl) (by kernel_rfl) (by kernel_rfl) (fun _ _ _ h => h) (Or.inl ⟨by rfl, ?hy5⟩) ?rest5
        case hy5 => (intro w; go_simp; try with_reducible rfl)
        (try simp only [Act.put, List.setIfInBounds_toArray, List.set_cons_zero, List.set_cons_succ])
        refine wpAny_take (i := 6) (v := ?v6) rfl (by kernel_rfl) (by kernel_rfl) (by kernel_rfl) (fun _ _ _ h => h) (Or.inl ⟨by rfl, ?hy6⟩) ?rest6
        case hy6 => (intro w; go_simp; try with_reducible rfl)
        (try simp only [Act.put, List.setIfInBounds_toArray, List.set_cons_zero, List.set_cons_succ])
        refine wpAny_ready (rs := [3]) (by kernel_rfl) (by simp) (AllReady.cons rfl (fun K hK => ?_) AllReady.nil)
        go_simp
        refine (sOwn _ _ _ (l.drop k) _ (HIk.out.below (Below.refl _ _).drew) (by omega) (by omega)).mono ?_
        rintro e w6 ⟨b6, c6, rfl, ho, hb⟩
        have HO6 := Lib.hid ho
        have HB6 := Lib.hid hb
        clear ho hb
        refine hK _ _ ?_
        clear hK K
        (try simp only [Act.put, List.setIfInBounds_toArray, List.set_cons_zero, List.set_cons_succ])
        refine wpAny_ready (rs := [7]) (by kernel_rfl) (by simp) (AllReady.cons rfl (fun K hK => ?_) AllReady.nil)
        refine step_appendN _ rfl _ _ rfl w5.heap.size _ (l.drop k) (l.take k) q (n4 - k) k _ (by simp [HLn.out]) (by simp [HLn.out]; omega) rfl HO6.out rfl (fun i hi => (HB6.out.cell (p := ⟨q, i, none⟩) (hqlt.out i hi)).trans (HC5.out i hi)) (by omega) HB6.out.size ?_
        intro b7 c7 w7 ho hb
        have HO7 := Lib.hid ho
        have HB7 := Lib.hid hb
        clear ho hb
        refine hK _ _ ?_
        clear hK K
        (try simp only [Act.put, List.setIfInBounds_toArray, List.set_cons_zero, List.set_cons_succ])
        refine wpAny_ready (rs := [8]) (by kernel_rfl) (by simp) (AllReady.cons rfl (fun K hK => ?_) AllReady.nil)
        go_simp
        refine hK _ _ ?_
        clear hK K
        (try simp only [Act.put, List.setIfInBounds_toArray, List.set_cons_zero, List.set_cons_succ])
        refine wpAny_done (by kernel_rfl) ?_ _
        all_goals
          have HB8 : Hid (Below w5.heap.size w5 w7) := ((Below.refl w5.heap.size w5).drew.trans HB6.out).trans HB7.out
          go_wp2
          go_ret
          exact ⟨_, _, _, _, rfl, HO7.out.mono hz5, HS5.out.then HB8.out HS5.out.lt, HT5.out.then (HB8.out.mono hz5) (Nat.le_of_lt hgs)⟩
    · obtain rfl : x = 0 := by omega
      have HR2 := Lib.hid (HO.out.thr HT2.out hB)
      go_wp2_with fail
      refine (drawNodes g n cap B a R _ HS2.out HR2.out hB hn).mono ?_
      rintro e w5 ⟨a5, n5, c5, l5, rfl, ho5, hs5, ht5⟩
      have HO5 := Lib.hid (ho5.mono HT2.out.below.size)
      have HS5 := Lib.hid hs5
      have HT5 := Lib.hid (HT2.out.trans ht5)
      clear ho5 hs5 ht5
      go_wp2
      go_ret
      exact ⟨_, _, _, l5, rfl, HO5.out, HS5.out, HT5.out⟩
  · simp only [Bool.not_eq_true] at hq
    have HQ := Lib.hid hq
    clear hq
    go_enter Try.func77, Try.ntmps77
    go_wp2_with fail
    refine (sSquare_b _ _ _ R _ false HQ.out HO.out.mat).mono ?_
    rintro e w' ⟨rfl, q, rfl⟩
    have HS1 : Hid (Src (w.drewN q) g) := HS.out.below ((b_draws w q).mono (by omega))
    have HT1 : Hid (Thr g w (w.drewN q)) := (Thr.refl g w).drewN q
    generalize w.drewN q = w1 at HS1 HT1
    have HR2 := Lib.hid (HO.out.thr HT1.out hB)
    go_wp2_with fail
    refine (drawNodes g n cap B a R _ HS1.out HR2.out hB hn).mono ?_
    rintro e w5 ⟨a5, n5, c5, l5, rfl, ho5, hs5, ht5⟩
    have HO5 := Lib.hid (ho5.mono HT1.out.below.size)
    have HS5 := Lib.hid hs5
    have HT5 := Lib.hid (HT1.out.trans ht5)
    clear ho5 hs5 ht5
    go_wp2
    go_ret
    exact ⟨_, _, _, l5, rfl, HO5.out, HS5.out, HT5.out⟩

set_option maxRecDepth 100000 in
set_option maxHeartbeats 1000000 in
theorem drawIsCycle (a : Option Addr) (n cap : Nat) (w : World) (h : Bytes w a n) :
    Calls Try.prog 41 #[.slice a n cap] w (DrawnMN w) := by
  have HB := Lib.hid h
  clear h
  go_enter Try.func41, Try.ntmps41
  go_wp2_with fail
  refine (from_ _ _ _ _ HB.out).mono ?_
  rintro e w1 ⟨rfl, hs1, hb1⟩
  have HS1 := Lib.hid hs1
  have HB1 := Lib.hid hb1
  have hg1 := hs1.lt
  clear hs1 hb1
  go_wp2_with fail
  refine (draw3 _ _ HS1.out).mono ?_
  rintro e w2 ⟨a2, n2, c2, R, rfl, hn2, ho, hs2, ht2⟩
  have HO2 := Lib.hid ho
  have HS2 := Lib.hid hs2
  have HB2 := Lib.hid (HB1.out.trans ht2.below)
  clear ho hs2 ht2
  go_wp2_with fail
  refine (drawCycle _ n2 _ _ _ R _ HS2.out HO2.out hg1 hn2).mono ?_
  rintro e w6 ⟨a6, n6, c6, l, rfl, ho6, hs6, ht6⟩
  have HI := Lib.hid ho6.ints'
  have HC := Lib.hid (caps_own ho6)
  have HM := Lib.hid (HO2.out.thr ht6 hg1).mat
  have HB6 := Lib.hid (HB2.out.trans ht6.below)
  clear ho6 hs6 ht6
  go_wp2
  go_ret2
  exact ⟨_, _, _, R, _, _, _, l, rfl, HM.out, HI.out, HC.out.1, HC.out.2, HB6.out⟩
end Go.Proofs.Ythonlfjjgmmnpab.V

namespace Go.Proofs.Ythonlfjjgmmnpab.V
open Go.RowKit
theorem cell_blk {w w' : World} {p : Addr} (h : w'.heap[p.block]? = w.heap[p.block]?) : w'.cell? p = w.cell? p := World.cell?_of_block (w := w) h
theorem keep_a {p : Addr} {v : Value} {w w' : World} {B : Nat} {w0 : World} (h : w'.cell? p = some v ∧ Below B w0 w') (hp : p.block < B) (hB : B ≤ w0.heap.size) (o : Obj) : (w'.alloc o).cell? p = some v ∧ Below B w0 (w'.alloc o) := by
  have hz := h.2.size
  exact ⟨((b_alloc w' o).cell (by omega)).trans h.1, h.2.alloc (by omega) o⟩
theorem keep_b {p : Addr} {v : Value} {w' w2 : World} {B : Nat} {w0 : World} (h : w'.cell? p = some v ∧ Below B w0 w') (hp : p.block < B) (hb : Below B w' w2) : w2.cell? p = some v ∧ Below B w0 w2 :=
  ⟨(hb.cell hp).trans h.1, h.2.trans hb⟩
theorem below_r {A : Prop} {B : Nat} {w0 w' : World} (h : A ∧ Below B w0 w') : Below B w0 w' := h.2

/-- The integers of a slice are appended to a new empty list, at a step of a region. -/
theorem step_appendP (w : World) {ops : Array Oper} {o : Oper} {a : Act} {K : Act → World → Prop} {Q : Exit → Act → World → Prop} {E : Prop} (hgd : o.guard = none) (s x : Operand)
    (ho : o.op = .call { callee := .builtin .append, args := #[s, x], argTypes := #[30, 30] }) (B : Nat) (v : Value) (l2 : List Int) (pa : Option Addr) (m c : Nat) (hm : l2.length = m) (hs : a.eval s = v) (hown : Own w B v [])
    (hx : a.eval x = .slice pa m c) (hpa : ∃ ad, pa = some ad ∧ ∀ i, i < m → w.cell? (ad.add i) = some (.int .i64 (l2.getD i 0))) (hlen : m ≤ 1000) (hB : B ≤ w.heap.size)
    (h : ∀ b' c' w', Own w' B (.slice b' m c') l2 → Below B w w' → (∀ k, k < w.heap.size → v.ownBlock ≠ some k → w'.heap[k]? = w.heap[k]?) → K (a.put o.dst (.slice b' m c')) w') :
    if Region.wanted o (yielded ops a.tmps) = true then Oper.wp Try.prog o a w K Q else E := by
  subst hm
  obtain ⟨ad, rfl, hy⟩ := hpa
  obtain ⟨i0, hi, hz0, hz1, hz2⟩ := info_parts info64
  have hw : Region.wanted o (yielded ops a.tmps) = true := by simp [Region.wanted, hgd]
  rw [if_pos hw]
  obtain ⟨v', w', hr, h2, h3, -, -⟩ := run_append_own_at (P := Try.prog) w B 30 o.type 2 i0 (.int .i64 0) 1 8 Try.underlying30 hi hz0 hz1 hz2 rfl (by decide) v 0 [] hown ad l2.length c (l2.map (Value.int .i64)) (by simp) (fun j u hj => by
      have hj2 : j < l2.length := by
        have := (List.getElem?_eq_some_iff.1 hj).1
        simpa using this
      rw [hy j hj2, ← hj]
      simp [hj2]) (fun u hu => by obtain ⟨x, _, rfl⟩ := List.mem_map.1 hu; rfl) (by unfold maxLen; omega) (by omega) hB
  have ho' : Own w' B v' l2 := by
    show w'.ownsRow B _ 1 v' l2.length (l2.map (Value.int .i64))
    simpa using h2
  obtain ⟨b', c', hv, -⟩ := own_form ho'
  subst hv
  unfold Oper.wp execOp
  simp only [ho, resolve, invoke, builtin, Sem.run_bind, Sem.run_pure, Result.andThen_ok, List.map_toArray, List.map_cons, List.map_nil, hs, hx, hr]
  refine h b' c' w' ho' ((Below.refl B w).grown h3 hB (fun k hk => (own_lt hown hk).1)) (fun k hk hne => ?_)
  obtain ⟨g1, g2, g3, g4, g5⟩ := h3
  exact g5 k hk (fun e => hne e.symm)
end Go.Proofs.Ythonlfjjgmmnpab.V

namespace Go.Proofs.Ythonlfjjgmmnpab.V
set_option maxRecDepth 100000
open Go.RowKit
theorem thn {a b c : World} (h1 : Below a.heap.size a b) (h2 : Below b.heap.size b c) : Below a.heap.size a c := h1.trans (h2.mono h1.size)
set_option maxRecDepth 100000 in
set_option maxHeartbeats 1000000 in
theorem drawMeanOf (a : Option Addr) (n cap : Nat) (w : World) (h : Bytes w a n) :
    Calls Try.prog 13 #[.slice a n cap] w (DrawnMN w) := by
  have HB := Lib.hid h
  clear h
  go_enter Try.func13, Try.ntmps13
  go_wp2_with fail
  refine (drawIsCycle _ _ _ _ HB.out).mono ?_
  rintro e w1 ⟨a2, n2, c2, R, a6, n6, c6, l, rfl, hM, hI, hc1, hc2, hb⟩
  have HM := Lib.hid hM
  have HI := Lib.hid hI
  have HBb := Lib.hid hb
  have HC := Lib.hid (And.intro hc1 hc2)
  clear hM hI hb hc1 hc2
  go_wp2
  go_ret2
  exact ⟨_, _, _, R, _, _, _, l, rfl, HM.out, HI.out, HC.out.1, HC.out.2, HBb.out⟩
end Go.Proofs.Ythonlfjjgmmnpab.V

namespace Go.Proofs.Ythonlfjjgmmnpab.V
open Go.RowKit

set_option maxRecDepth 100000 in
set_option maxHeartbeats 400000 in
theorem likeInts (a : Option Addr) (n cap : Nat) (l : List Int) (a' : Option Addr) (n' cap' : Nat) (l' : List Int) (w : World) (h : Ints .i64 w a n l) (h' : Ints .i64 w a' n' l') (heq : l = l') :
    Calls Try.prog 54 #[.slice a n cap, .slice a' n' cap'] w fun e w' => e = .returned (.bool true) ∧ ∃ q, w' = w.drewN q := by
  subst heq
  obtain ⟨hl, hm, hr⟩ := h
  obtain ⟨hl', hm', hr'⟩ := h'
  obtain rfl : n = n' := by omega
  unfold maxLen at hm
  clear hm'
  have HL := Lib.hid hl
  clear hl hl'
  go_enter Try.func54, Try.ntmps54
  go_wp2
  go_loopw [5] (fun i wr => ∃ k : Nat, k ≤ n ∧ i = .int .i64 k ∧ ∃ q, wr = w.drewN q) (fun i _ => n - (intOf i).toNat)
  case atStart => exact ⟨0, Nat.zero_le _, rfl, 0, rfl⟩
  case round =>
    obtain ⟨k, hk, rfl, q, rfl⟩ := hrel
    by_cases hlt : k < n
    · rcases hr with h0 | ⟨b, off, rfl, hbl, hc⟩
      · omega
      rcases hr' with h0 | ⟨b', off', rfl, hbl', hc'⟩
      · omega
      have hck := hc k hlt
      have hck' := hc' k hlt
      obtain ⟨x, hx⟩ : ∃ x, x = l.getD k 0 := ⟨_, rfl⟩
      rw [← hx] at hck hck'
      clear hc hx hc'
      have hki : (k : Int) < (n : Int) := by omega
      go_wp2
      go_quiet (fail)
      go_wp2
      go_roundw
      case rel => exact ⟨k + 1, by omega, by go_num, _, rfl⟩
      case measure => simp [intOf]; omega
    · have hkn : k = n := by omega
      subst hkn
      clear hr hr'
      go_wp2
      go_ret
      exact ⟨rfl, q, rfl⟩

set_option maxRecDepth 100000 in
set_option maxHeartbeats 400000 in
theorem likeIntss (a : Option Addr) (n cap : Nat) (R : List (List Int)) (a' : Option Addr) (n' cap' : Nat) (R' : List (List Int)) (w : World) (h : Mat w a n R) (h' : Mat w a' n' R') (heq : R = R') :
    Calls Try.prog 24 #[.slice a n cap, .slice a' n' cap'] w fun e w' => e = .returned (.bool true) ∧ ∃ q, w' = w.drewN q := by
  subst heq
  have HM := Lib.hid h
  have HM' := Lib.hid h'
  obtain ⟨hl, hm, -⟩ := h
  obtain ⟨hl', -, -⟩ := h'
  obtain rfl : n = n' := by omega
  unfold maxLen at hm
  have HL := Lib.hid hl
  clear hl hl'
  go_enter Try.func24, Try.ntmps24
  go_wp2
  go_loopw [5] (fun i wr => ∃ k : Nat, k ≤ n ∧ i = .int .i64 k ∧ ∃ q, wr = w.drewN q) (fun i _ => n - (intOf i).toNat)
  case atStart => exact ⟨0, Nat.zero_le _, rfl, 0, rfl⟩
  case round =>
    obtain ⟨k, hk, rfl, q, rfl⟩ := hrel
    by_cases hlt : k < n
    · obtain ⟨b, off, ra, rc, L, l, rfl, hbl, hll, hc, hI⟩ := HM.out.at k hlt
      obtain ⟨b', off', ra', rc', L', l', rfl, hbl', hll', hc', hI'⟩ := HM'.out.at k hlt
      have HI := Lib.hid hI
      have HI' := Lib.hid hI'
      have HE := Lib.hid (hll.trans hll'.symm)
      clear hI hI' hll hll' HM HM'
      have hki : (k : Int) < (n : Int) := by omega
      go_wp2
      go_quiet ((go_at_call 54; exact q_more (likeInts _ _ _ l _ _ _ l' _ HI.out HI'.out HE.out)))
      go_wp2
      go_roundw
      case rel => exact ⟨k + 1, by omega, by go_num, _, rfl⟩
      case measure => simp [intOf]; omega
    · have hkn : k = n := by omega
      subst hkn
      go_wp2
      go_ret
      exact ⟨rfl, q, rfl⟩

/-- The same, said for the laws. -/
theorem likeM (a : Option Addr) (n cap : Nat) (R : List (List Int)) (a' : Option Addr) (n' cap' : Nat) (w : World) (h : Mat w a n R) (h' : Mat w a' n' R) :
    Calls Try.prog 24 #[.slice a n cap, .slice a' n' cap'] w fun e w' => e = .returned (.bool true) ∧ Below w.heap.size w w' := by
  refine (likeIntss _ _ _ _ _ _ _ _ _ h h' rfl).mono ?_
  rintro e w' ⟨rfl, q, rfl⟩
  exact ⟨rfl, b_draws _ _⟩
theorem likeV (a : Option Addr) (n cap : Nat) (l : List Int) (a' : Option Addr) (n' cap' : Nat) (w : World) (h : Ints .i64 w a n l) (h' : Ints .i64 w a' n' l) :
    Calls Try.prog 54 #[.slice a n cap, .slice a' n' cap'] w fun e w' => e = .returned (.bool true) ∧ Below w.heap.size w w' := by
  refine (likeInts _ _ _ _ _ _ _ _ _ h h' rfl).mono ?_
  rintro e w' ⟨rfl, q, rfl⟩
  exact ⟨rfl, b_draws _ _⟩
set_option maxRecDepth 100000 in
set_option maxHeartbeats 400000 in
theorem big (a : Option Addr) (n cap : Nat) (w : World) (h : n ≤ maxLen) :
    Calls Try.prog 7 #[.slice a n cap] w fun e w' => e = .returned (.bool (decide (4096 < n))) ∧ w = w' := by
  unfold maxLen at h
  go_enter Try.func7, Try.ntmps7
  go_wp2
  go_ret
  exact ⟨retB (decide_eq_decide.2 (by omega)), rfl⟩
end Go.Proofs.Ythonlfjjgmmnpab.V
