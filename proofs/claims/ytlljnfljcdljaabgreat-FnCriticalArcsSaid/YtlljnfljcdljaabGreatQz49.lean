/- Texts laid together: Dc. -/
import Derived.Test.YtlljnfljcdljaabGreatQz47
import Derived.Test.YtlljnfljcdljaabGreatQz48
import Derived.Test.YtlljnfljcdljaabGreatQz7
import Derived.Maps.AppendAt
set_option linter.unusedSimpArgs false
set_option linter.unusedVariables false
set_option linter.unusedSectionVars false
namespace Go.Proofs.YtlljnfljcdljaabGreat.M
theorem overL_len (R : List (List Int)) (n : Nat) (y : Int) (h : n ≤ 10) : (overL (ent R) n y).length ≤ 11 := by
  have := pick_len (g := fun v => grow (ent R) n y n [(v : Int)] 0) (m := 11) (fun v => by
    have := grow_nodes (ent R) n y n [(v : Int)] 0
    simp at this; omega) n 0
  exact this
end Go.Proofs.YtlljnfljcdljaabGreat.M
namespace Go.Proofs.YtlljnfljcdljaabGreat.V
open Go.RowKit

/-- The integers of a slice are appended to an owned list, at a step of a region. -/
theorem step_appendN (w : World) {ops : Array Oper} {o : Oper} {a : Act} {K : Act → World → Prop} {Q : Exit → Act → World → Prop} {E : Prop} (hgd : o.guard = none) (s x : Operand)
    (ho : o.op = .call { callee := .builtin .append, args := #[s, x], argTypes := #[32, 32] }) (B : Nat) (v : Value) (l l2 : List Int) (g n m c : Nat) (hn : l.length = n) (hm : l2.length = m) (hs : a.eval s = v) (hown : Own w B v l)
    (hx : a.eval x = .slice (some ⟨g, 0, none⟩) m c) (hy : ∀ i, i < m → w.cell? ⟨g, i, none⟩ = some (.int .i64 (l2.getD i 0))) (hlen : n + m ≤ 1000) (hB : B ≤ w.heap.size)
    (h : ∀ b' c' w', Own w' B (.slice b' (n + m) c') (l ++ l2) → Below B w w' → K (a.put o.dst (.slice b' (n + m) c')) w') :
    if Region.wanted o (yielded ops a.tmps) = true then Oper.wp Tryz.prog o a w K Q else E := by
  subst hn hm
  obtain ⟨i0, hi, hz0, hz1, hz2⟩ := info_parts info64
  have hw : Region.wanted o (yielded ops a.tmps) = true := by simp [Region.wanted, hgd]
  rw [if_pos hw]
  obtain ⟨v', w', hr, h2, h3, -, -⟩ := run_append_own_at (P := Tryz.prog) w B 32 o.type 2 i0 (.int .i64 0) 1 8 Tryz.underlying32 hi hz0 hz1 hz2 rfl (by decide) v l.length (l.map (Value.int .i64)) hown ⟨g, 0, none⟩ l2.length c (l2.map (Value.int .i64)) (by simp) (fun j u hj => by
      rw [Go.WideShapes.add_plain]
      have hj2 : j < l2.length := by
        have := (List.getElem?_eq_some_iff.1 hj).1
        simpa using this
      rw [Nat.zero_add, hy j hj2, ← hj]
      simp [hj2]) (fun u hu => by obtain ⟨x, _, rfl⟩ := List.mem_map.1 hu; rfl) (by unfold maxLen; omega) (by omega) hB
  have ho' : Own w' B v' (l ++ l2) := by
    show w'.ownsRow B _ 1 v' (l ++ l2).length ((l ++ l2).map (Value.int .i64))
    simpa using h2
  obtain ⟨b', c', hv, -⟩ := own_form ho'
  rw [show (l ++ l2).length = l.length + l2.length by simp] at hv
  subst hv
  unfold Oper.wp execOp
  simp only [ho, resolve, invoke, builtin, Sem.run_bind, Sem.run_pure, Result.andThen_ok, List.map_toArray, List.map_cons, List.map_nil, hs, hx, hr]
  exact h b' c' w' ho' ((Below.refl B w).grown h3 hB (fun k hk => (own_lt hown hk).1))

theorem Ints.drop {k : IntKind} {w : World} {q n : Nat} {l : List Int} (h : Ints k w (some ⟨q, 0, none⟩) n l) (i : Nat) (hi : i < n) : Ints k w (some ⟨q, i, none⟩) (n - i) (l.drop i) := by
  obtain ⟨h1, h2, h3⟩ := h
  rcases h3 with h3 | ⟨b, off, hb, hlt, hc⟩
  · omega
  injection hb with hb
  injection hb with e1 e2
  subst e1 e2
  refine ⟨by simp [h1], by omega, .inr ⟨q, i, rfl, hlt, fun t ht => ?_⟩⟩
  have := hc (i + t) (by omega)
  rw [Nat.zero_add] at this
  rw [this]
  simp [List.getD_eq_getElem?_getD]

set_option maxRecDepth 100000 in
set_option maxHeartbeats 1000000 in
theorem drawCycle (g n cap B : Nat) (a : Option Addr) (R : List (List Int)) (w : World) (h : Src w g) (ho : OwnM w B (.slice a n cap) R) (hB : g < B) (hn : n ≤ 200) :
    Calls Tryz.prog 44 #[.pointer (some ⟨g, 0, none⟩), .slice a n cap] w (DrawV g w) := by
  have hgs := h.lt
  have HS := Lib.hid h
  have HO := Lib.hid ho
  clear h ho
  by_cases hq : M.sqB R = true
  · have HQ := Lib.hid hq
    have HSq := Lib.hid (sq_of HO.out.mat hq)
    clear hq
    go_enter Tryz.func44, Tryz.ntmps44
    go_wp2_with fail
    refine (sSquare_b _ _ _ R _ true HQ.out HO.out.mat).mono ?_
    rintro e w' ⟨rfl, q, rfl⟩
    have HS1 : Hid (Src (w.drewN q) g) := HS.out.below ((b_draws w q).mono (by omega))
    have HT1 : Hid (Thr g w (w.drewN q)) := (Thr.refl g w).drewN q
    generalize w.drewN q = w1 at HS1 HT1
    go_wp2_with fail
    refine (next g 4 _ (by decide) HS1.out).mono ?_
    rintro e w2 ⟨x, rfl, hx1, -, hs2, ht2⟩
    have HS2 := Lib.hid hs2
    have HT2 := Lib.hid (HT1.out.trans ht2)
    clear hs2 ht2 HS1 HT1
    by_cases hx0 : 0 < x
    · have hg2 := HS2.out.lt
      have hlit : Hid (∀ i, i < 4 → ∃ x : Int, (Lit.int .i64 x).wf = true ∧ (w2.alloc (.cells #[.int .i64 (-1000000000000000), .int .i64 (-20), .int .i64 (-5), .int .i64 0] 2)).cell? ⟨w2.heap.size, 0 + i, none⟩ = some (.int .i64 x)) := fun i hi => by
        rcases (show i = 0 ∨ i = 1 ∨ i = 2 ∨ i = 3 by omega) with rfl | rfl | rfl | rfl
        · exact ⟨-1000000000000000, by decide, by simp⟩
        · exact ⟨-20, by decide, by simp⟩
        · exact ⟨-5, by decide, by simp⟩
        · exact ⟨0, by decide, by simp⟩
      go_wp2_with fail
      refine (pick g _ 0 4 4 _ (HS2.out.alloc _) (by omega) (by omega) hg2 hlit.out).mono ?_
      rintro e w3 ⟨y, rfl, -, hs3, ht3⟩
      have HS3 := Lib.hid hs3
      have HT3 := Lib.hid ((HT2.out.alloc (Nat.le_of_lt hg2) _).trans ht3)
      have HSq3 : Hid (Sq w3 a n R) := ⟨(HO.out.thr HT3.out hB).mat, HSq.out.2⟩
      clear hs3 ht3 HS2 HT2 hlit hg2
      obtain ⟨l, hl⟩ : ∃ l, l = M.overL (M.ent R) n y := ⟨_, rfl⟩
      have HL := Lib.hid hl
      have hl11 : l.length ≤ 11 := by rw [hl]; exact M.overL_len R n y HSq3.out.2.2.2.2
      clear hl
      go_wp2_with fail
      refine (sOver _ _ _ R y _ HSq3.out).mono ?_
      rintro e w4 ⟨b4, n4, c4, rfl, ho4, hb4⟩
      rw [← HL.out] at ho4
      have hn4 := ho4.len
      have hn11 : n4 ≤ 11 := by omega
      have HN4 := Lib.hid hn4
      have hz3 : w.heap.size ≤ w3.heap.size := HT3.out.below.size
      have HO4 := Lib.hid (ho4.mono hz3)
      have HS4 := Lib.hid (HS3.out.then hb4 HS3.out.lt)
      have HT4 := Lib.hid (HT3.out.then (hb4.mono hz3) (Nat.le_of_lt hgs))
      clear ho4 hb4 HS3 HT3 HSq3 hz3 HL hn4 hl11
      by_cases h0 : n4 = 0
      · subst h0
        have HR4 := Lib.hid (HO.out.thr HT4.out hB)
        go_wp2_with fail
        refine (drawNodes g n cap B a R _ HS4.out HR4.out hB hn).mono ?_
        rintro e w5 ⟨a5, n5, c5, l5, rfl, ho5, hs5, ht5⟩
        have HO5 := Lib.hid (ho5.mono HT4.out.below.size)
        have HS5 := Lib.hid hs5
        have HT5 := Lib.hid (HT4.out.trans ht5)
        clear ho5 hs5 ht5
        go_wp2
        go_ret
        exact ⟨_, _, _, l5, rfl, HO5.out, HS5.out, HT5.out⟩
      · have hn4p : 0 < n4 := by omega
        have hn4i : (0 : Int) < (n4 : Int) := by omega
        have hwn : (Lit.int .i64 (n4 : Int)).wf = true := wf_small _ (by omega) (by omega)
        have HWN := Lib.hid hwn
        clear hwn
        go_wp2_with fail
        refine (next g (n4 : Int) _ HWN.out HS4.out).mono ?_
        rintro e w5 ⟨k, rfl, hk1, hk2, hs5, ht5⟩
        obtain ⟨k, rfl⟩ := Int.eq_ofNat_of_zero_le hk1
        have hk : k < n4 := by omega
        have ho5 := HO4.out.thr ht5 hgs
        obtain ⟨q, rfl, hq⟩ := own_head ho5 (by rw [← HN4.out]; omega)
        have HO5 := Lib.hid ho5
        have HS5 := Lib.hid hs5
        have HT5 := Lib.hid (HT4.out.trans ht5)
        have hcap := (caps_own ho5).1
        clear ho5 hs5 ht5 HO4 HS4 HT4 hk2 hk1
        have HIk := Lib.hid (HO5.out.ints'.drop k hk)
        have hz5 : w.heap.size ≤ w5.heap.size := HT5.out.below.size
        have hki1 : (0 : Int) ≤ (k : Int) := by omega
        have hki2 : (k : Int) ≤ (n4 : Int) := by omega
        have hki3 : (k : Int) ≤ (c4 : Int) := by omega
        have hki4 : (n4 : Int) ≤ (c4 : Int) := by omega
        have hck : ¬ c4 = k := by omega
        go_wp2_with fail
        have HC5 : Hid (∀ i, i < k → w5.cell? ⟨q, i, none⟩ = some (.int .i64 ((l.take k).getD i 0))) := fun i hi => by
          obtain ⟨q2, o2, x, he, -, hx, hc⟩ := HO5.out.ints'.at i (by omega)
          injection he with he
          injection he with e1 e2
          subst e1 e2
          rw [Nat.zero_add] at hc
          rw [hc, hx]
          simp [List.getD_eq_getElem?_getD, List.getElem?_take, hi]
        have hqlt : Hid (∀ i, i < k → q < w5.heap.size) := fun i hi => cell_lt (HC5.out i hi)
        have HLn := Lib.hid HN4.out.symm
        refine wp_region_any (by kernel_rfl) ?_
        change wpAny _ _ _ _ _ _ _ (World.drew _)
        refine wpAny_take (i := 0) (v := ?v0) rfl (by kernel_rfl) (by kernel_rfl) (by kernel_rfl) (fun _ _ _ h => h) (Or.inl ⟨by rfl, ?hy0⟩) ?rest0
        case hy0 => (intro w; go_simp; try with_reducible rfl)
        (try simp only [Act.put, List.setIfInBounds_toArray, List.set_cons_zero, List.set_cons_succ])
        refine wpAny_take (i := 1) (v := ?v1) rfl (by kernel_rfl) (by kernel_rfl) (by kernel_rfl) (fun _ _ _ h => h) (Or.inl ⟨by rfl, ?hy1⟩) ?rest1
        case hy1 => (intro w; go_simp; try with_reducible rfl)
        (try simp only [Act.put, List.setIfInBounds_toArray, List.set_cons_zero, List.set_cons_succ])
        refine wpAny_take (i := 2) (v := ?v2) rfl (by kernel_rfl) (by kernel_rfl) (by kernel_rfl) (fun _ _ _ h => h) (Or.inl ⟨by rfl, ?hy2⟩) ?rest2
        case hy2 => (intro w; go_simp; try with_reducible rfl)
        (try simp only [Act.put, List.setIfInBounds_toArray, List.set_cons_zero, List.set_cons_succ])
        refine wpAny_take (i := 4) (v := ?v4) rfl (by kernel_rfl) (by kernel_rfl) (by kernel_rfl) (fun _ _ _ h => h) (Or.inl ⟨by rfl, ?hy4⟩) ?rest4
        case hy4 => (intro w; go_simp; try with_reducible rfl)
        (try simp only [Act.put, List.setIfInBounds_toArray, List.set_cons_zero, List.set_cons_succ])
        refine wpAny_take (i := 5) (v := ?v5) rfl (by kernel_rfl) (by kernel_rfl) (by kernel_rfl) (fun _ _ _ h => h) (Or.inl ⟨by rfl, ?hy5⟩) ?rest5
        case hy5 => (intro w; go_simp; try with_reducible rfl)
        (try simp only [Act.put, List.setIfInBounds_toArray, List.set_cons_zero, List.set_cons_succ])
        refine wpAny_take (i := 6) (v := ?v6) rfl (by kernel_rfl) (by kernel_rfl) (by kernel_rfl) (fun _ _ _ h => h) (Or.inl ⟨by rfl, ?hy6⟩) ?rest6
        case hy6 => (intro w; go_simp; try with_reducible rfl)
        (try simp only [Act.put, List.setIfInBounds_toArray, List.set_cons_zero, List.set_cons_succ])
        refine wpAny_ready (rs := [3]) (by kernel_rfl) (by simp) (AllReady.cons rfl (fun K hK => ?_) AllReady.nil)
        go_simp
        refine (sOwn _ _ _ (l.drop k) _ (HIk.out.below (Below.refl _ _).drew) (by omega) (by omega)).mono ?_
        rintro e w6 ⟨b6, c6, rfl, ho, hb⟩
        have HO6 := Lib.hid ho
        have HB6 := Lib.hid hb
        clear ho hb
        refine hK _ _ ?_
        clear hK K
        (try simp only [Act.put, List.setIfInBounds_toArray, List.set_cons_zero, List.set_cons_succ])
        refine wpAny_ready (rs := [7]) (by kernel_rfl) (by simp) (AllReady.cons rfl (fun K hK => ?_) AllReady.nil)
        refine step_appendN _ rfl _ _ rfl w5.heap.size _ (l.drop k) (l.take k) q (n4 - k) k _ (by simp [HLn.out]) (by simp [HLn.out]; omega) rfl HO6.out rfl (fun i hi => (HB6.out.cell (p := ⟨q, i, none⟩) (hqlt.out i hi)).trans (HC5.out i hi)) (by omega) HB6.out.size ?_
        intro b7 c7 w7 ho hb
        have HO7 := Lib.hid ho
        have HB7 := Lib.hid hb
        clear ho hb
        refine hK _ _ ?_
        clear hK K
        (try simp only [Act.put, List.setIfInBounds_toArray, List.set_cons_zero, List.set_cons_succ])
        refine wpAny_ready (rs := [8]) (by kernel_rfl) (by simp) (AllReady.cons rfl (fun K hK => ?_) AllReady.nil)
        go_simp
        refine hK _ _ ?_
        clear hK K
        (try simp only [Act.put, List.setIfInBounds_toArray, List.set_cons_zero, List.set_cons_succ])
        refine wpAny_done (by kernel_rfl) ?_ _
        all_goals
          have HB8 : Hid (Below w5.heap.size w5 w7) := ((Below.refl w5.heap.size w5).drew.trans HB6.out).trans HB7.out
          go_wp2
          go_ret
          exact ⟨_, _, _, _, rfl, HO7.out.mono hz5, HS5.out.then HB8.out HS5.out.lt, HT5.out.then (HB8.out.mono hz5) (Nat.le_of_lt hgs)⟩
    · obtain rfl : x = 0 := by omega
      have HR2 := Lib.hid (HO.out.thr HT2.out hB)
      go_wp2_with fail
      refine (drawNodes g n cap B a R _ HS2.out HR2.out hB hn).mono ?_
      rintro e w5 ⟨a5, n5, c5, l5, rfl, ho5, hs5, ht5⟩
      have HO5 := Lib.hid (ho5.mono HT2.out.below.size)
      have HS5 := Lib.hid hs5
      have HT5 := Lib.hid (HT2.out.trans ht5)
      clear ho5 hs5 ht5
      go_wp2
      go_ret
      exact ⟨_, _, _, l5, rfl, HO5.out, HS5.out, HT5.out⟩
  · simp only [Bool.not_eq_true] at hq
    have HQ := Lib.hid hq
    clear hq
    go_enter Tryz.func44, Tryz.ntmps44
    go_wp2_with fail
    refine (sSquare_b _ _ _ R _ false HQ.out HO.out.mat).mono ?_
    rintro e w' ⟨rfl, q, rfl⟩
    have HS1 : Hid (Src (w.drewN q) g) := HS.out.below ((b_draws w q).mono (by omega))
    have HT1 : Hid (Thr g w (w.drewN q)) := (Thr.refl g w).drewN q
    generalize w.drewN q = w1 at HS1 HT1
    have HR2 := Lib.hid (HO.out.thr HT1.out hB)
    go_wp2_with fail
    refine (drawNodes g n cap B a R _ HS1.out HR2.out hB hn).mono ?_
    rintro e w5 ⟨a5, n5, c5, l5, rfl, ho5, hs5, ht5⟩
    have HO5 := Lib.hid (ho5.mono HT1.out.below.size)
    have HS5 := Lib.hid hs5
    have HT5 := Lib.hid (HT1.out.trans ht5)
    clear ho5 hs5 ht5
    go_wp2
    go_ret
    exact ⟨_, _, _, l5, rfl, HO5.out, HS5.out, HT5.out⟩

end Go.Proofs.YtlljnfljcdljaabGreat.V
