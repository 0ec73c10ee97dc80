/- Texts laid together: Dcc. -/
import Derived.Test.YtlljnfljcdljaabGreatQz49
import Derived.Test.YtlljnfljcdljaabGreatQz51
import Derived.Test.YtlljnfljcdljaabGreatQz10
set_option linter.unusedSimpArgs false
set_option linter.unusedVariables false
set_option linter.unusedSectionVars false
namespace Go.Proofs.YtlljnfljcdljaabGreat
namespace M
theorem best_pos {R : List (List Int)} (h : (bestRes R).2 = 0) : 1 ≤ (bestRes R).1.length := by
  unfold bestRes at h ⊢
  by_cases h1 : sqB R = true
  · rw [if_pos h1] at h ⊢
    by_cases h2 : hasCyc (ent R) R.length = true
    · rw [if_pos h2]
      exact (best_cyc h1 h2).2.2.1
    · rw [if_neg h2] at h; simp at h
  · rw [if_neg h1] at h; simp at h
end M
namespace V
set_option maxRecDepth 100000
open Go.RowKit
set_option maxRecDepth 100000 in
set_option maxHeartbeats 4000000 in
theorem drawIsCriticalCycle (a : Option Addr) (n cap : Nat) (w : World) (h : Bytes w a n) :
    Calls Tryz.prog 18 #[.slice a n cap] w (DrawnMN w) := by
  have HB := Lib.hid h
  clear h
  go_enter Tryz.func18, Tryz.ntmps18
  go_wp2_with fail
  refine (from_ _ _ _ _ HB.out).mono ?_
  rintro e w1 ⟨rfl, hs1, hb1⟩
  have HS1 := Lib.hid hs1
  have HB1 := Lib.hid hb1
  have hg1 := hs1.lt
  clear hs1 hb1
  go_wp2_with fail
  refine (draw6 _ _ HS1.out).mono ?_
  rintro e w2 ⟨a2, n2, c2, R, rfl, hn2, ho, hs2, ht2⟩
  have HO2 := Lib.hid ho
  have HS2 := Lib.hid hs2
  have hg2 := hs2.lt
  have HB2 := Lib.hid (HB1.out.trans ht2.below)
  clear ho hs2 ht2 HS1 HB1
  obtain ⟨bv, hbv⟩ : ∃ v, v = M.bestRes R := ⟨_, rfl⟩
  have hpos := M.best_pos (R := R)
  have hlen := M.bestRes_len R
  rw [← hbv] at hpos hlen
  have HBV := Lib.hid hbv
  clear hbv
  obtain ⟨l, bc⟩ := bv
  have HPos := Lib.hid hpos
  have hl10 : l.length ≤ 10 := hlen
  clear hpos hlen
  go_wp2_with fail
  refine (sBestCycle _ _ _ R _ HO2.out.mat).mono ?_
  rintro e w3 ⟨b4, n4, c4, rfl, ho, hb⟩
  rw [← HBV.out] at ho ⊢
  have hn4 : n4 = l.length := ho.len
  have HN4 := Lib.hid hn4
  have hn10 : n4 ≤ 10 := by omega
  have HO3 := Lib.hid ho
  have HM3 := Lib.hid (HO2.out.below hb)
  have HS3 := Lib.hid (HS2.out.then hb hg2)
  have HB3 := Lib.hid (bnext HB2.out hb)
  have hz3 := hb.size
  clear ho hb HO2 HS2 HB2 hn4 hl10
  have hElse : Hid (∀ W, Src W w.heap.size → (∀ k, w2.heap.size ≤ k → True) → OwnM W w1.heap.size (.slice a2 n2 c2) R → Calls Tryz.prog 44 #[.pointer (some ⟨w.heap.size, 0, none⟩), .slice a2 n2 c2] W (DrawV w.heap.size W)) := fun W hW _ hO => drawCycle _ n2 _ _ _ R _ hW hO hg1 hn2
  by_cases hc : bc = 0
  · subst hc
    have hp1 : 1 ≤ n4 := by have := HPos.out rfl; rw [HN4.out]; exact this
    go_wp2_with fail
    refine (next _ 2 _ (by decide) HS3.out).mono ?_
    rintro e w4 ⟨x, rfl, hx1, -, hs4, ht4⟩
    have HO4 := Lib.hid (HO3.out.thr ht4 hg2)
    have HM4 := Lib.hid (HM3.out.thr ht4 hg1)
    have HS4 := Lib.hid hs4
    have HB4 := Lib.hid (HB3.out.trans ht4.below)
    clear hs4 ht4 HO3 HM3 HS3 HB3
    by_cases hx0 : x = 0
    · subst hx0
      go_wp2_with fail
      refine (hElse.out _ HS4.out (fun _ _ => trivial) HM4.out).mono ?_
      rintro e w6 ⟨a6, n6, c6, l6, rfl, ho6, hs6, ht6⟩
      have HI := Lib.hid ho6.ints'
      have HC := Lib.hid (caps_own ho6)
      have HM := Lib.hid (HM4.out.thr ht6 hg1).mat
      have HB6 := Lib.hid (HB4.out.trans ht6.below)
      clear ho6 hs6 ht6
      go_wp2
      go_ret2
      exact ⟨_, _, _, R, _, _, _, l6, rfl, HM.out, HI.out, HC.out.1, HC.out.2, HB6.out⟩
    · have e0 : (x == 0) = false := by simpa using hx0
      have hwn : (Lit.int .i64 (n4 : Int)).wf = true := wf_small _ (by omega) (by omega)
      have HWN := Lib.hid hwn
      clear hwn
      go_wp2_with fail
      refine (next _ (n4 : Int) _ HWN.out HS4.out).mono ?_
      rintro e w5 ⟨k, rfl, hk1, hk2, hs5, ht5⟩
      obtain ⟨k, rfl⟩ := Int.eq_ofNat_of_zero_le hk1
      have hk : k < n4 := by omega
      have ho5 : Own w5 w2.heap.size (.slice b4 n4 c4) l := HO4.out.thr ht5 hg2
      obtain ⟨q, rfl, hq⟩ := own_head ho5 (by rw [← HN4.out]; omega)
      have HO5 := Lib.hid ho5
      have HM5 := Lib.hid (HM4.out.thr ht5 hg1)
      have HB5 := Lib.hid (HB4.out.trans ht5.below)
      have hcap := (caps_own ho5).1
      clear ho5 hs5 ht5 HO4 HM4 HB4 hk2 hk1
      have HIk := Lib.hid (HO5.out.ints'.drop k hk)
      have hki1 : (0 : Int) ≤ (k : Int) := by omega
      have hki2 : (k : Int) ≤ (n4 : Int) := by omega
      have hki3 : (k : Int) ≤ (c4 : Int) := by omega
      have hki4 : (n4 : Int) ≤ (c4 : Int) := by omega
      have hck : ¬ c4 = k := by omega
      go_wp2_with fail
      have HC5 : Hid (∀ i, i < k → w5.cell? ⟨q, i, none⟩ = some (.int .i64 ((l.take k).getD i 0))) := fun i hi => by
        obtain ⟨q2, o2, x, he, -, hx, hc⟩ := HO5.out.ints'.at i (by omega)
        injection he with he
        injection he with e1 e2
        subst e1 e2
        rw [Nat.zero_add] at hc
        rw [hc, hx]
        simp [List.getD_eq_getElem?_getD, List.getElem?_take, hi]
      have hqlt : Hid (∀ i, i < k → q < w5.heap.size) := fun i hi => cell_lt (HC5.out i hi)
      have HLn := Lib.hid HN4.out.symm
      refine wp_region_any (by kernel_rfl) ?_
      change wpAny _ _ _ _ _ _ _ (World.drew _)
      refine wpAny_take (i := 0) (v := ?v0) rfl (by kernel_rfl) (by kernel_rfl) (by kernel_rfl) (fun _ _ _ h => h) (Or.inl ⟨by rfl, ?hy0⟩) ?rest0
      case hy0 => (intro w; go_simp; try with_reducible rfl)
      (try simp only [Act.put, List.setIfInBounds_toArray, List.set_cons_zero, List.set_cons_succ])
      refine wpAny_take (i := 1) (v := ?v1) rfl (by kernel_rfl) (by kernel_rfl) (by kernel_rfl) (fun _ _ _ h => h) (Or.inl ⟨by rfl, ?hy1⟩) ?rest1
      case hy1 => (intro w; go_simp; try with_reducible rfl)
      (try simp only [Act.put, List.setIfInBounds_toArray, List.set_cons_zero, List.set_cons_succ])
      refine wpAny_take (i := 2) (v := ?v2) rfl (by kernel_rfl) (by kernel_rfl) (by kernel_rfl) (fun _ _ _ h => h) (Or.inl ⟨by rfl, ?hy2⟩) ?rest2
      case hy2 => (intro w; go_simp; try with_reducible rfl)
      (try simp only [Act.put, List.setIfInBounds_toArray, List.set_cons_zero, List.set_cons_succ])
      refine wpAny_take (i := 3) (v := ?v3) rfl (by kernel_rfl) (by kernel_rfl) (by kernel_rfl) (fun _ _ _ h => h) (Or.inl ⟨by rfl, ?hy3⟩) ?rest3
      case hy3 => (intro w; go_simp; try with_reducible rfl)
      (try simp only [Act.put, List.setIfInBounds_toArray, List.set_cons_zero, List.set_cons_succ])
      refine wpAny_take (i := 5) (v := ?v5) rfl (by kernel_rfl) (by kernel_rfl) (by kernel_rfl) (fun _ _ _ h => h) (Or.inl ⟨by rfl, ?hy5⟩) ?rest5
      case hy5 => (intro w; go_simp; try with_reducible rfl)
      (try simp only [Act.put, List.setIfInBounds_toArray, List.set_cons_zero, List.set_cons_succ])
      refine wpAny_take (i := 6) (v := ?v6) rfl (by kernel_rfl) (by kernel_rfl) (by kernel_rfl) (fun _ _ _ h => h) (Or.inl ⟨by rfl, ?hy6⟩) ?rest6
      case hy6 => (intro w; go_simp; try with_reducible rfl)
      (try simp only [Act.put, List.setIfInBounds_toArray, List.set_cons_zero, List.set_cons_succ])
      refine wpAny_take (i := 7) (v := ?v7) rfl (by kernel_rfl) (by kernel_rfl) (by kernel_rfl) (fun _ _ _ h => h) (Or.inl ⟨by rfl, ?hy7⟩) ?rest7
      case hy7 => (intro w; go_simp; try with_reducible rfl)
      (try simp only [Act.put, List.setIfInBounds_toArray, List.set_cons_zero, List.set_cons_succ])
      refine wpAny_ready (rs := [4]) (by kernel_rfl) (by simp) (AllReady.cons rfl (fun K hK => ?_) AllReady.nil)
      go_simp
      refine (sOwn _ _ _ (l.drop k) _ (HIk.out.below (Below.refl _ _).drew) (by omega) (by omega)).mono ?_
      rintro e w6 ⟨b6, c6, rfl, ho, hb⟩
      have HO6 := Lib.hid ho
      have HB6 := Lib.hid hb
      clear ho hb
      refine hK _ _ ?_
      clear hK K
      (try simp only [Act.put, List.setIfInBounds_toArray, List.set_cons_zero, List.set_cons_succ])
      refine wpAny_ready (rs := [8]) (by kernel_rfl) (by simp) (AllReady.cons rfl (fun K hK => ?_) AllReady.nil)
      refine step_appendN _ rfl _ _ rfl w5.heap.size _ (l.drop k) (l.take k) q (n4 - k) k _ (by simp [HLn.out]) (by simp [HLn.out]; omega) rfl HO6.out rfl (fun i hi => (HB6.out.cell (p := ⟨q, i, none⟩) (hqlt.out i hi)).trans (HC5.out i hi)) (by omega) HB6.out.size ?_
      intro b7 c7 w7 ho hb
      have HO7 := Lib.hid ho
      have HB7 := Lib.hid hb
      clear ho hb
      refine hK _ _ ?_
      clear hK K
      (try simp only [Act.put, List.setIfInBounds_toArray, List.set_cons_zero, List.set_cons_succ])
      refine wpAny_ready (rs := [9]) (by kernel_rfl) (by simp) (AllReady.cons rfl (fun K hK => ?_) AllReady.nil)
      go_simp
      refine hK _ _ ?_
      clear hK K
      (try simp only [Act.put, List.setIfInBounds_toArray, List.set_cons_zero, List.set_cons_succ])
      refine wpAny_ready (rs := [10]) (by kernel_rfl) (by simp) (AllReady.cons rfl (fun K hK => ?_) AllReady.nil)
      go_simp
      refine hK _ _ ?_
      clear hK K
      (try simp only [Act.put, List.setIfInBounds_toArray, List.set_cons_zero, List.set_cons_succ])
      refine wpAny_done (by kernel_rfl) ?_ _
      all_goals
        have HB8 : Hid (Below w5.heap.size w5 w7) := ((Below.refl w5.heap.size w5).drew.trans HB6.out).trans HB7.out
        have HM := Lib.hid (HM5.out.below HB8.out).mat
        have HI := Lib.hid HO7.out.ints'
        have HC := Lib.hid (caps_own HO7.out)
        have HB9 := Lib.hid (bnext HB5.out HB8.out)
        go_wp2
        go_ret2
        exact ⟨_, _, _, R, _, _, _, _, rfl, HM.out, HI.out, HC.out.1, HC.out.2, HB9.out⟩
  · have hc1 : (bc != 0) = true := by simpa using hc
    go_wp2_with fail
    refine (hElse.out _ HS3.out (fun _ _ => trivial) HM3.out).mono ?_
    rintro e w6 ⟨a6, n6, c6, l6, rfl, ho6, hs6, ht6⟩
    have HI := Lib.hid ho6.ints'
    have HC := Lib.hid (caps_own ho6)
    have HM := Lib.hid (HM3.out.thr ht6 hg1).mat
    have HB6 := Lib.hid (HB3.out.trans ht6.below)
    clear ho6 hs6 ht6
    go_wp2
    go_ret2
    exact ⟨_, _, _, R, _, _, _, l6, rfl, HM.out, HI.out, HC.out.1, HC.out.2, HB6.out⟩
end V
end Go.Proofs.YtlljnfljcdljaabGreat
