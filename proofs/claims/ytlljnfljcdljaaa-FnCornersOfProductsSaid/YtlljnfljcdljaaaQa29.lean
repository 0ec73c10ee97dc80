/- Texts laid together: Pdr. -/
import Derived.Test.YtlljnfljcdljaaaQa18
import Derived.Test.YtlljnfljcdljaaaQa28
set_option linter.unusedSimpArgs false
set_option linter.unusedVariables false
set_option linter.unusedSectionVars false
namespace Go.Proofs.Ytlljnfljcdljaaa
namespace V
set_option maxRecDepth 100000
open Go.RowKit
theorem own_one (w : World) (B : Nat) (x : Int) (hB : B ≤ w.heap.size) : Own (w.alloc (.cells #[.int .i64 x] 2)) B (.slice (some ⟨w.heap.size, 0, none⟩) 1 1) [x] :=
  World.ownsRow_lit w #[.int .i64 x] 1 hB (by decide) rfl
set_option maxRecDepth 100000 in
set_option maxHeartbeats 4000000 in
theorem draw9 (g : Nat) (w : World) (h : Src w g) :
    Calls Try.prog 58 #[.pointer (some ⟨g, 0, none⟩)] w (DrawV g w) := by
  have hgs := h.lt
  have HJ0 : Hid (DL g w.heap.size (.slice (some ⟨w.heap.size, 0, none⟩) 0 0) [] w (w.alloc (.cells #[] 2))) :=
    ⟨own_lit0 w _ (Nat.le_refl _), h.alloc _, (Thr.refl _ _).alloc (Nat.le_of_lt hgs) _⟩
  clear h
  go_enter Try.func58, Try.ntmps58
  go_wp2_with fail
  refine (next g 6 _ (by decide) HJ0.out.2.1).mono ?_
  rintro e w0 ⟨x0, rfl, hx1, hx2, hs1, ht1⟩
  have HJ1 := Lib.hid (HJ0.out.next hgs hs1 ht1)
  clear hs1 ht1 HJ0
  have hx6 : x0 < 6 := by omega
  obtain ⟨N, hN1, hN2, hN⟩ : ∃ N : Nat, 1 ≤ N ∧ N ≤ 6 ∧ 1 + x0 = (N : Int) := ⟨(1 + x0).toNat, by omega, by omega, by omega⟩
  have HN := Lib.hid hN
  clear hN hx2
  go_wp2
  go_loopw [3, 4] (fun out i wr => ∃ (j t : Nat) (y : Int) (l : List Int) (b : Option Addr) (c : Nat), j + t = N ∧ i = .int .i64 y ∧ Hid (y = (j : Int)) ∧ out = .slice b t c ∧ Hid (DL g w.heap.size (.slice b t c) l w wr)) (fun _ i _ => (intOf i).toNat)
  case atStart => exact ⟨N, 0, _, [], _, _, by omega, rfl, HN.out, rfl, HJ1⟩
  case round =>
    obtain ⟨j, t, yj, l, b, c, hjt, rfl, HYj, rfl, HJ⟩ := hrel
    clear HJ1
    have hj6 : j ≤ 6 := by omega
    have ht6 : t ≤ 6 := by omega
    by_cases hj : 0 < j
    · have hji : yj > 0 := by have := HYj.out; omega
      have hyj6 : yj ≤ 6 := by have := HYj.out; omega
      go_wp2_with fail
      refine (next g 21 _ (by decide) HJ.out.2.1).mono ?_
      rintro e w1 ⟨x, rfl, hx1, hx2, hs1, ht1⟩
      have hx3 : x < 21 := by omega
      have HJ1 := Lib.hid (HJ.out.next hgs hs1 ht1)
      have hz1 : w.heap.size ≤ w1.heap.size := HJ1.out.2.2.below.size
      have hlen := HJ1.out.1.len
      have HLn := Lib.hid hlen
      clear hs1 ht1 hx2 HJ hlen
      go_wp2_with (at_builtin; refine append1 _ rfl (.tmp 13) (.tmp 17) rfl w.heap.size _ _ _ t HJ1.out.1.len.symm rfl HJ1.out.1 rfl (by rw [← HLn.out]; omega) hz1 ?_)
      intro b2 c2 w2 hO2 hb2 _
      have HJ2 := Lib.hid (HJ1.out.app hgs hO2 hb2)
      clear hO2 hb2 HJ1
      go_wp2_with fail
      refine (next g 5 _ (by decide) HJ2.out.2.1).mono ?_
      rintro e w3 ⟨y, rfl, hy1, -, hs3, ht3⟩
      have HJ3 := Lib.hid (HJ2.out.next hgs hs3 ht3)
      clear hs3 ht3 HJ2
      by_cases hy : y = 0
      · subst hy
        obtain ⟨b3, c3, hv3, -, -, hg3⟩ := own_form HJ3.out.1
        injection hv3 with e1 e2 e3
        subst e1 e3
        rw [← e2] at hg3
        obtain ⟨q, rfl, hq, -⟩ := hg3 (by omega)
        have hcl := HJ3.out.1.cellAt t (by omega)
        have hfz := HJ3.out.1.frozenAt t
        have hN := HJ3.out.1.set t (-1000000000000000)
        have HJ4 := Lib.hid (HJ3.out.app hgs hN ((Below.refl _ _).setCell (p := ⟨q, t, none⟩) hq _))
        obtain ⟨x5, hx5⟩ : ∃ x5, x5 = (l ++ [x - 10]).getD t 0 := ⟨_, rfl⟩
        rw [← hx5] at hcl
        clear hN e2 hx5
        go_wp2
        go_roundw
        case rel => exact ⟨j - 1, t + 1, _, _, _, _, by omega, rfl, by show _ = _; have := HYj.out; omega, rfl, HJ4⟩
        case measure => have := HYj.out; simp [intOf]; omega
      · have ey : (y == 0) = false := by simpa using hy
        go_wp2
        go_roundw
        case rel => exact ⟨j - 1, t + 1, _, _, _, _, by omega, rfl, by show _ = _; have := HYj.out; omega, rfl, HJ3⟩
        case measure => have := HYj.out; simp [intOf]; omega
    · obtain rfl : j = 0 := by omega
      have hj0 : yj = 0 := by have := HYj.out; omega
      subst hj0
      go_wp2_with fail
      refine (next g 60 _ (by decide) HJ.out.2.1).mono ?_
      rintro e w1 ⟨x, rfl, hx1, -, hs1, ht1⟩
      have HJ1 := Lib.hid (HJ.out.next hgs hs1 ht1)
      clear hs1 ht1 HJ
      by_cases hx0 : x = 0
      · subst hx0
        go_wp2
        go_ret
        exact ⟨_, _, _, _, rfl, own_one _ _ _ HJ1.out.2.2.below.size, HJ1.out.2.1.alloc _, HJ1.out.2.2.alloc (by have := HJ1.out.2.2.below.size; omega) _⟩
      · have e0 : (x == 0) = false := by simpa using hx0
        by_cases hx1' : x = 1
        · subst hx1'
          go_wp2_with fail
          refine (next g 2 _ (by decide) HJ1.out.2.1).mono ?_
          rintro e w2 ⟨z, rfl, hz1, hz2, hs2, ht2⟩
          obtain ⟨z, rfl⟩ := Int.eq_ofNat_of_zero_le hz1
          have hz3 : z < 2 := by omega
          have HJ2 := Lib.hid (HJ1.out.next hgs hs2 ht2)
          have ez : (12 : Int) + (z : Int) = ((12 + z : Nat) : Int) := by omega
          have hmk := run_make_row' (P := Try.prog) 24 2 (.int .i64 0) 8 Try.underlying24 info64 rfl .i64 .i64 (12 + z) (by omega) (by omega)
          have HC := Lib.hid ez
          have HM := Lib.hid hmk
          clear hs2 ht2 HJ1 hz1 hz2 ez hmk
          go_wp2_with fail
          rw [HC.out, HM.out]
          go_wp2
          go_ret
          exact ⟨_, _, _, _, rfl, own_made _ _ _ HJ2.out.2.2.below.size (by unfold maxLen; omega), HJ2.out.2.1.alloc _, HJ2.out.2.2.alloc (by have := HJ2.out.2.2.below.size; omega) _⟩
        · have e1 : (x == 1) = false := by simpa using hx1'
          by_cases hx2 : x = 2
          · subst hx2
            go_wp2_with fail
            refine (drawValue g _ HJ1.out.2.1).mono ?_
            rintro e w2 ⟨z, rfl, hz, hs2, ht2⟩
            have HJ2 := Lib.hid (HJ1.out.next hgs hs2 ht2)
            clear hs2 ht2 HJ1
            obtain ⟨b3, c3, hv3, -, -, hg3⟩ := own_form HJ2.out.1
            injection hv3 with e1 e2 e3
            subst e1 e3
            rw [← e2] at hg3
            obtain ⟨q, rfl, hq, -⟩ := hg3 (by omega)
            have hcl := HJ2.out.1.cellAt 0 (by omega)
            have hfz := HJ2.out.1.frozenAt 0
            have hN := HJ2.out.1.set 0 z
            have HJ4 := Lib.hid (HJ2.out.app hgs hN ((Below.refl _ _).setCell (p := ⟨q, 0, none⟩) hq _))
            have ht0 : (0 : Int) < (t : Int) := by omega
            clear hN e2
            go_wp2
            go_ret
            exact ⟨_, _, _, _, rfl, HJ4.out.1, HJ4.out.2.1, HJ4.out.2.2⟩
          · have e2 : (x == 2) = false := by simpa using hx2
            go_wp2
            go_ret
            exact ⟨_, _, _, _, rfl, HJ1.out.1, HJ1.out.2.1, HJ1.out.2.2⟩
/-- Two drawn polynomials, as a law is handed them. -/
def Drawn2 (g : Nat) (w : World) (e : Ending) (w' : World) : Prop :=
  ∃ (a : Option Addr) (n cap : Nat) (l : List Int) (a' : Option Addr) (n' cap' : Nat) (l' : List Int), e = .returned (.tuple #[.slice a n cap, .slice a' n' cap']) ∧ Own w' w.heap.size (.slice a n cap) l ∧ Own w' w.heap.size (.slice a' n' cap') l' ∧ Src w' g ∧ Thr g w w'
set_option maxRecDepth 100000 in
set_option maxHeartbeats 4000000 in
theorem drawTwo9 (g : Nat) (w : World) (h : Src w g) :
    Calls Try.prog 48 #[.pointer (some ⟨g, 0, none⟩)] w (Drawn2 g w) := by
  have hgs := h.lt
  have HS0 := Lib.hid h
  clear h
  go_enter Try.func48, Try.ntmps48
  go_wp2_with fail
  refine (draw9 g _ HS0.out).mono ?_
  rintro e w1 ⟨a, n, cap, l, rfl, ho1, hs1, ht1⟩
  have hz1 := ht1.below.size
  have HO1 := Lib.hid ho1
  have HS1 := Lib.hid hs1
  have HT1 := Lib.hid ht1
  clear ho1 hs1 ht1 HS0
  go_wp2_with fail
  refine (next g 3 _ (by decide) HS1.out).mono ?_
  rintro e w2 ⟨x, rfl, hx1, -, hs2, ht2⟩
  have HO2 := Lib.hid (HO1.out.thr ht2 hgs)
  have HS2 := Lib.hid hs2
  have HT2 := Lib.hid (HT1.out.trans ht2)
  have hz2 : w.heap.size ≤ w2.heap.size := HT2.out.below.size
  clear hs2 ht2 HO1 HS1 HT1
  have HElse : Hid (∀ W, Src W g → Calls Try.prog 58 #[.pointer (some ⟨g, 0, none⟩)] W (DrawV g W)) := fun W hW => draw9 g W hW
  by_cases hx : x = 0
  · subst hx
    obtain ⟨v1, hv1⟩ : ∃ v, v = M.isPoly l := ⟨_, rfl⟩
    have HV1 := Lib.hid hv1.symm
    clear hv1
    cases v1 with
    | false =>
      go_wp2_with fail
      refine (sIsPolynomial_b _ _ _ l _ false HV1.out HO2.out.ints').mono ?_
      rintro e w3 ⟨rfl, rfl⟩
      go_wp2_with fail
      refine (HElse.out _ HS2.out).mono ?_
      rintro e w4 ⟨b, m, mc, l4, rfl, ho4, hs4, ht4⟩
      have HO4 := Lib.hid (HO2.out.thr ht4 hgs)
      have HP4 := Lib.hid (ho4.mono hz2)
      have HT4 := Lib.hid (HT2.out.trans ht4)
      have HS4 := Lib.hid hs4
      clear ho4 hs4 ht4
      go_wp2
      go_ret2
      exact ⟨_, _, _, _, _, _, _, _, rfl, HO4.out, HP4.out, HS4.out, HT4.out⟩
    | true =>
      go_wp2_with fail
      refine (sIsPolynomial_b _ _ _ l _ true HV1.out HO2.out.ints').mono ?_
      rintro e w3 ⟨rfl, rfl⟩
      have hn := M.isPoly_t HV1.out
      obtain ⟨n1, n2, -, -⟩ := hn
      have hnl := HO2.out.len
      rw [← hnl] at n1 n2
      have HNL := Lib.hid hnl
      clear hnl
      go_wp2_with fail
      refine (sFullPolynomial_ok _ _ _ l _ HO2.out.ints' HV1.out).mono ?_
      rintro e w4 ⟨b, mc, rfl, ho4, hb4⟩
      have HO4 := Lib.hid (HO2.out.below hb4)
      have HP4 := Lib.hid ho4
      have HLt : Hid (∀ k, (Value.slice a n cap).ownBlock = some k → k < w2.heap.size) := fun k hk => (own_lt HO2.out hk).2
      have hg2 : g < w2.heap.size := by omega
      have HT4 := Lib.hid (HT2.out.then (hb4.mono hz2) (Nat.le_of_lt hgs))
      have HS4 := Lib.hid (HS2.out.then hb4 (by omega))
      clear ho4 hb4 HO2 HT2 HS2
      go_wp2_with fail
      refine (next g 4 _ (by decide) HS4.out).mono ?_
      rintro e w5 ⟨y, rfl, hy1, -, hs5, ht5⟩
      have HO5 := Lib.hid (HO4.out.thr ht5 hgs)
      have HP5 := Lib.hid (HP4.out.thr ht5 hg2)
      have HS5 := Lib.hid hs5
      have HT5 := Lib.hid (HT4.out.trans ht5)
      clear hs5 ht5 HO4 HP4 HS4 HT4
      by_cases hy : y = 0
      · subst hy
        go_wp2_with fail
        refine (next g n _ (wf_small _ (by omega) (by omega)) HS5.out).mono ?_
        rintro e w6 ⟨z, rfl, hz1', hz2', hs6, ht6⟩
        have HO6 := Lib.hid (HO5.out.thr ht6 hgs)
        have HP6 := Lib.hid (HP5.out.thr ht6 hg2)
        have HS6 := Lib.hid hs6
        have HT6 := Lib.hid (HT5.out.trans ht6)
        clear hs6 ht6 HO5 HP5 HS5 HT5
        go_wp2_with fail
        refine (next g 21 _ (by decide) HS6.out).mono ?_
        rintro e w7 ⟨u, rfl, hu1, hu2, hs7, ht7⟩
        have hu3 : u < 21 := by omega
        have HO7 := Lib.hid (HO6.out.thr ht7 hgs)
        have HP7 := Lib.hid (HP6.out.thr ht7 hg2)
        have HS7 := Lib.hid hs7
        have HT7 := Lib.hid (HT6.out.trans ht7)
        clear hs7 ht7 HO6 HP6 HS6 HT6 hu2
        obtain ⟨z, rfl⟩ := Int.eq_ofNat_of_zero_le hz1'
        have hzn : z < n := by omega
        have hzi : (z : Int) < (n : Int) := by omega
        obtain ⟨q, rfl, hq, -⟩ := own_addr HP7.out (by omega)
        have hcl := HP7.out.cellAt z hzn
        have hfz := HP7.out.frozenAt z
        have HP8 := Lib.hid ((HP7.out.set z (u - 10)).mono hz2)
        have HO8 : Hid (Own (w7.setCell ⟨q, z, none⟩ (.int .i64 (u - 10))) w.heap.size (.slice a n cap) l) := ownsRow_keep HO7.out fun k hk => Below.heap_setCell _ _ _ _ (by have := HLt.out k hk; show k ≠ q; omega)
        have HS8 := Lib.hid (HS7.out.then ((Below.refl w2.heap.size _).setCell (p := ⟨q, z, none⟩) hq (.int .i64 (u - 10))) hg2)
        have HT8 := Lib.hid (HT7.out.then ((Below.refl w.heap.size _).setCell (p := ⟨q, z, none⟩) (by show _ ≤ q; omega) (.int .i64 (u - 10))) (Nat.le_of_lt hgs))
        obtain ⟨x5, hx5⟩ : ∃ x5, x5 = (M.fullL l).getD z 0 := ⟨_, rfl⟩
        rw [← hx5] at hcl
        clear hx5 hz1' hz2' hzn
        go_wp2
        go_ret2
        exact ⟨_, _, _, _, _, _, _, _, rfl, HO8.out, HP8.out, HS8.out, HT8.out⟩
      · have e0 : (y == 0) = false := by simpa using hy
        go_wp2
        go_ret2
        exact ⟨_, _, _, _, _, _, _, _, rfl, HO5.out, HP5.out.mono hz2, HS5.out, HT5.out⟩
  · have e0 : (x == 0) = false := by simpa using hx
    go_wp2_with fail
    refine (HElse.out _ HS2.out).mono ?_
    rintro e w4 ⟨b, m, mc, l4, rfl, ho4, hs4, ht4⟩
    have HO4 := Lib.hid (HO2.out.thr ht4 hgs)
    have HP4 := Lib.hid (ho4.mono hz2)
    have HT4 := Lib.hid (HT2.out.trans ht4)
    have HS4 := Lib.hid hs4
    clear ho4 hs4 ht4
    go_wp2
    go_ret2
    exact ⟨_, _, _, _, _, _, _, _, rfl, HO4.out, HP4.out, HS4.out, HT4.out⟩
end V
end Go.Proofs.Ytlljnfljcdljaaa
