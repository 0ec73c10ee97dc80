/- Texts laid together: Cic. -/
import Derived.Test.YtlljnfljcdljaabGreatQz14
import Derived.Test.YtlljnfljcdljaabGreatQz11
set_option linter.unusedSimpArgs false
set_option linter.unusedVariables false
set_option linter.unusedSectionVars false
namespace Go.Proofs.YtlljnfljcdljaabGreat.V
set_option maxRecDepth 100000
open Go.RowKit Go.Maps
theorem retBI {b b' : Bool} {c c' : Int} (h : b = b') (hc : c = c') : Ending.returned (.tuple #[.bool b, .int .i64 c]) = .returned (.tuple #[.bool b', .int .i64 c']) := by subst h hc; rfl
def CPostB (r : Bool × Int) (w : World) (e : Ending) (w' : World) : Prop := e = .returned (.tuple #[.bool r.1, .int .i64 r.2]) ∧ Below w.heap.size w w'
set_option maxRecDepth 100000 in
set_option maxHeartbeats 2000000 in
theorem sIsCriticalCycle (a : Option Addr) (n cap : Nat) (R : List (List Int)) (a' : Option Addr) (N cap' : Nat) (l : List Int) (w : World) (h : Mat w a n R) (h' : Ints .i64 w a' N l) (hc1 : N ≤ cap') (hc2 : cap' ≤ maxLen) :
    Calls Tryz.prog 20 #[.slice a n cap, .slice a' N cap'] w (CPostB (M.isCritRes R l) w) := by
  have HA := Lib.hid h
  have HI := Lib.hid h'
  have HM := Lib.hid hc2
  have hRn : R.length = n := h.1
  by_cases hc : M.crCode R = 0
  · obtain ⟨h1, h2⟩ := M.cr_code hc
    have HS := Lib.hid h1
    have HK := Lib.hid hc
    have hbc := M.best_cyc h1 h2
    have hC : M.mean2 R (M.best2 R) = (M.bestR (M.ent R) R.length, true) := by
      unfold M.best2
      rw [h2, if_pos rfl]
      unfold M.mean2
      rw [if_pos hbc.1, hbc.2.1]
    obtain ⟨c, hcy⟩ : ∃ c, c = M.cycB R l := ⟨_, rfl⟩
    have hE : M.isCritRes R l = (c && decide (M.meanR (M.aroundW R l) l.length = M.bestR (M.ent R) R.length), 0) := by
      unfold M.isCritRes
      rw [if_pos hc, ← hcy]
      cases c with
      | false => rfl
      | true => rw [M.crit_cyc h1 h2 hcy.symm]
    have hmn : M.mean2 R l = if c then (M.meanR (M.aroundW R l) l.length, true) else ((0, 0), false) := by
      unfold M.mean2; rw [← hcy]
    generalize M.meanR (M.aroundW R l) l.length = m at *
    generalize M.bestR (M.ent R) R.length = r at *
    have HC := Lib.hid hC
    have HMn := Lib.hid hmn
    have HE := Lib.hid hE
    obtain ⟨r1, r2⟩ := r
    obtain ⟨m1, m2⟩ := m
    clear h h' hc2 hc h1 h2 hbc hC hcy hE hmn hRn
    go_enter Tryz.func20, Tryz.ntmps20
    go_wp2_with fail
    refine (sCode _ _ _ R _ HA.out).mono ?_
    rintro e w1 ⟨rfl, hb⟩
    rw [HK.out]
    have HB1 := Lib.hid hb
    clear hb
    go_wp2_with fail
    refine (sBest _ _ _ R _ (HA.out.below HB1.out) HS.out).mono ?_
    rintro e w2 ⟨b2, n2', c2, rfl, ho, hb⟩
    have HO2 := Lib.hid ho
    have HB2 := Lib.hid (HB1.out.trans (hb.mono HB1.out.size))
    have HCp := Lib.hid (own_caps ho)
    clear ho hb
    go_wp2_with fail
    refine (sMean _ _ _ R _ _ _ (M.best2 R) _ (HA.out.below HB2.out) HS.out HO2.out.ints' HCp.out.1 HCp.out.2).mono ?_
    rintro e w3 ⟨rfl, hb⟩
    rw [HC.out]
    have HB3 := Lib.hid (HB2.out.trans (hb.mono HB2.out.size))
    clear hb HO2 HCp
    obtain ⟨wb, hwb⟩ : ∃ x, x = w3.alloc (rbox r1 r2) := ⟨_, rfl⟩
    have HX : Hid (Boxed w3 wb r1 r2) := by show Boxed _ _ _ _; rw [hwb]; exact boxed _ _ _
    have HBx := Lib.hid (HB3.out.trans (HX.out.below.mono HB3.out.size))
    go_wp2_with fail
    change Calls _ _ _ (w3.alloc (rbox r1 r2)) _
    rw [← hwb]
    clear hwb
    refine (sMean _ _ _ R _ _ _ l _ (HA.out.below HBx.out) HS.out (HI.out.below HBx.out) hc1 HM.out).mono ?_
    rintro e w4 ⟨rfl, hb⟩
    rw [HMn.out]
    obtain ⟨p0, p1⟩ := HX.out.cells hb
    have hlt : w3.heap.size < w4.heap.size := by have := hb.size; have := HX.out.size; omega
    have HB4 := Lib.hid (HBx.out.trans (hb.mono HBx.out.size))
    clear hb
    cases c with
    | false =>
      go_wp2
      go_ret2
      exact ⟨by rw [HE.out]; rfl, by first | exact HB4.out.alloc HB4.out.size _ | exact HB4.out⟩
    | true =>
      have HE2 : Hid ((m1 == r1 && m2 == r2) = decide ((m1, m2) = (r1, r2))) := by
        show _ = _
        rw [Bool.eq_iff_iff, Bool.and_eq_true, decide_eq_true_eq, beq_iff_eq, beq_iff_eq, Prod.mk.injEq]
      go_wp2
      all_goals
        go_ret2
        refine ⟨by rw [HE.out]; refine retBI ?_ rfl; rw [Bool.true_and, ← HE2.out]; try simp_all, by first | exact HB4.out.alloc HB4.out.size _ | exact HB4.out⟩
  · obtain ⟨k, hk⟩ : ∃ k, k = M.crCode R := ⟨_, rfl⟩
    have HE : Hid (M.isCritRes R l = (false, k)) := by show _ = _; unfold M.isCritRes; rw [if_neg hc, hk]
    have HK := Lib.hid hk
    have hk0 : (k != 0) = true := by rw [hk]; simpa using hc
    clear h h' hc2 hc hRn hk
    go_enter Tryz.func20, Tryz.ntmps20
    go_wp2_with fail
    refine (sCode _ _ _ R _ HA.out).mono ?_
    rintro e w1 ⟨rfl, hb⟩
    rw [← HK.out]
    have HB := Lib.hid hb
    clear hb
    go_wp2
    go_ret2
    exact ⟨by rw [HE.out]; rfl, HB.out⟩
set_option maxRecDepth 100000 in
set_option maxHeartbeats 4000000 in
theorem isCriticalCycle (a : Option Addr) (n cap : Nat) (R : List (List Int)) (a' : Option Addr) (N cap' : Nat) (l : List Int) (w : World) (h : Mat w a n R) (h' : Ints .i64 w a' N l) (hc1 : N ≤ cap') (hc2 : cap' ≤ maxLen) :
    Calls Tryz.prog 19 #[.slice a n cap, .slice a' N cap'] w (CPostB (M.isCritRes R l) w) := by
  have HA := Lib.hid h
  have HI := Lib.hid h'
  have HM := Lib.hid hc2
  have hRn : R.length = n := h.1
  by_cases hc : M.crCode R = 0
  · obtain ⟨h1, h2⟩ := M.cr_code hc
    have H1 := Lib.hid h1
    have H2 := Lib.hid h2
    obtain ⟨-, n1, n2, -⟩ := sq_parts h h1
    obtain ⟨c, hcy⟩ : ∃ c, c = M.cycB R l := ⟨_, rfl⟩
    have HIC : Hid (M.isCycB R l = c) := by show _ = _; unfold M.isCycB; rw [h1, ← hcy]; rfl
    have hE : M.isCritRes R l = (c && M.crAll R l, 0) := by unfold M.isCritRes; rw [if_pos hc, ← hcy]
    cases c with
    | false =>
      have HE := Lib.hid hE
      clear h h' hc2 hc h1 h2 hcy hE hRn
      go_enter Tryz.func19, Tryz.ntmps19
      go_wp2_with fail
      refine (criticalArcs _ _ _ R _ HA.out H1.out H2.out).mono ?_
      rintro e w1 ⟨b1, m1, rfl, -, -, hI, hb⟩
      have HB1 := Lib.hid hb
      clear hI hb
      go_wp2_with fail
      refine (isCycle_b _ _ _ R _ _ _ l _ false HIC.out (HA.out.below HB1.out) (HI.out.below HB1.out) hc1 HM.out).mono ?_
      rintro e w2 ⟨rfl, hb⟩
      have HB2 := Lib.hid (HB1.out.trans (hb.mono HB1.out.size))
      clear hb
      go_wp2
      go_ret2
      exact ⟨by rw [HE.out]; rfl, HB2.out⟩
    | true =>
      obtain ⟨l1, hn, hdf, -⟩ := M.crCycB_t hcy.symm
      have l2 := M.diffB_len hn hdf
      have hlN : l.length = N := h'.1
      rw [hRn] at hn l2
      obtain ⟨m, rfl⟩ : ∃ m, N = m + 1 := ⟨N - 1, by omega⟩
      have HV : Hid (∀ k, k < m + 1 → M.vx l k < n ∧ l.getD k 0 = (M.vx l k : Int)) := fun k hk => by
        have h1 := M.vx_lt hn (k := k) (by omega)
        have h2 := M.nodesB_at hn (k := k) (by omega)
        exact ⟨h1, by unfold M.vx; omega⟩
      rw [M.crAll_split hlN] at hE
      have HE := Lib.hid hE
      clear h h' hc2 hc h1 h2 hcy hE hRn hn hdf l1
      go_enter Tryz.func19, Tryz.ntmps19
      go_wp2_with fail
      refine (criticalArcs _ _ _ R _ HA.out H1.out H2.out).mono ?_
      rintro e w1 ⟨b1, m1, rfl, -, -, hI, hb⟩
      have HI1 := Lib.hid hI
      have HB1 := Lib.hid hb
      clear hI hb
      go_wp2_with fail
      refine (isCycle_b _ _ _ R _ _ _ l _ true HIC.out (HA.out.below HB1.out) (HI.out.below HB1.out) hc1 HM.out).mono ?_
      rintro e w2 ⟨rfl, hb⟩
      have HI2 := Lib.hid (HI1.out.below hb HI1.out.lt)
      have HB2 := Lib.hid (HB1.out.trans (hb.mono HB1.out.size))
      have HL2 := Lib.hid (HI.out.below HB2.out)
      clear hb HI1
      obtain ⟨v0, e0⟩ := HV.out 0 (by omega)
      obtain ⟨vm, em⟩ := HV.out m (by omega)
      obtain ⟨cb, co, x0, rfl, hcb, hx0, cx0⟩ := HL2.out.at 0 (by omega)
      obtain ⟨cb', co', xm, hcc, -, hxm, cxm⟩ := HL2.out.at m (by omega)
      injection hcc with hcc
      injection hcc with hcc1 hcc2
      subst hcc1 hcc2
      rw [Nat.add_zero] at cx0
      rw [e0] at hx0
      rw [em] at hxm
      subst hx0 hxm
      clear e0 em
      have hmw : IntKind.i64.wrap (m : Int) = (m : Int) := IntWalk.i64_in _ (by omega)
      have hmi : (m : Int) < (m : Int) + 1 := by omega
      go_wp2
      go_region
      all_goals
        generalize hwq : World.drew (w2.alloc _) = wq
        have HBq : Hid (Below w2.heap.size w2 wq) := by show Below _ _ _; rw [← hwq]; exact (b_alloc _ _).drew
        have q0 : wq.cell? ⟨w2.heap.size, 0, none⟩ = some (.int .i64 (M.vx l m : Int)) := by rw [← hwq]; simp [go_sem]
        have q1 : wq.cell? ⟨w2.heap.size, 1, none⟩ = some (.int .i64 (M.vx l 0 : Int)) := by rw [← hwq]; simp [go_sem]
        clear hwq cx0 cxm
        have HIq := Lib.hid (HI2.out.below HBq.out HI2.out.lt)
        have HLq := Lib.hid (HL2.out.below HBq.out)
        have HBw := Lib.hid (HB2.out.trans (HBq.out.mono HB2.out.size))
        have hlast := HIq.out.look n2 (M.vx l m) (M.vx l 0) vm v0
        obtain ⟨z, hz⟩ : ∃ z, z = M.crB R (M.vx l m) (M.vx l 0) := ⟨_, rfl⟩
        rw [← hz] at hlast
        have HZ := Lib.hid hz
        clear hz
        by_cases hm0 : m = 0
        · have hk0 : M.crAllK R l m = true := by rw [hm0]; rfl
          have HE0 : Hid (M.isCritRes R l = (z, 0)) := by show _ = _; rw [HE.out, hk0, ← HZ.out]; simp
          have hmn : ¬ (0 : Int) < (m : Int) := by omega
          clear hm0 hk0
          by_cases hcap : cap' = 1
          all_goals
            go_wp2
            go_loopw [9, 10, 36] (fun _ _ i wr => i = .int .i64 0 ∧ wr = wq) (fun _ _ _ _ => 0)
            case atStart => exact ⟨rfl, rfl⟩
            case round =>
              obtain ⟨rfl, rfl⟩ := hrel
              go_wp2
              go_ret2
              exact ⟨by rw [HE0.out]; rfl, HBw.out⟩
        · have hcap : ¬ cap' = 1 := by omega
          go_wp2
          go_loopw [9, 10, 36] (fun _ _ i wr => ∃ t : Nat, t ≤ m ∧ i = .int .i64 t ∧ Hid (M.crAllK R l t = true) ∧ wr = wq) (fun _ _ i _ => m - (intOf i).toNat)
          case atStart => exact ⟨0, Nat.zero_le _, rfl, rfl, rfl⟩
          case round =>
            obtain ⟨t, ht, rfl, HT, rfl⟩ := hrel
            by_cases htl : t < m
            · have hti : (t : Int) < (m : Int) := by omega
              have hti1 : (t : Int) < (m : Int) + 1 := by omega
              obtain ⟨vt, et⟩ := HV.out t (by omega)
              obtain ⟨vt1, et1⟩ := HV.out (t + 1) (by omega)
              obtain ⟨cb2, co2, xt, hcc, -, hxt, cxt⟩ := HLq.out.at t (by omega)
              injection hcc with hcc
              injection hcc with hcc1 hcc2
              subst hcc1 hcc2
              obtain ⟨cb3, co3, xt1, hcc, -, hxt1, cxt1⟩ := HLq.out.at (t + 1) (by omega)
              injection hcc with hcc
              injection hcc with hcc1 hcc2
              subst hcc1 hcc2
              rw [show co + (t + 1) = co + 1 + t by omega] at cxt1
              rw [et] at hxt
              rw [et1] at hxt1
              subst hxt hxt1
              have hlk := HIq.out.look n2 (M.vx l t) (M.vx l (t + 1)) vt vt1
              have hnx := M.crAllK_next R l t
              rw [HT.out, Bool.true_and] at hnx
              clear et et1 hlast
              obtain ⟨y, hy⟩ : ∃ y, y = M.crB R (M.vx l t) (M.vx l (t + 1)) := ⟨_, rfl⟩
              rw [← hy] at hlk hnx
              clear hy
              have HNx := Lib.hid hnx
              clear hnx
              cases y with
              | true =>
                go_wp2
                go_roundw
                case rel => exact ⟨t + 1, by omega, by go_num, HNx, by first | rfl | trivial⟩
                case measure => simp [intOf]; omega
              | false =>
                have HE0 : Hid (M.isCritRes R l = (false, 0)) := by
                  show _ = _; rw [HE.out, M.crAllK_less HNx.out (by omega)]; rfl
                go_wp2
                go_ret2
                exact ⟨by rw [HE0.out]; rfl, HBw.out⟩
            · obtain rfl : t = m := by omega
              have HE0 : Hid (M.isCritRes R l = (z, 0)) := by show _ = _; rw [HE.out, HT.out, ← HZ.out]; simp
              go_wp2
              go_ret2
              exact ⟨by rw [HE0.out]; rfl, HBw.out⟩
  · have HC := Lib.hid hc
    obtain ⟨k, hk⟩ : ∃ k, k = M.crCode R := ⟨_, rfl⟩
    have HE : Hid (M.isCritRes R l = (false, k)) := by show _ = _; unfold M.isCritRes; rw [if_neg hc, hk]
    have HK := Lib.hid hk
    have hk0 : (k != 0) = true := by rw [hk]; simpa using hc
    clear h h' hc2 hc hRn hk
    go_enter Tryz.func19, Tryz.ntmps19
    go_wp2_with fail
    refine (criticalArcs_no _ _ _ R _ HA.out HC.out).mono ?_
    rintro e w1 ⟨rfl, hb⟩
    rw [← HK.out]
    have HB := Lib.hid hb
    clear hb
    go_wp2
    go_ret2
    exact ⟨by rw [HE.out]; rfl, HB.out⟩
end Go.Proofs.YtlljnfljcdljaabGreat.V
