/- The walk through the law: it returns true and writes nothing that was there. For every code: the heaviest path has the weight in the star, no other path is heavier, and HeaviestPath and PathWeight answer as their models. -/
import Derived.Test.YtkilnneepnbckaaRows
import Derived.Test.YtkilnneepnbckaaQd1
import Derived.Test.YtkilnneepnbckaaQd13
import Derived.Test.YtkilnneepnbckaaQd2
import Derived.Test.YtkilnneepnbckaaQd3
import Derived.Test.YtkilnneepnbckaaQd8
import Derived.Test.YtkilnneepnbckaaQd5
import Derived.Test.YtkilnneepnbckaaQd4
import Derived.Test.YtkilnneepnbckaaQd9
import Derived.Test.YtkilnneepnbckaaQd6
import Derived.Test.YtkilnneepnbckaaQd7
import Derived.Test.YtkilnneepnbckaaQd14
import Derived.Test.YtkilnneepnbckaaQd15
import Derived.Test.YtkilnneepnbckaaQd16
import Derived.Test.YtkilnneepnbckaaQd17
import Derived.WalkKit
import Derived.ProofKit
import Derived.OpenShut
import Derived.ShutString
import Derived.ChangeOld
import Derived.Below
import Derived.Lib.SmallJoins
import Derived.Lib.Hide
import Derived.WalkSmall
import Derived.Deep.Draws
import Derived.Deep.QuietTactic
import Derived.BigQuiet
import Derived.Deep.OwnRows
import Derived.Deep.RegionWith
import Derived.Deep.RegionHeld3
set_option linter.unusedSimpArgs false
set_option linter.unusedVariables false
set_option linter.unusedSectionVars false
namespace Go.Proofs.Ytkilnneepnbckaa.fnPaths
open Go.ChangeShapes Go.WideShapes Go.ChangeAt Go.RowKit
open Go.ChangeMaps (open_string shut_string)
set_option linter.unusedVariables false

set_option maxRecDepth 100000 in
set_option maxHeartbeats 4000000 in
theorem walk (a0 : Option Addr) (len0 cap0 : Nat) (z0 : List Int) (w : World) (w0 : V.IsRow .u8 w a0 len0 cap0 z0) :
    Calls Try.prog 4 #[.slice a0 len0 cap0] w fun e w' => e = .returned (.bool true) ∧ Below w.heap.size w w' := by
  have hB := w0.bytes
  have hm := hB.1
  by_cases hbig : 4096 < len0
  · have hd : decide (4096 < len0) = true := by simpa using hbig
    clear hB w0
    go_enter Try.func4, Try.ntmps4
    go_wp2_with (first | (go_at_call 15; refine (V.big _ _ _ _ hm).mono ?_; rintro e w' ⟨rfl, rfl⟩))
    go_ret
    exact ⟨rfl, Below.refl _ _⟩
  · have hd : decide (4096 < len0) = false := by simpa using hbig
    clear w0
    have HB := Lib.hid hB
    clear hB
    go_enter Try.func4, Try.ntmps4
    go_wp2_with (go_at_call 15; refine (V.big _ _ _ _ hm).mono ?_; rintro e w' ⟨rfl, rfl⟩)
    refine (V.drawHeaviestPath _ _ _ _ HB.out).mono ?_
    rintro e w1 ⟨a, n, cap, R, x, y, rfl, hA, hb⟩
    have HA := Lib.hid hA
    have HB1 := Lib.hid hb
    have HY1 := Lib.hid (HB.out.below hb)
    clear hb hA
    obtain ⟨rv, hrv⟩ : ∃ rv, rv = M.heavyRes R x y := ⟨_, rfl⟩
    have HRV := Lib.hid hrv
    clear hrv
    go_wp2_with fail
    refine (V.heaviestPath _ _ _ R x y _ HA.out).mono ?_
    rintro e w2 ⟨pa, pn, pc, rfl, ho, hb⟩
    rw [← HRV.out] at ho ⊢
    have HP2 := Lib.hid ho.ints'
    have HPC := Lib.hid (V.caps_own ho)
    have HA2 := Lib.hid (HA.out.below hb)
    have HY2 := Lib.hid (HY1.out.below hb)
    have HB2 := Lib.hid (V.bnext HB1.out hb)
    clear ho hb HA HY1
    go_wp2_with fail
    refine (V.sHeaviestPath _ _ _ R x y _ HA2.out).mono ?_
    rintro e w3 ⟨sa, sn, sc, rfl, ho, hb⟩
    rw [← HRV.out] at ho ⊢
    have HS3 := Lib.hid ho.ints'
    have HP3 := Lib.hid (HP2.out.below hb)
    have HA3 := Lib.hid (HA2.out.below hb)
    have HY3 := Lib.hid (HY2.out.below hb)
    have HB3 := Lib.hid (V.bnext HB2.out hb)
    clear ho hb HA2 HP2 HY2
    go_wp2_with fail
    refine (V.drawPathWeight _ _ _ _ HY3.out).mono ?_
    rintro e w4 ⟨ba, bn, bc, Rb, la, N, lc, lb, rfl, hM, hI, hc1, hc2, hb⟩
    have HM4 := Lib.hid hM
    have HI4 := Lib.hid hI
    have HS4 := Lib.hid (HS3.out.below hb)
    have HP4 := Lib.hid (HP3.out.below hb)
    have HA4 := Lib.hid (HA3.out.below hb)
    have HB4 := Lib.hid (V.bnext HB3.out hb)
    clear hb HA3 HP3 HY3 HS3 hM hI
    obtain ⟨pv, hpv⟩ : ∃ pv, pv = M.pathRes Rb lb := ⟨_, rfl⟩
    have HPV := Lib.hid hpv
    clear hpv
    go_wp2_with fail
    refine (V.pathWeight _ _ _ Rb _ _ _ lb _ HM4.out HI4.out hc1 hc2).mono ?_
    rintro e w5 ⟨rfl, hb⟩
    rw [← HPV.out]
    have HM5 := Lib.hid (HM4.out.below hb)
    have HI5 := Lib.hid (HI4.out.below hb)
    have HS5 := Lib.hid (HS4.out.below hb)
    have HP5 := Lib.hid (HP4.out.below hb)
    have HA5 := Lib.hid (HA4.out.below hb)
    have HB5 := Lib.hid (V.bnext HB4.out hb)
    clear hb HA4 HP4 HM4 HI4
    go_wp2_with fail
    refine (V.sPathWeight _ _ _ Rb _ _ _ lb _ HM5.out HI5.out).mono ?_
    rintro e w6 ⟨rfl, hb⟩
    rw [← HPV.out]
    have HM6 := Lib.hid (HM5.out.below hb)
    have HI6 := Lib.hid (HI5.out.below hb)
    have HS6 := Lib.hid (HS5.out.below hb)
    have HP6 := Lib.hid (HP5.out.below hb)
    have HA6 := Lib.hid (HA5.out.below hb)
    have HB6 := Lib.hid (V.bnext HB5.out hb)
    clear hb HA5 HP5 HM5 HI5 HS5
    go_wp2_with fail
    refine (V.likeV _ _ _ rv.1 _ _ _ _ HP6.out HS6.out).mono ?_
    rintro e w7 ⟨rfl, hb⟩
    have HM7 := Lib.hid (HM6.out.below hb)
    have HI7 := Lib.hid (HI6.out.below hb)
    have HP7 := Lib.hid (HP6.out.below hb)
    have HA7 := Lib.hid (HA6.out.below hb)
    have HB7 := Lib.hid (V.bnext HB6.out hb)
    have HS7 := Lib.hid (HS6.out.below hb)
    clear hb HA6 HP6 HM6 HI6 HS6
    by_cases hp0 : pv.2 = 0
    · obtain ⟨p1, p2, p3, p4, p5⟩ := M.path_t (R := Rb) (l := lb) (by rw [← HPV.out]; exact hp0)
      rw [← HPV.out] at p5
      obtain ⟨aw, haw⟩ : ∃ aw, aw = M.alongW Rb lb := ⟨_, rfl⟩
      rw [← haw] at p5
      obtain rfl := p5
      have HAW0 := Lib.hid haw
      clear haw
      obtain ⟨sb, hsb⟩ : ∃ sb, sb = M.starRes Rb := ⟨_, rfl⟩
      have HSB := Lib.hid hsb
      clear hsb hp0
      go_wp2_with fail
      refine (V.starMatrix _ _ _ Rb _ HM7.out).mono ?_
      rintro e w8 ⟨qa, qn, qc, rfl, ho, hb⟩
      rw [← HSB.out] at ho ⊢
      have HT8 := Lib.hid ho.mat
      have HI8 := Lib.hid (HI7.out.below hb)
      have HP8 := Lib.hid (HP7.out.below hb)
      have HS8 := Lib.hid (HS7.out.below hb)
      have HA8 := Lib.hid (HA7.out.below hb)
      have HB8 := Lib.hid (V.bnext HB7.out hb)
      have HQb := Lib.hid (V.sq_of HM7.out p1)
      have HRb := Lib.hid HM7.out.1
      have HLb := Lib.hid HI7.out.1
      clear ho hb HA7 HP7 HI7 HS7
      by_cases ht : sb.2 = 0
      · obtain ⟨-, t2, t3, t4⟩ := M.star_t (R := Rb) (by rw [← HSB.out]; exact ht)
        rw [← HSB.out, HRb.out] at t4
        rw [HRb.out] at t2 t3 p4
        obtain rfl := t4
        have hqn : qn = bn := by have := HT8.out.1; rw [M.starM_len] at this; omega
        subst hqn
        have hle := M.along_star HQb.out.2.2.2.2 HQb.out.2.2.1 t2 p2 p3 p4
        rw [← HAW0.out] at hle
        obtain ⟨N', rfl⟩ : ∃ N', N = N' + 1 := ⟨N - 1, by rw [← HLb.out]; omega⟩
        have hl1 : lb.length - 1 = N' := by rw [HLb.out]; omega
        rw [hl1] at hle
        have n0 := M.nodesB_at p4 (k := 0) (by omega)
        have nN := M.nodesB_at p4 (k := N') (by omega)
        obtain ⟨lbk, lof, x3, rfl, -, hx3, c3⟩ := HI8.out.at 0 (by omega)
        obtain ⟨lb2, lo2, x4, hle2, -, hx4, c4⟩ := HI8.out.at N' (by omega)
        injection hle2 with hle2
        injection hle2 with h1 h2 h3
        subst h1 h2
        rw [← hx3] at n0
        rw [← hx4] at nN
        unfold M.vx at hle
        rw [← hx3, ← hx4] at hle
        obtain ⟨x3, rfl⟩ := Int.eq_ofNat_of_zero_le n0.1
        obtain ⟨x4, rfl⟩ := Int.eq_ofNat_of_zero_le nN.1
        simp only [Int.toNat_natCast] at hle
        have hx3n : x3 < qn := by omega
        have hx4n : x4 < qn := by omega
        obtain ⟨ab, ao, ra, rc, Lr, lr, rfl, -, hlr, cr, hIr⟩ := HT8.out.at x4 hx4n
        have hLr : Lr = qn := by rw [← hIr.1, hlr, M.starM_row _ hx4n]
        obtain ⟨rb, ro, z2, rfl, -, hz2, cz⟩ := hIr.at x3 (by omega)
        have hz3 : z2 = M.starF (M.ent Rb) qn x4 x3 := by rw [hz2, hlr, ← M.starM_ent Rb hx4n hx3n]; rfl
        rw [← hz3] at hle
        have hdz : decide (z2 < aw) = false := by simpa using hle
        have hx3L : x3 < Lr := by omega
        simp only [Nat.add_zero] at c3
        have ht1 : ((N' : Int) + 1 - 1) = (N' : Int) := by omega
        have hN0 : 0 < N' + 1 := by omega
        have hNb : N' ≤ 99 := by omega
        clear p1 p2 p3 p4 t2 t3 ht hl1 hx3 hx4 hz3 hz2 hIr hlr HI8 HT8 n0 nN h3
        by_cases hc : rv.2 = 0
        · skip
          go_wp2_with fail
          go_quiet (fail)
          generalize hw9 : World.drewN w8 _ = w9
          have hb : Below w8.heap.size w8 w9 := by rw [← hw9]; exact V.b_draws w8 _
          have HA9 := Lib.hid (HA8.out.below hb)
          have HP9 := Lib.hid (HP8.out.below hb)
          have HS9 := Lib.hid (HS8.out.below hb)
          have HB9 := Lib.hid (V.bnext HB8.out hb)
          clear hb HA8 HP8 HS8 hw9
          have hft := M.heavy_t (by rw [← HRV.out]; exact hc)
          rw [← HRV.out] at hft
          obtain ⟨f1, f2, f3, f4, f5, f6⟩ := hft
          obtain rfl := f6
          have hRl := HA9.out.1
          rw [hRl] at f2 f3 f4 f5 HP9 HS9
          obtain ⟨x, rfl⟩ := Int.eq_ofNat_of_zero_le (M.inN_t f2).1
          obtain ⟨y, rfl⟩ := Int.eq_ofNat_of_zero_le (M.inN_t f3).1
          simp only [Int.toNat_natCast] at f5 HP9 HS9
          have hxn : x < n := by have := (M.inN_t f2).2; omega
          have hyn : y < n := by have := (M.inN_t f3).2; omega
          have HQ := Lib.hid (V.sq_of HA9.out f1)
          have HSm := Lib.hid HQ.out.2.2.1
          have hn10 := HQ.out.2.2.2.2
          obtain ⟨s, hs⟩ : ∃ s, s = M.arcs (M.ent R) n x y := ⟨_, rfl⟩
          obtain ⟨l, hl⟩ : ∃ l, l = M.hvL (M.ent R) n y s x (s + 1) := ⟨_, rfl⟩
          obtain ⟨z, hz⟩ : ∃ z, z = M.starF (M.ent R) n y x := ⟨_, rfl⟩
          obtain ⟨hs1, hs2, -⟩ := M.arcs_is hn10 HSm.out f4 hxn hyn f5
          rw [← hs, ← hz] at hs1
          rw [← hs] at hs2
          rw [← hz] at f5
          have hcp : M.cpw (M.ent R) n s y x ≠ -1000000000000000 := by rw [hs1]; exact f5
          have haw : M.alongW R l = z := by rw [hl, M.hv_along HSm.out hs2 hyn hxn hcp, hs1]
          have hnd : M.nodesB R.length l = true := by rw [hRl, hl]; exact M.hv_nodes HSm.out hs2 hyn hxn hcp
          have hll : l.length = s + 1 := by rw [hl, M.hvL_len]
          have hg0 : l.getD 0 0 = (x : Int) := by rw [hl, M.hvL_at _ _ _ _ _ _ _ (by omega)]; rfl
          have hgs : l.getD s 0 = (y : Int) := by rw [hl, M.hvL_at _ _ _ _ _ _ _ (by omega), M.xs_end HSm.out hs2 hyn hxn hcp]
          have HP9x : Hid (V.Ints .i64 w9 pa pn l) := by show V.Ints _ _ _ _ _; rw [hl, hs]; simpa using HP9.out
          have hpn : pn = s + 1 := by have := HP9x.out.1; omega
          subst hpn
          have hsn : sn = s + 1 := by have := HS9.out.1; rw [M.hvL_len] at this; omega
          subst hsn
          obtain ⟨sr, hsr⟩ : ∃ sr, sr = M.starRes R := ⟨_, rfl⟩
          have HSR := Lib.hid hsr
          have HSQ := Lib.hid f1
          have HNP := Lib.hid f4
          have HRL := Lib.hid hRl
          have HZ := Lib.hid hz
          have HAW := Lib.hid haw
          have HND := Lib.hid hnd
          have HLL := Lib.hid hll
          have HF := Lib.hid f5
          obtain ⟨pb, po, x1, rfl, -, hx1, c1⟩ := HP9x.out.at 0 (by omega)
          obtain ⟨pb2, po2, x2, hpe, -, hx2, c2⟩ := HP9x.out.at s (by omega)
          injection hpe with hpe
          injection hpe with h1 h2 h3
          subst h1 h2
          rw [hg0] at hx1
          rw [hgs] at hx2
          subst hx1 hx2
          have HC1 := Lib.hid c1
          have HC2 := Lib.hid c2
          clear hs1 hs hz hcp haw hnd hll hg0 hgs hsr f1 f2 f3 f4 f5 hc hl hRl c1 c2 h3
          go_wp2_with fail
          refine (V.starMatrix _ _ _ R _ HA9.out).mono ?_
          rintro e w20 ⟨ta, tn, tc, rfl, ho, hb⟩
          rw [← HSR.out] at ho ⊢
          have HT20 := Lib.hid ho.mat
          have HA20 := Lib.hid (HA9.out.below hb)
          have HP20 := Lib.hid (HP9x.out.below hb)
          have HB20 := Lib.hid (V.bnext HB9.out hb)
          have HC120 := Lib.hid (hb.cell (V.cell_lt HC1.out) |>.trans HC1.out)
          have HC220 := Lib.hid (hb.cell (V.cell_lt HC2.out) |>.trans HC2.out)
          clear ho hb
          obtain ⟨pv2, hpv2⟩ : ∃ pv2, pv2 = M.pathRes R l := ⟨_, rfl⟩
          have HPV2 := Lib.hid hpv2
          clear hpv2
          go_wp2_with fail
          refine (V.pathWeight _ _ _ R _ _ _ l _ HA20.out HP20.out HPC.out.1 HPC.out.2).mono ?_
          rintro e w21 ⟨rfl, hb⟩
          rw [← HPV2.out]
          have HT21 := Lib.hid (HT20.out.below hb)
          have HB21 := Lib.hid (V.bnext HB20.out hb)
          have c1 := hb.cell (V.cell_lt HC120.out) |>.trans HC120.out
          have c2 := hb.cell (V.cell_lt HC220.out) |>.trans HC220.out
          simp only [Nat.add_zero] at c1
          clear hb
          by_cases ht : sr.2 = 0
          · obtain ⟨-, -, t3, t4⟩ := M.star_t (R := R) (by rw [← HSR.out]; exact ht)
            rw [← HSR.out, HRL.out] at t4
            rw [HRL.out] at t3
            subst t4
            have hzv : M.isVal z = true := by
              have := M.isMat_ent t3 (i := y) (j := x) (by rw [M.starM_len]; exact hyn) (by rw [M.starM_wid _ (by omega)]; exact hxn)
              rw [M.starM_ent _ hyn hxn, ← HZ.out] at this
              exact this
            have hpr : pv2 = (z, 0) := by
              rw [HPV2.out]
              unfold M.pathRes
              rw [if_pos HSQ.out, if_pos ⟨by rw [HLL.out]; omega, by rw [HLL.out]; omega, HND.out⟩, HAW.out, if_neg HF.out]
              unfold M.chk
              rw [if_pos hzv]
            subst hpr
            have htn : tn = n := by have := HT21.out.1; rw [M.starM_len] at this; omega
            subst htn
            obtain ⟨ab, ao, ra, rc, Lr, lr, rfl, -, hlr, cr, hIr⟩ := HT21.out.at y hyn
            have hLr : Lr = tn := by rw [← hIr.1, hlr, M.starM_row _ hyn]
            subst hLr
            obtain ⟨rb, ro, z2, rfl, -, hz2, cz⟩ := hIr.at x hxn
            have hz3 : z2 = z := by rw [hz2, hlr, HZ.out, ← M.starM_ent R hyn hxn]; rfl
            subst hz3
            clear hlr hIr hz2 hzv t3
            go_wp2
            go_ret
            exact ⟨rfl, by first | exact HB21.out | exact HB21.out.drew⟩
          · obtain rfl : sr = ([], 3) := by rw [HSR.out]; exact M.star_l HSQ.out (by rw [HRL.out]; exact HNP.out) (by rw [← HSR.out]; exact ht)
            go_wp2
            go_ret
            exact ⟨rfl, by first | exact HB21.out | exact HB21.out.drew⟩
        · have hc2 : (rv.2 == 0) = false := by simpa using hc
          go_wp2_with fail
          go_quiet (fail)
          generalize hw9 : World.drewN w8 _ = w9
          have hb : Below w8.heap.size w8 w9 := by rw [← hw9]; exact V.b_draws w8 _
          have HA9 := Lib.hid (HA8.out.below hb)
          have HP9 := Lib.hid (HP8.out.below hb)
          have HS9 := Lib.hid (HS8.out.below hb)
          have HB9 := Lib.hid (V.bnext HB8.out hb)
          clear hb HA8 HP8 HS8 hw9
          clear hc
          go_wp2
          go_ret
          exact ⟨rfl, HB9.out⟩
      · have ht2 : (sb.2 == 0) = false := by simpa using ht
        clear ht p1 p2 p3 p4
        by_cases hc : rv.2 = 0
        · skip
          go_wp2_with fail
          go_quiet (fail)
          generalize hw9 : World.drewN w8 _ = w9
          have hb : Below w8.heap.size w8 w9 := by rw [← hw9]; exact V.b_draws w8 _
          have HA9 := Lib.hid (HA8.out.below hb)
          have HP9 := Lib.hid (HP8.out.below hb)
          have HS9 := Lib.hid (HS8.out.below hb)
          have HB9 := Lib.hid (V.bnext HB8.out hb)
          clear hb HA8 HP8 HS8 hw9
          have hft := M.heavy_t (by rw [← HRV.out]; exact hc)
          rw [← HRV.out] at hft
          obtain ⟨f1, f2, f3, f4, f5, f6⟩ := hft
          obtain rfl := f6
          have hRl := HA9.out.1
          rw [hRl] at f2 f3 f4 f5 HP9 HS9
          obtain ⟨x, rfl⟩ := Int.eq_ofNat_of_zero_le (M.inN_t f2).1
          obtain ⟨y, rfl⟩ := Int.eq_ofNat_of_zero_le (M.inN_t f3).1
          simp only [Int.toNat_natCast] at f5 HP9 HS9
          have hxn : x < n := by have := (M.inN_t f2).2; omega
          have hyn : y < n := by have := (M.inN_t f3).2; omega
          have HQ := Lib.hid (V.sq_of HA9.out f1)
          have HSm := Lib.hid HQ.out.2.2.1
          have hn10 := HQ.out.2.2.2.2
          obtain ⟨s, hs⟩ : ∃ s, s = M.arcs (M.ent R) n x y := ⟨_, rfl⟩
          obtain ⟨l, hl⟩ : ∃ l, l = M.hvL (M.ent R) n y s x (s + 1) := ⟨_, rfl⟩
          obtain ⟨z, hz⟩ : ∃ z, z = M.starF (M.ent R) n y x := ⟨_, rfl⟩
          obtain ⟨hs1, hs2, -⟩ := M.arcs_is hn10 HSm.out f4 hxn hyn f5
          rw [← hs, ← hz] at hs1
          rw [← hs] at hs2
          rw [← hz] at f5
          have hcp : M.cpw (M.ent R) n s y x ≠ -1000000000000000 := by rw [hs1]; exact f5
          have haw : M.alongW R l = z := by rw [hl, M.hv_along HSm.out hs2 hyn hxn hcp, hs1]
          have hnd : M.nodesB R.length l = true := by rw [hRl, hl]; exact M.hv_nodes HSm.out hs2 hyn hxn hcp
          have hll : l.length = s + 1 := by rw [hl, M.hvL_len]
          have hg0 : l.getD 0 0 = (x : Int) := by rw [hl, M.hvL_at _ _ _ _ _ _ _ (by omega)]; rfl
          have hgs : l.getD s 0 = (y : Int) := by rw [hl, M.hvL_at _ _ _ _ _ _ _ (by omega), M.xs_end HSm.out hs2 hyn hxn hcp]
          have HP9x : Hid (V.Ints .i64 w9 pa pn l) := by show V.Ints _ _ _ _ _; rw [hl, hs]; simpa using HP9.out
          have hpn : pn = s + 1 := by have := HP9x.out.1; omega
          subst hpn
          have hsn : sn = s + 1 := by have := HS9.out.1; rw [M.hvL_len] at this; omega
          subst hsn
          obtain ⟨sr, hsr⟩ : ∃ sr, sr = M.starRes R := ⟨_, rfl⟩
          have HSR := Lib.hid hsr
          have HSQ := Lib.hid f1
          have HNP := Lib.hid f4
          have HRL := Lib.hid hRl
          have HZ := Lib.hid hz
          have HAW := Lib.hid haw
          have HND := Lib.hid hnd
          have HLL := Lib.hid hll
          have HF := Lib.hid f5
          obtain ⟨pb, po, x1, rfl, -, hx1, c1⟩ := HP9x.out.at 0 (by omega)
          obtain ⟨pb2, po2, x2, hpe, -, hx2, c2⟩ := HP9x.out.at s (by omega)
          injection hpe with hpe
          injection hpe with h1 h2 h3
          subst h1 h2
          rw [hg0] at hx1
          rw [hgs] at hx2
          subst hx1 hx2
          have HC1 := Lib.hid c1
          have HC2 := Lib.hid c2
          clear hs1 hs hz hcp haw hnd hll hg0 hgs hsr f1 f2 f3 f4 f5 hc hl hRl c1 c2 h3
          go_wp2_with fail
          refine (V.starMatrix _ _ _ R _ HA9.out).mono ?_
          rintro e w20 ⟨ta, tn, tc, rfl, ho, hb⟩
          rw [← HSR.out] at ho ⊢
          have HT20 := Lib.hid ho.mat
          have HA20 := Lib.hid (HA9.out.below hb)
          have HP20 := Lib.hid (HP9x.out.below hb)
          have HB20 := Lib.hid (V.bnext HB9.out hb)
          have HC120 := Lib.hid (hb.cell (V.cell_lt HC1.out) |>.trans HC1.out)
          have HC220 := Lib.hid (hb.cell (V.cell_lt HC2.out) |>.trans HC2.out)
          clear ho hb
          obtain ⟨pv2, hpv2⟩ : ∃ pv2, pv2 = M.pathRes R l := ⟨_, rfl⟩
          have HPV2 := Lib.hid hpv2
          clear hpv2
          go_wp2_with fail
          refine (V.pathWeight _ _ _ R _ _ _ l _ HA20.out HP20.out HPC.out.1 HPC.out.2).mono ?_
          rintro e w21 ⟨rfl, hb⟩
          rw [← HPV2.out]
          have HT21 := Lib.hid (HT20.out.below hb)
          have HB21 := Lib.hid (V.bnext HB20.out hb)
          have c1 := hb.cell (V.cell_lt HC120.out) |>.trans HC120.out
          have c2 := hb.cell (V.cell_lt HC220.out) |>.trans HC220.out
          simp only [Nat.add_zero] at c1
          clear hb
          by_cases ht : sr.2 = 0
          · obtain ⟨-, -, t3, t4⟩ := M.star_t (R := R) (by rw [← HSR.out]; exact ht)
            rw [← HSR.out, HRL.out] at t4
            rw [HRL.out] at t3
            subst t4
            have hzv : M.isVal z = true := by
              have := M.isMat_ent t3 (i := y) (j := x) (by rw [M.starM_len]; exact hyn) (by rw [M.starM_wid _ (by omega)]; exact hxn)
              rw [M.starM_ent _ hyn hxn, ← HZ.out] at this
              exact this
            have hpr : pv2 = (z, 0) := by
              rw [HPV2.out]
              unfold M.pathRes
              rw [if_pos HSQ.out, if_pos ⟨by rw [HLL.out]; omega, by rw [HLL.out]; omega, HND.out⟩, HAW.out, if_neg HF.out]
              unfold M.chk
              rw [if_pos hzv]
            subst hpr
            have htn : tn = n := by have := HT21.out.1; rw [M.starM_len] at this; omega
            subst htn
            obtain ⟨ab, ao, ra, rc, Lr, lr, rfl, -, hlr, cr, hIr⟩ := HT21.out.at y hyn
            have hLr : Lr = tn := by rw [← hIr.1, hlr, M.starM_row _ hyn]
            subst hLr
            obtain ⟨rb, ro, z2, rfl, -, hz2, cz⟩ := hIr.at x hxn
            have hz3 : z2 = z := by rw [hz2, hlr, HZ.out, ← M.starM_ent R hyn hxn]; rfl
            subst hz3
            clear hlr hIr hz2 hzv t3
            go_wp2
            go_ret
            exact ⟨rfl, by first | exact HB21.out | exact HB21.out.drew⟩
          · obtain rfl : sr = ([], 3) := by rw [HSR.out]; exact M.star_l HSQ.out (by rw [HRL.out]; exact HNP.out) (by rw [← HSR.out]; exact ht)
            go_wp2
            go_ret
            exact ⟨rfl, by first | exact HB21.out | exact HB21.out.drew⟩
        · have hc2 : (rv.2 == 0) = false := by simpa using hc
          go_wp2_with fail
          go_quiet (fail)
          generalize hw9 : World.drewN w8 _ = w9
          have hb : Below w8.heap.size w8 w9 := by rw [← hw9]; exact V.b_draws w8 _
          have HA9 := Lib.hid (HA8.out.below hb)
          have HP9 := Lib.hid (HP8.out.below hb)
          have HS9 := Lib.hid (HS8.out.below hb)
          have HB9 := Lib.hid (V.bnext HB8.out hb)
          clear hb HA8 HP8 HS8 hw9
          clear hc
          go_wp2
          go_ret
          exact ⟨rfl, HB9.out⟩
    · have hp2 : (pv.2 == 0) = false := by simpa using hp0
      clear hp0
      by_cases hc : rv.2 = 0
      · skip
        have hft := M.heavy_t (by rw [← HRV.out]; exact hc)
        rw [← HRV.out] at hft
        obtain ⟨f1, f2, f3, f4, f5, f6⟩ := hft
        obtain rfl := f6
        have hRl := HA7.out.1
        rw [hRl] at f2 f3 f4 f5 HP7 HS7
        obtain ⟨x, rfl⟩ := Int.eq_ofNat_of_zero_le (M.inN_t f2).1
        obtain ⟨y, rfl⟩ := Int.eq_ofNat_of_zero_le (M.inN_t f3).1
        simp only [Int.toNat_natCast] at f5 HP7 HS7
        have hxn : x < n := by have := (M.inN_t f2).2; omega
        have hyn : y < n := by have := (M.inN_t f3).2; omega
        have HQ := Lib.hid (V.sq_of HA7.out f1)
        have HSm := Lib.hid HQ.out.2.2.1
        have hn10 := HQ.out.2.2.2.2
        obtain ⟨s, hs⟩ : ∃ s, s = M.arcs (M.ent R) n x y := ⟨_, rfl⟩
        obtain ⟨l, hl⟩ : ∃ l, l = M.hvL (M.ent R) n y s x (s + 1) := ⟨_, rfl⟩
        obtain ⟨z, hz⟩ : ∃ z, z = M.starF (M.ent R) n y x := ⟨_, rfl⟩
        obtain ⟨hs1, hs2, -⟩ := M.arcs_is hn10 HSm.out f4 hxn hyn f5
        rw [← hs, ← hz] at hs1
        rw [← hs] at hs2
        rw [← hz] at f5
        have hcp : M.cpw (M.ent R) n s y x ≠ -1000000000000000 := by rw [hs1]; exact f5
        have haw : M.alongW R l = z := by rw [hl, M.hv_along HSm.out hs2 hyn hxn hcp, hs1]
        have hnd : M.nodesB R.length l = true := by rw [hRl, hl]; exact M.hv_nodes HSm.out hs2 hyn hxn hcp
        have hll : l.length = s + 1 := by rw [hl, M.hvL_len]
        have hg0 : l.getD 0 0 = (x : Int) := by rw [hl, M.hvL_at _ _ _ _ _ _ _ (by omega)]; rfl
        have hgs : l.getD s 0 = (y : Int) := by rw [hl, M.hvL_at _ _ _ _ _ _ _ (by omega), M.xs_end HSm.out hs2 hyn hxn hcp]
        have HP7x : Hid (V.Ints .i64 w7 pa pn l) := by show V.Ints _ _ _ _ _; rw [hl, hs]; simpa using HP7.out
        have hpn : pn = s + 1 := by have := HP7x.out.1; omega
        subst hpn
        have hsn : sn = s + 1 := by have := HS7.out.1; rw [M.hvL_len] at this; omega
        subst hsn
        obtain ⟨sr, hsr⟩ : ∃ sr, sr = M.starRes R := ⟨_, rfl⟩
        have HSR := Lib.hid hsr
        have HSQ := Lib.hid f1
        have HNP := Lib.hid f4
        have HRL := Lib.hid hRl
        have HZ := Lib.hid hz
        have HAW := Lib.hid haw
        have HND := Lib.hid hnd
        have HLL := Lib.hid hll
        have HF := Lib.hid f5
        obtain ⟨pb, po, x1, rfl, -, hx1, c1⟩ := HP7x.out.at 0 (by omega)
        obtain ⟨pb2, po2, x2, hpe, -, hx2, c2⟩ := HP7x.out.at s (by omega)
        injection hpe with hpe
        injection hpe with h1 h2 h3
        subst h1 h2
        rw [hg0] at hx1
        rw [hgs] at hx2
        subst hx1 hx2
        have HC1 := Lib.hid c1
        have HC2 := Lib.hid c2
        clear hs1 hs hz hcp haw hnd hll hg0 hgs hsr f1 f2 f3 f4 f5 hc hl hRl c1 c2 h3
        go_wp2_with fail
        refine (V.starMatrix _ _ _ R _ HA7.out).mono ?_
        rintro e w20 ⟨ta, tn, tc, rfl, ho, hb⟩
        rw [← HSR.out] at ho ⊢
        have HT20 := Lib.hid ho.mat
        have HA20 := Lib.hid (HA7.out.below hb)
        have HP20 := Lib.hid (HP7x.out.below hb)
        have HB20 := Lib.hid (V.bnext HB7.out hb)
        have HC120 := Lib.hid (hb.cell (V.cell_lt HC1.out) |>.trans HC1.out)
        have HC220 := Lib.hid (hb.cell (V.cell_lt HC2.out) |>.trans HC2.out)
        clear ho hb
        obtain ⟨pv2, hpv2⟩ : ∃ pv2, pv2 = M.pathRes R l := ⟨_, rfl⟩
        have HPV2 := Lib.hid hpv2
        clear hpv2
        go_wp2_with fail
        refine (V.pathWeight _ _ _ R _ _ _ l _ HA20.out HP20.out HPC.out.1 HPC.out.2).mono ?_
        rintro e w21 ⟨rfl, hb⟩
        rw [← HPV2.out]
        have HT21 := Lib.hid (HT20.out.below hb)
        have HB21 := Lib.hid (V.bnext HB20.out hb)
        have c1 := hb.cell (V.cell_lt HC120.out) |>.trans HC120.out
        have c2 := hb.cell (V.cell_lt HC220.out) |>.trans HC220.out
        simp only [Nat.add_zero] at c1
        clear hb
        by_cases ht : sr.2 = 0
        · obtain ⟨-, -, t3, t4⟩ := M.star_t (R := R) (by rw [← HSR.out]; exact ht)
          rw [← HSR.out, HRL.out] at t4
          rw [HRL.out] at t3
          subst t4
          have hzv : M.isVal z = true := by
            have := M.isMat_ent t3 (i := y) (j := x) (by rw [M.starM_len]; exact hyn) (by rw [M.starM_wid _ (by omega)]; exact hxn)
            rw [M.starM_ent _ hyn hxn, ← HZ.out] at this
            exact this
          have hpr : pv2 = (z, 0) := by
            rw [HPV2.out]
            unfold M.pathRes
            rw [if_pos HSQ.out, if_pos ⟨by rw [HLL.out]; omega, by rw [HLL.out]; omega, HND.out⟩, HAW.out, if_neg HF.out]
            unfold M.chk
            rw [if_pos hzv]
          subst hpr
          have htn : tn = n := by have := HT21.out.1; rw [M.starM_len] at this; omega
          subst htn
          obtain ⟨ab, ao, ra, rc, Lr, lr, rfl, -, hlr, cr, hIr⟩ := HT21.out.at y hyn
          have hLr : Lr = tn := by rw [← hIr.1, hlr, M.starM_row _ hyn]
          subst hLr
          obtain ⟨rb, ro, z2, rfl, -, hz2, cz⟩ := hIr.at x hxn
          have hz3 : z2 = z := by rw [hz2, hlr, HZ.out, ← M.starM_ent R hyn hxn]; rfl
          subst hz3
          clear hlr hIr hz2 hzv t3
          go_wp2
          go_ret
          exact ⟨rfl, by first | exact HB21.out | exact HB21.out.drew⟩
        · obtain rfl : sr = ([], 3) := by rw [HSR.out]; exact M.star_l HSQ.out (by rw [HRL.out]; exact HNP.out) (by rw [← HSR.out]; exact ht)
          go_wp2
          go_ret
          exact ⟨rfl, by first | exact HB21.out | exact HB21.out.drew⟩
      · have hc2 : (rv.2 == 0) = false := by simpa using hc
        clear hc
        go_wp2
        go_ret
        exact ⟨rfl, HB7.out⟩
end Go.Proofs.Ytkilnneepnbckaa.fnPaths
