/- Texts laid together: Crg, Crh, Cri. -/
import Derived.Test.YtlofnadpgnbmdaaGreatQa51
import Derived.Test.YtlofnadpgnbmdaaGreatQa62
import Derived.Test.YtlofnadpgnbmdaaGreatQa53
import Derived.BigQuiet
import Derived.Test.YtlofnadpgnbmdaaGreatQa9
import Derived.Test.YtlofnadpgnbmdaaGreatQa18
import Derived.Test.YtlofnadpgnbmdaaGreatQa47
set_option linter.unusedSimpArgs false
set_option linter.unusedVariables false
set_option linter.unusedSectionVars false
namespace Go.Proofs.YtlofnadpgnbmdaaGreat
namespace M
theorem take_no {f : Int → Int} {c : List Int} {v : Int} (h : ∀ k, k < c.length → f (c.getD k 0) ≠ v) : hasB (c.map f) v = false := by
  cases e : hasB (c.map f) v with
  | false => rfl
  | true =>
    obtain ⟨k, hk, hx⟩ := mem_mapI.1 e
    exact absurd hx (h k hk)
end M
namespace V
set_option maxRecDepth 100000
open Go.RowKit
set_option maxRecDepth 100000 in
set_option maxHeartbeats 2000000 in
theorem sVisits (x : Int) (a : Option Addr) (n cap : Nat) (l : List M.Pc) (ca : Option Addr) (m cc : Nat) (c : List Int) (v : Int) (w : World) (h : Pls w a n l) (hI : Ints .i64 w ca m c) (hc : M.nodesB n c = true) (hm : m ≤ 100) :
    Calls Tryz.prog 172 #[.agg #[.int .i64 x, .slice a n cap], .slice ca m cc, .int .i64 v] w fun e w' => e = .returned (.bool (M.hasB (c.map (M.frI l)) v || M.hasB (c.map (M.toI l)) v)) ∧ Below w.heap.size w w' := by
  have HP := Lib.hid h
  have HI := Lib.hid hI
  have HM : Hid (c.length = m) := hI.1
  have HN := Lib.hid hc
  have hb0 := b_alloc w (.cells #[.int .i64 x, .slice a n cap] 26)
  have hG := gBox_new w x a n cap 26
  obtain ⟨wb, hwb⟩ : ∃ z, z = w.alloc (.cells #[.int .i64 x, .slice a n cap] 26) := ⟨_, rfl⟩
  rw [← hwb] at hb0 hG
  have HG := Lib.hid hG
  have HB0 := Lib.hid hb0
  have HWb := Lib.hid hwb.symm
  have HD0 : Hid (∀ i, i < 0 → M.frI l (c.getD i 0) ≠ v ∧ M.toI l (c.getD i 0) ≠ v) := fun i hi => absurd hi (Nat.not_lt_zero i)
  clear h hI hc hb0 hG hwb
  go_enter Tryz.func172, Tryz.ntmps172
  go_wp2
  rw [HWb.out]
  go_loopw [7] (fun kv wr => ∃ k : Nat, k ≤ m ∧ kv = .int .i64 k ∧ Hid (GBox wr w.heap.size x a n cap) ∧ Hid (Below w.heap.size w wr) ∧ Hid (∀ i, i < k → M.frI l (c.getD i 0) ≠ v ∧ M.toI l (c.getD i 0) ≠ v)) (fun kv _ => m - (intOf kv).toNat)
  case atStart => exact ⟨0, Nat.zero_le _, rfl, HG, HB0, HD0⟩
  case round =>
    obtain ⟨k, hk, rfl, HGr, HB, HD⟩ := hrel
    obtain ⟨wo, rfl⟩ : ∃ x, x = wr := ⟨_, rfl⟩
    clear HD0
    by_cases hkm : k < m
    · have hki : (k : Int) < (m : Int) := by omega
      obtain ⟨g0, g1⟩ := HGr.out
      obtain ⟨cb, co, y, rfl, hd, hy, cy⟩ := (HI.out.below HB.out).at k hkm
      have hyn := M.nodesB_at HN.out (k := k) (by rw [HM.out]; exact hkm)
      rw [← hy] at hyn
      obtain ⟨i, rfl⟩ := Int.eq_ofNat_of_zero_le hyn.1
      have hin : i < n := by omega
      have hin2 : (i : Int) < (n : Int) := by omega
      obtain ⟨pb, off, p0, p1, p2, p3, rfl, hpd, hp, c0, c1, c2, c3⟩ := (HP.out.below HB.out).at i hin
      have hfr : M.frI l (c.getD k 0) = p0 := by rw [← hy]; show (l.getD i M.pz).1 = p0; rw [hp]
      have hto : M.toI l (c.getD k 0) = p1 := by rw [← hy]; show (l.getD i M.pz).2.1 = p1; rw [hp]
      by_cases h0 : p0 = v
      · have h0b : (p0 == v) = true := by simpa using h0
        have HR : Hid ((M.hasB (c.map (M.frI l)) v || M.hasB (c.map (M.toI l)) v) = true) := by
          show _ = _
          rw [M.mem_mapI.2 ⟨k, by rw [HM.out]; exact hkm, hfr.trans h0⟩, Bool.true_or]
        clear hfr hto h0 hy hyn hp
        go_wp2
        go_quiet (fail)
        generalize hwq : World.drewN wo _ = wq
        have hbq : Below wo.heap.size wo wq := by rw [← hwq]; exact b_draws wo _
        have HBq := Lib.hid (HB.out.trans (hbq.mono HB.out.size))
        clear hwq hbq
        go_wp2
        go_ret
        rw [HR.out]
        exact ⟨rfl, HBq.out⟩
      · have h0b : (p0 == v) = false := by simpa using h0
        by_cases h1 : p1 = v
        · have h1b : (p1 == v) = true := by simpa using h1
          have HR : Hid ((M.hasB (c.map (M.frI l)) v || M.hasB (c.map (M.toI l)) v) = true) := by
            show _ = _
            rw [M.mem_mapI.2 ⟨k, by rw [HM.out]; exact hkm, hto.trans h1⟩, Bool.or_true]
          clear hfr hto h0 h1 hy hyn hp
          go_wp2
          go_quiet (fail)
          generalize hwq : World.drewN wo _ = wq
          have hbq : Below wo.heap.size wo wq := by rw [← hwq]; exact b_draws wo _
          have HBq := Lib.hid (HB.out.trans (hbq.mono HB.out.size))
          clear hwq hbq
          go_wp2
          go_ret
          rw [HR.out]
          exact ⟨rfl, HBq.out⟩
        · have h1b : (p1 == v) = false := by simpa using h1
          have HD2 : Hid (∀ i, i < k + 1 → M.frI l (c.getD i 0) ≠ v ∧ M.toI l (c.getD i 0) ≠ v) := fun j hj => by
            by_cases e : j = k
            · subst e; exact ⟨by rw [hfr]; exact h0, by rw [hto]; exact h1⟩
            · exact HD.out j (by omega)
          clear hfr hto h0 h1 hy hyn hp HD
          go_wp2
          go_quiet (fail)
          generalize hwq : World.drewN wo _ = wq
          have hbq : Below wo.heap.size wo wq := by rw [← hwq]; exact b_draws wo _
          have HBq := Lib.hid (HB.out.trans (hbq.mono HB.out.size))
          have HGq := Lib.hid (HGr.out.below hbq)
          clear hwq hbq
          go_wp2
          go_roundw
          case rel => exact ⟨k + 1, by omega, by go_num, HGq, HBq, HD2⟩
          case measure => simp [intOf]; omega
    · obtain rfl : k = m := by omega
      have HR : Hid ((M.hasB (c.map (M.frI l)) v || M.hasB (c.map (M.toI l)) v) = false) := by
        show _ = _
        rw [M.take_no (fun i hi => (HD.out i (by have := HM.out; omega)).1), M.take_no (fun i hi => (HD.out i (by have := HM.out; omega)).2)]
        rfl
      go_wp2
      go_ret
      rw [HR.out]
      exact ⟨rfl, HB.out⟩
end V
end Go.Proofs.YtlofnadpgnbmdaaGreat

namespace Go.Proofs.YtlofnadpgnbmdaaGreat
namespace V
set_option maxRecDepth 100000
open Go.RowKit
theorem keepB {w0 w w' : World} {B G : Nat} {p q r s : Value} (h : w.cell? ⟨G, 0, none⟩ = some p ∧ w.cell? ⟨G, 1, none⟩ = some q ∧ w.cell? ⟨G + 1, 0, none⟩ = some r ∧ w.cell? ⟨G + 1, 1, none⟩ = some s ∧ Below B w0 w) (hG : G + 1 < B) (hb : Below B w w') :
    w'.cell? ⟨G, 0, none⟩ = some p ∧ w'.cell? ⟨G, 1, none⟩ = some q ∧ w'.cell? ⟨G + 1, 0, none⟩ = some r ∧ w'.cell? ⟨G + 1, 1, none⟩ = some s ∧ Below B w0 w' := by
  obtain ⟨h1, h2, h3, h4, h5⟩ := h
  exact ⟨(hb.cell (p := ⟨G, 0, none⟩) (by show G < B; omega)).trans h1, (hb.cell (p := ⟨G, 1, none⟩) (by show G < B; omega)).trans h2, (hb.cell (p := ⟨G + 1, 0, none⟩) hG).trans h3, (hb.cell (p := ⟨G + 1, 1, none⟩) hG).trans h4, h5.trans hb⟩
theorem belowB {w0 w : World} {B : Nat} {P Q R S : Prop} (h : P ∧ Q ∧ R ∧ S ∧ Below B w0 w) : Below B w0 w := h.2.2.2.2
set_option maxRecDepth 100000 in
set_option maxHeartbeats 8000000 in
theorem sGrowC (N : Nat) (a : Option Addr) (n cap : Nat) (l : List M.Pc) (r0 r1 ov : Int) (hg : M.isGr (N : Int) l = true) (hr : M.isRat r0 r1 = true) (f : Nat) : ∀ (b : Option Addr) (c : Nat) (p : List Int) (B : Nat) (w : World), Pls w a n l → Own w B (.slice b p.length c) p → M.PthC l p → 11 ≤ f + p.length → B ≤ w.heap.size →
    Calls Tryz.prog 157 #[.agg #[.int .i64 N, .slice a n cap], .slice b p.length c, .agg #[.int .i64 r0, .int .i64 r1], .int .i64 ov] w fun e w' => ∃ b' n' c', e = .returned (.slice b' n' c') ∧ Own w' B (.slice b' n' c') (M.fndC (M.overP l r0 r1 ov) (M.extC l f p)) ∧ Below w.heap.size w w' := by
  obtain ⟨he, N1, N2, l30⟩ := M.gr_ev hg
  induction f with
  | zero =>
    intro b c p B w hP hO hp hf hB
    have := M.pth_len he hp
    omega
  | succ f IH =>
    intro b c p B w hP hO hp hf hB
    have hpl := M.pth_len he hp
    have hp1 := hp.1
    have hL := hP.1
    have hn30 : n ≤ 30 := by omega
    have HIH := Lib.hid IH
    have HPl := Lib.hid hP
    have HO := Lib.hid hO
    have HPt := Lib.hid hp
    have HL := Lib.hid hL
    have HEv := Lib.hid he
    have HRt := Lib.hid hr
    -- the first place and the last one
    obtain ⟨m, hm⟩ : ∃ m, p.length = m + 1 := ⟨p.length - 1, by omega⟩
    have h0 := M.nodesB_at hp.2.1 (k := 0) (by omega)
    have hN := M.nodesB_at hp.2.1 (k := m) (by omega)
    obtain ⟨pb, po, x0, rfl, -, hx0, d0⟩ := hO.ints'.at 0 (by omega)
    obtain ⟨pb2, po2, x1, hpe, -, hx1, d1⟩ := hO.ints'.at m (by omega)
    injection hpe with hpe
    injection hpe with e1 e2 e3
    subst e1 e2
    rw [← hx0] at h0
    rw [← hx1] at hN
    obtain ⟨i, rfl⟩ := Int.eq_ofNat_of_zero_le h0.1
    obtain ⟨j, rfl⟩ := Int.eq_ofNat_of_zero_le hN.1
    have hi : i < n := by omega
    have hj : j < n := by omega
    have hi2 : (i : Int) < (n : Int) := by omega
    have hj2 : (j : Int) < (n : Int) := by omega
    obtain ⟨ab, ao, p0, p1, p2, p3, rfl, hab, hpi, c0, c1, c2, c3⟩ := hP.at i hi
    obtain ⟨ab', ao', q0, q1, q2, q3, hpe, hab', hpj, k0, k1, k2, k3⟩ := hP.at j hj
    injection hpe with hpe
    injection hpe with e1 e2
    subst e1 e2
    have hfi : M.frI l (p.getD 0 0) = p0 := by rw [← hx0]; show (l.getD i M.pz).1 = p0; rw [hpi]
    have hli : M.lstI p = (j : Int) := by unfold M.lstI; rw [hm, Nat.add_sub_cancel, ← hx1]
    have hlt : M.toI l (M.lstI p) = q1 := by rw [hli]; show (l.getD j M.pz).2.1 = q1; rw [hpj]
    have HFi := Lib.hid hfi
    have HLt := Lib.hid hlt
    have hm1 : ((p.length : Int) - 1) = (m : Int) := by omega
    have hmb : (m : Int) < (p.length : Int) := by omega
    have hpp : (0 : Int) < (p.length : Int) := by omega
    clear hm
    simp only [Nat.add_zero] at d0
    have hG := GR.new w N (some ⟨ab, ao, none⟩) n cap r0 r1
    obtain ⟨wb, hwb⟩ : ∃ z, z = (w.alloc (.cells #[.int .i64 N, .slice (some ⟨ab, ao, none⟩) n cap] 26)).alloc (.cells #[.int .i64 r0, .int .i64 r1] 37) := ⟨_, rfl⟩
    rw [← hwb] at hG
    have hbb : Below w.heap.size w wb := by rw [hwb]; exact b_alloc2 w _ _
    have HG := Lib.hid hG
    have HWb := Lib.hid hwb.symm
    have d0 := (hbb.cell (p := ⟨pb, po, none⟩) (cell_lt d0)).trans d0
    have d1 := (hbb.cell (p := ⟨pb, po + m, none⟩) (cell_lt d1)).trans d1
    have c0 := (hbb.cell (p := ⟨ab, _, none⟩) hab).trans c0
    have k1 := (hbb.cell (p := ⟨ab, _, none⟩) hab).trans k1
    obtain ⟨⟨g0, g1⟩, ⟨v0, v1⟩, -⟩ := HG.out
    clear hP hO hp hr hwb hG hbb hx0 hx1 h0 hN IH e3 hpi hpj hli hlt hfi hL he c1 c2 c3 k0 k2 k3 hab hab'
    go_enter Tryz.func157, Tryz.ntmps157
    go_wp2
    rw [HWb.out]
    go_quiet (fail)
    generalize hwq : World.drewN wb _ = wq
    have hbq : Below wb.heap.size wb wq := by rw [← hwq]; exact b_draws wb _
    have HGq := Lib.hid (HG.out.step hbq (Nat.le_refl _))
    clear hwq hbq g0 g1 v0 v1 d0 d1 c0 k1 HG
    by_cases hcl : q1 = p0
    · have hclb : (q1 == p0) = true := by simpa using hcl
      have hcir := (M.pth_cir HPt.out (by rw [HLt.out, HFi.out]; exact hcl)).1
      have hX : M.extC l (f + 1) p = [p] := by unfold M.extC; rw [if_pos (by rw [HLt.out, HFi.out]; exact hcl)]
      have hsb := M.sums_bd HEv.out N2 hcir
      have HSm := Lib.hid (sSums N (some ⟨ab, ao, none⟩) n cap l N (some ⟨pb, po, none⟩) p.length c p wq (HPl.out.below HGq.out.2.2) HEv.out (HO.out.ints'.below HGq.out.2.2) (by rw [← HL.out]; exact HPt.out.2.1) (by omega))
      have hrt := M.isRat_t HRt.out
      have HR : Hid (M.fndC (M.overP l r0 r1 ov) (M.extC l (f + 1) p) = if ov < r1 * M.dlS l p - r0 * M.tkS l p then p else []) := by
        show _ = _
        rw [hX]
        unfold M.fndC M.overP M.exC
        by_cases q : ov < r1 * M.dlS l p - r0 * M.tkS l p
        · rw [if_pos q]; simp [q]
        · rw [if_neg q]; simp [q]
      have mm1 := M.mul_bd r1 (M.dlS l p) (by omega) (by omega) (by omega) (by omega)
      have mm2 := M.mul_bd r0 (M.tkS l p) (by omega) (by omega) (by omega) (by omega)
      obtain ⟨D, hD⟩ : ∃ D, D = M.dlS l p := ⟨_, rfl⟩
      obtain ⟨T, hT⟩ : ∃ T, T = M.tkS l p := ⟨_, rfl⟩
      rw [← hD] at HR HSm mm1
      rw [← hT] at HR HSm mm2
      have w1 : IntKind.i64.wrap (r1 * D) = r1 * D := IntWalk.i64_in _ (by omega)
      have w2 : IntKind.i64.wrap (r0 * T) = r0 * T := IntWalk.i64_in _ (by omega)
      have w3 : IntKind.i64.wrap (r1 * D - r0 * T) = r1 * D - r0 * T := IntWalk.i64_in _ (by omega)
      obtain ⟨⟨g0, g1⟩, ⟨v0, v1⟩, -⟩ := HGq.out
      clear hcl hcir hX hsb hrt hD hT mm1 mm2
      go_wp2_with fail
      refine HSm.out.mono ?_
      rintro e w4 ⟨rfl, hb⟩
      have HG4 := Lib.hid (HGq.out.step hb (Nat.le_refl _))
      clear hb g0 g1 v0 v1 HSm
      obtain ⟨⟨g0, g1⟩, ⟨v0, v1⟩, -⟩ := HG4.out
      by_cases hov : ov < r1 * D - r0 * T
      · have HR2 : Hid (M.fndC (M.overP l r0 r1 ov) (M.extC l (f + 1) p) = p) := HR.out.trans (if_pos hov)
        go_wp2
        go_ret
        exact ⟨_, _, _, rfl, by rw [HR2.out]; exact HO.out.below HG4.out.2.2, HG4.out.2.2⟩
      · have HR2 : Hid (M.fndC (M.overP l r0 r1 ov) (M.extC l (f + 1) p) = []) := HR.out.trans (if_neg hov)
        have hov2 : r1 * D - r0 * T ≤ ov := by omega
        go_wp2
        go_ret
        exact ⟨_, _, _, rfl, by rw [HR2.out]; exact own_nil _ _, HG4.out.2.2⟩
    · have hclb : (q1 == p0) = false := by simpa using hcl
      have HNe : Hid (M.toI l (M.lstI p) ≠ M.frI l (p.getD 0 0)) := by show _ ≠ _; rw [HLt.out, HFi.out]; exact hcl
      obtain ⟨G, hG⟩ : ∃ G : Nat → List Int, G = fun i : Nat => if M.okC l p i then M.fndC (M.overP l r0 r1 ov) (M.extC l f (p ++ [(i : Int)])) else [] := ⟨_, rfl⟩
      have HX : Hid (M.fndC (M.overP l r0 r1 ov) (M.extC l (f + 1) p) = M.pick G n 0) := by
        show _ = _
        rw [M.ext_pick HPt.out HNe.out, hG, HL.out]
      have HGg : Hid (∀ i : Nat, G i = if M.okC l p i then M.fndC (M.overP l r0 r1 ov) (M.extC l f (p ++ [(i : Int)])) else []) := fun i => by rw [hG]
      have HVf := Lib.hid (M.vis_first HPt.out HNe.out)
      clear hcl hG
      go_wp2
      go_loopw [13, 14, 15] (fun kv _ _ wr => ∃ k : Nat, k ≤ n ∧ kv = .int .i64 k ∧ Hid (M.pick G n 0 = M.pick G (n - k) k) ∧ Hid (GR w wr w.heap.size N (some ⟨ab, ao, none⟩) n cap r0 r1)) (fun kv _ _ _ => n - (intOf kv).toNat)
      case atStart => exact ⟨0, Nat.zero_le _, rfl, rfl, HGq⟩
      case round =>
        obtain ⟨k, hk, rfl, HK, HGr⟩ := hrel
        obtain ⟨wo, rfl⟩ : ∃ x, x = wr := ⟨_, rfl⟩
        obtain ⟨⟨g0, g1⟩, ⟨v0, v1⟩, -⟩ := HGr.out
        have hs1 : w.heap.size < wo.heap.size := cell_lt g0
        have hs2 : w.heap.size + 1 < wo.heap.size := cell_lt v0
        by_cases hkn : k < n
        · have hki : (k : Int) < (n : Int) := by omega
          obtain ⟨ab', ao', t0, t1, t2, t3, hpe, hab, hp, y0, y1, y2, y3⟩ := (HPl.out.below HGr.out.2.2).at k hkn
          injection hpe with hpe
          injection hpe with e1 e2
          subst e1 e2
          have hfk : M.frI l (k : Int) = t0 := by show (l.getD k M.pz).1 = t0; rw [hp]
          have htk : M.toI l (k : Int) = t1 := by show (l.getD k M.pz).2.1 = t1; rw [hp]
          by_cases h0 : t0 = q1
          · have h0b : (t0 != q1) = false := by simpa using h0
            by_cases h1 : t1 < p0
            · have HKn : Hid (M.pick G n 0 = M.pick G (n - (k + 1)) (k + 1)) := HK.out.trans (M.pick_no hkn (by
                rw [HGg.out]
                have : M.okC l p k = false := by unfold M.okC; rw [htk, HFi.out, decide_eq_false (show ¬ p0 ≤ t1 by omega)]; simp
                rw [this]; rfl))
              clear hfk htk h0 hp
              go_wp2
              go_roundw
              case rel => exact ⟨k + 1, by omega, by go_num, HKn, HGr.out.step (b_alloc wo _) (Nat.le_refl _)⟩
              case measure => simp [intOf]; omega
            · have h1' : p0 ≤ t1 := by omega
              have hok0 : M.okC l p k = !M.hasB (p.map (M.toI l)) t1 := by
                unfold M.okC
                rw [hfk, htk, HLt.out, HFi.out, decide_eq_true h0, decide_eq_true h1']
                simp
              obtain ⟨u, hu⟩ : ∃ u, u = M.hasB (p.map (M.toI l)) t1 := ⟨_, rfl⟩
              rw [← hu] at hok0
              have HVs : Hid (t1 ≠ p0 → ∀ W, Below w.heap.size w W → Calls Tryz.prog 172 #[.agg #[.int .i64 N, .slice (some ⟨ab, ao, none⟩) n cap], .slice (some ⟨pb, po, none⟩) p.length c, .int .i64 t1] W fun e w' => e = .returned (.bool u) ∧ Below W.heap.size W w') := fun hne W hW => by
                have := sVisits N (some ⟨ab, ao, none⟩) n cap l (some ⟨pb, po, none⟩) p.length c p t1 W (HPl.out.below hW) (HO.out.ints'.below hW) (by rw [← HL.out]; exact HPt.out.2.1) (by omega)
                rw [M.vis_eq HPt.out (by rw [HFi.out]; exact hne), ← hu] at this
                exact this
              have HOk := Lib.hid hok0
              have HUf : Hid (t1 = p0 → u = false) := fun e => by rw [hu, e]; have := HVf.out; rw [HFi.out] at this; exact this
              clear hfk htk h0 hp hu hok0
              cases u with
              | true =>
                have h2 : t1 ≠ p0 := fun e => by have := HUf.out e; cases this
                have h2b : (t1 != p0) = true := by simpa using h2
                have HV1 := Lib.hid (HVs.out h2)
                have HKn : Hid (M.pick G n 0 = M.pick G (n - (k + 1)) (k + 1)) := HK.out.trans (M.pick_no hkn (by rw [HGg.out, HOk.out]; rfl))
                obtain ⟨wA, hwA⟩ : ∃ z, z = wo.alloc (.cells #[.int .i64 t0, .int .i64 t1, .int .i64 t2, .int .i64 t3] 71) := ⟨_, rfl⟩
                have HGA := Lib.hid (HGr.out.step (by rw [hwA]; exact b_alloc wo _ : Below wo.heap.size wo wA) (Nat.le_refl _))
                have HWa := Lib.hid hwA.symm
                clear h2 hwA
                go_wp2_with fail
                rw [HWa.out]
                refine (HV1.out _ HGA.out.2.2).mono ?_
                rintro e w4 ⟨rfl, hb⟩
                have HG4 := Lib.hid (HGA.out.step hb (Nat.le_refl _))
                clear hb
                go_wp2
                go_roundw
                case rel => exact ⟨k + 1, by omega, by go_num, HKn, HG4⟩
                case measure => simp [intOf]; omega
              | false =>
                obtain ⟨wA, hwA⟩ : ∃ z, z = wo.alloc (.cells #[.int .i64 t0, .int .i64 t1, .int .i64 t2, .int .i64 t3] 71) := ⟨_, rfl⟩
                have HGA := Lib.hid (HGr.out.step (by rw [hwA]; exact b_alloc wo _ : Below wo.heap.size wo wA) (Nat.le_refl _))
                have HWa := Lib.hid hwA.symm
                by_cases h2 : t1 = p0
                · have h2b : (t1 != p0) = false := by simpa using h2
                  clear h2 hwA
                  go_wp2
                  rw [HWa.out]
                  clear g0 g1 v0 v1 y0 y1 y2 y3
                  obtain ⟨t, ht⟩ : ∃ t, t = M.fndC (M.overP l r0 r1 ov) (M.extC l f (p ++ [(k : Int)])) := ⟨_, rfl⟩
                  have HTt := Lib.hid ht
                  have HGk : Hid (G k = t) := by show _ = _; rw [HGg.out, HOk.out]; exact ht.symm
                  have HP2 := Lib.hid (M.pth_snoc HPt.out HNe.out (by rw [HL.out]; exact hkn) HOk.out)
                  have HIHk : Hid (∀ b c W, Below w.heap.size w W → Own W wA.heap.size (.slice b (p.length + 1) c) (p ++ [(k : Int)]) → wA.heap.size ≤ W.heap.size → Calls Tryz.prog 157 #[.agg #[.int .i64 N, .slice (some ⟨ab, ao, none⟩) n cap], .slice b (p.length + 1) c, .agg #[.int .i64 r0, .int .i64 r1], .int .i64 ov] W fun e w' => ∃ b' n' c', e = .returned (.slice b' n' c') ∧ Own w' wA.heap.size (.slice b' n' c') t ∧ Below W.heap.size W w') := fun b c W hW ho hz => by
                    have := HIH.out b c (p ++ [(k : Int)]) wA.heap.size W (HPl.out.below hW) (by rw [List.length_append]; exact ho) HP2.out (by rw [List.length_append]; simp; omega) hz
                    rw [List.length_append, ← HTt.out] at this
                    exact this
                  obtain ⟨⟨g0, g1⟩, ⟨v0, v1⟩, -⟩ := HGA.out
                  have hlz : w.heap.size + 1 < wA.heap.size := cell_lt v0
                  have HIq : Hid (Ints .i64 wA.drew (some ⟨pb, po, none⟩) p.length p) := HO.out.ints'.below HGA.out.2.2.drew
                  have HWZ : Hid (Below w.heap.size w wA) := HGA.out.2.2
                  clear ht
                  go_wp2
                  go_region_held3 (fun w' => w'.cell? ⟨w.heap.size, 0, none⟩ = some (.int .i64 N) ∧ w'.cell? ⟨w.heap.size, 1, none⟩ = some (.slice (some ⟨ab, ao, none⟩) n cap) ∧ w'.cell? ⟨w.heap.size + 1, 0, none⟩ = some (.int .i64 r0) ∧ w'.cell? ⟨w.heap.size + 1, 1, none⟩ = some (.int .i64 r1) ∧ Below wA.heap.size wA w')
                    (first
                      | exact ⟨g0, g1, v0, v1, (Below.refl _ _).drew⟩
                      | exact keepB ‹_ ∧ _ ∧ _ ∧ _ ∧ Below _ _ _› hlz HBa.out
                      | exact keepB ‹_ ∧ _ ∧ _ ∧ _ ∧ Below _ _ _› hlz (HBo.out.mono (belowB ‹_ ∧ _ ∧ _ ∧ _ ∧ Below _ _ _›).size)
                      | exact keepB ‹_ ∧ _ ∧ _ ∧ _ ∧ Below _ _ _› hlz (HBc.out.mono (belowB ‹_ ∧ _ ∧ _ ∧ _ ∧ Below _ _ _›).size)
                      | exact keepB ‹_ ∧ _ ∧ _ ∧ _ ∧ Below _ _ _› hlz ((b_alloc _ _).mono (belowB ‹_ ∧ _ ∧ _ ∧ _ ∧ Below _ _ _›).size))
                    (first
                      | (go_at_call 170; refine (sOwn _ _ _ p _ ?hh ?h1 ?h2).mono ?_; (case hh => (first | exact HIq.out | exact HIq.out.below (b_alloc _ _))); (case h1 => omega); (case h2 => omega); rintro e w1 ⟨b1, c1, rfl, ho, hb⟩; have HO1 := Lib.hid ho; have HBo := Lib.hid hb; clear ho hb)
                      | (go_at_call 157; refine (HIHk.out _ _ _ ?hs HO2.out ?hz).mono ?_; (case hs => exact HWZ.out.trans ((belowB ‹_ ∧ _ ∧ _ ∧ _ ∧ Below _ _ _›).mono HWZ.out.size)); (case hz => exact (belowB ‹_ ∧ _ ∧ _ ∧ _ ∧ Below _ _ _›).size); rintro e w3 ⟨b3, n3, c3, rfl, ho, hb⟩; have HO3 := Lib.hid ho; have HBc := Lib.hid hb; clear ho hb)
                      | (refine step_append1 _ rfl _ _ rfl wA.heap.size _ p (k : Int) _ p.length rfl rfl ?ho rfl ?hy ?hl ?hb ?_; (case ho => (first | exact HO1.out.mono (Nat.le_refl _) | exact HO1.out.mono (by simp) | exact (HO1.out.below (b_alloc _ _)).mono (Nat.le_refl _))); (case hy => (first | (simp; done) | exact new_kept (wd := wA.drew) HBo.out)); (case hl => omega); (case hb => exact (belowB ‹_ ∧ _ ∧ _ ∧ _ ∧ Below _ _ _›).size); intro b2 c2 w2 ho hb; have HO2 := Lib.hid ho; have HBa := Lib.hid hb; clear ho hb))
                  all_goals
                    have hbz : Below wA.heap.size wA w3 := by
                      first
                        | exact belowB ‹_ ∧ _ ∧ _ ∧ _ ∧ Below _ _ _›
                        | exact (belowB ‹_ ∧ _ ∧ _ ∧ _ ∧ Below wA.heap.size wA w2›).trans (HBc.out.mono (belowB ‹_ ∧ _ ∧ _ ∧ _ ∧ Below wA.heap.size wA w2›).size)
                    have HG3 := Lib.hid (HGA.out.step hbz (Nat.le_refl _))
                    have hlt := HO3.out.len
                    clear hbz
                    by_cases hn3 : n3 = 0
                    · subst hn3
                      have HKn : Hid (M.pick G n 0 = M.pick G (n - (k + 1)) (k + 1)) := HK.out.trans (M.pick_no hkn (by rw [HGk.out]; exact hlt.symm))
                      clear hlt
                      go_wp2
                      go_roundw
                      case rel => exact ⟨k + 1, by omega, by go_num, HKn, HG3⟩
                      case measure => simp [intOf]; omega
                    · have HE : Hid (M.fndC (M.overP l r0 r1 ov) (M.extC l (f + 1) p) = t) := HX.out.trans (HK.out.trans ((M.pick_yes hkn (by rw [HGk.out]; omega)).trans HGk.out))
                      have hn3p : 0 < n3 := by omega
                      clear hlt
                      go_wp2
                      go_ret
                      exact ⟨_, _, _, rfl, by rw [HE.out]; exact HO3.out.mono (Nat.le_trans hB HWZ.out.size), HG3.out.2.2⟩
                · have h2b : (t1 != p0) = true := by simpa using h2
                  have HV1 := Lib.hid (HVs.out h2)
                  clear h2 hwA
                  go_wp2_with fail
                  rw [HWa.out]
                  refine (HV1.out _ HGA.out.2.2).mono ?_
                  rintro e w4 ⟨rfl, hb⟩
                  have HG4 := Lib.hid (HGA.out.step hb (Nat.le_refl _))
                  clear hb g0 g1 v0 v1 y0 y1 y2 y3
                  obtain ⟨t, ht⟩ : ∃ t, t = M.fndC (M.overP l r0 r1 ov) (M.extC l f (p ++ [(k : Int)])) := ⟨_, rfl⟩
                  have HTt := Lib.hid ht
                  have HGk : Hid (G k = t) := by show _ = _; rw [HGg.out, HOk.out]; exact ht.symm
                  have HP2 := Lib.hid (M.pth_snoc HPt.out HNe.out (by rw [HL.out]; exact hkn) HOk.out)
                  have HIHk : Hid (∀ b c W, Below w.heap.size w W → Own W w4.heap.size (.slice b (p.length + 1) c) (p ++ [(k : Int)]) → w4.heap.size ≤ W.heap.size → Calls Tryz.prog 157 #[.agg #[.int .i64 N, .slice (some ⟨ab, ao, none⟩) n cap], .slice b (p.length + 1) c, .agg #[.int .i64 r0, .int .i64 r1], .int .i64 ov] W fun e w' => ∃ b' n' c', e = .returned (.slice b' n' c') ∧ Own w' w4.heap.size (.slice b' n' c') t ∧ Below W.heap.size W w') := fun b c W hW ho hz => by
                    have := HIH.out b c (p ++ [(k : Int)]) w4.heap.size W (HPl.out.below hW) (by rw [List.length_append]; exact ho) HP2.out (by rw [List.length_append]; simp; omega) hz
                    rw [List.length_append, ← HTt.out] at this
                    exact this
                  obtain ⟨⟨g0, g1⟩, ⟨v0, v1⟩, -⟩ := HG4.out
                  have hlz : w.heap.size + 1 < w4.heap.size := cell_lt v0
                  have HIq : Hid (Ints .i64 w4.drew (some ⟨pb, po, none⟩) p.length p) := HO.out.ints'.below HG4.out.2.2.drew
                  have HWZ : Hid (Below w.heap.size w w4) := HG4.out.2.2
                  clear ht
                  go_wp2
                  go_region_held3 (fun w' => w'.cell? ⟨w.heap.size, 0, none⟩ = some (.int .i64 N) ∧ w'.cell? ⟨w.heap.size, 1, none⟩ = some (.slice (some ⟨ab, ao, none⟩) n cap) ∧ w'.cell? ⟨w.heap.size + 1, 0, none⟩ = some (.int .i64 r0) ∧ w'.cell? ⟨w.heap.size + 1, 1, none⟩ = some (.int .i64 r1) ∧ Below w4.heap.size w4 w')
                    (first
                      | exact ⟨g0, g1, v0, v1, (Below.refl _ _).drew⟩
                      | exact keepB ‹_ ∧ _ ∧ _ ∧ _ ∧ Below _ _ _› hlz HBa.out
                      | exact keepB ‹_ ∧ _ ∧ _ ∧ _ ∧ Below _ _ _› hlz (HBo.out.mono (belowB ‹_ ∧ _ ∧ _ ∧ _ ∧ Below _ _ _›).size)
                      | exact keepB ‹_ ∧ _ ∧ _ ∧ _ ∧ Below _ _ _› hlz (HBc.out.mono (belowB ‹_ ∧ _ ∧ _ ∧ _ ∧ Below _ _ _›).size)
                      | exact keepB ‹_ ∧ _ ∧ _ ∧ _ ∧ Below _ _ _› hlz ((b_alloc _ _).mono (belowB ‹_ ∧ _ ∧ _ ∧ _ ∧ Below _ _ _›).size))
                    (first
                      | (go_at_call 170; refine (sOwn _ _ _ p _ ?hh ?h1 ?h2).mono ?_; (case hh => (first | exact HIq.out | exact HIq.out.below (b_alloc _ _))); (case h1 => omega); (case h2 => omega); rintro e w1 ⟨b1, c1, rfl, ho, hb⟩; have HO1 := Lib.hid ho; have HBo := Lib.hid hb; clear ho hb)
                      | (go_at_call 157; refine (HIHk.out _ _ _ ?hs HO2.out ?hz).mono ?_; (case hs => exact HWZ.out.trans ((belowB ‹_ ∧ _ ∧ _ ∧ _ ∧ Below _ _ _›).mono HWZ.out.size)); (case hz => exact (belowB ‹_ ∧ _ ∧ _ ∧ _ ∧ Below _ _ _›).size); rintro e w3 ⟨b3, n3, c3, rfl, ho, hb⟩; have HO3 := Lib.hid ho; have HBc := Lib.hid hb; clear ho hb)
                      | (refine step_append1 _ rfl _ _ rfl w4.heap.size _ p (k : Int) _ p.length rfl rfl ?ho rfl ?hy ?hl ?hb ?_; (case ho => (first | exact HO1.out.mono (Nat.le_refl _) | exact HO1.out.mono (by simp) | exact (HO1.out.below (b_alloc _ _)).mono (Nat.le_refl _))); (case hy => (first | (simp; done) | exact new_kept (wd := w4.drew) HBo.out)); (case hl => omega); (case hb => exact (belowB ‹_ ∧ _ ∧ _ ∧ _ ∧ Below _ _ _›).size); intro b2 c2 w2 ho hb; have HO2 := Lib.hid ho; have HBa := Lib.hid hb; clear ho hb))
                  all_goals
                    have hbz : Below w4.heap.size w4 w3 := by
                      first
                        | exact belowB ‹_ ∧ _ ∧ _ ∧ _ ∧ Below _ _ _›
                        | exact (belowB ‹_ ∧ _ ∧ _ ∧ _ ∧ Below w4.heap.size w4 w2›).trans (HBc.out.mono (belowB ‹_ ∧ _ ∧ _ ∧ _ ∧ Below w4.heap.size w4 w2›).size)
                    have HG3 := Lib.hid (HG4.out.step hbz (Nat.le_refl _))
                    have hlt := HO3.out.len
                    clear hbz
                    by_cases hn3 : n3 = 0
                    · subst hn3
                      have HKn : Hid (M.pick G n 0 = M.pick G (n - (k + 1)) (k + 1)) := HK.out.trans (M.pick_no hkn (by rw [HGk.out]; exact hlt.symm))
                      clear hlt
                      go_wp2
                      go_roundw
                      case rel => exact ⟨k + 1, by omega, by go_num, HKn, HG3⟩
                      case measure => simp [intOf]; omega
                    · have HE : Hid (M.fndC (M.overP l r0 r1 ov) (M.extC l (f + 1) p) = t) := HX.out.trans (HK.out.trans ((M.pick_yes hkn (by rw [HGk.out]; omega)).trans HGk.out))
                      have hn3p : 0 < n3 := by omega
                      clear hlt
                      go_wp2
                      go_ret
                      exact ⟨_, _, _, rfl, by rw [HE.out]; exact HO3.out.mono (Nat.le_trans hB HWZ.out.size), HG3.out.2.2⟩
          · have h0b : (t0 != q1) = true := by simpa using h0
            have HKn : Hid (M.pick G n 0 = M.pick G (n - (k + 1)) (k + 1)) := HK.out.trans (M.pick_no hkn (by
              rw [HGg.out]
              have : M.okC l p k = false := by unfold M.okC; rw [hfk, HLt.out, decide_eq_false h0]; rfl
              rw [this]; rfl))
            clear hfk htk h0 hp
            go_wp2
            go_roundw
            case rel => exact ⟨k + 1, by omega, by go_num, HKn, HGr.out.step (b_alloc wo _) (Nat.le_refl _)⟩
            case measure => simp [intOf]; omega
        · obtain rfl : k = n := by omega
          have HE : Hid (M.fndC (M.overP l r0 r1 ov) (M.extC l (f + 1) p) = []) := HX.out.trans (HK.out.trans M.pick_end)
          go_wp2
          go_ret
          exact ⟨_, _, _, rfl, by rw [HE.out]; exact own_nil _ _, HGr.out.2.2⟩
end V
end Go.Proofs.YtlofnadpgnbmdaaGreat

namespace Go.Proofs.YtlofnadpgnbmdaaGreat
namespace V
set_option maxRecDepth 100000
open Go.RowKit
set_option maxRecDepth 100000 in
set_option maxHeartbeats 4000000 in
theorem sOverC (N : Nat) (a : Option Addr) (n cap : Nat) (l : List M.Pc) (r0 r1 ov : Int) (w : World) (h : Pls w a n l) (hg : M.isGr (N : Int) l = true) (hr : M.isRat r0 r1 = true) :
    Calls Tryz.prog 130 #[.agg #[.int .i64 N, .slice a n cap], .agg #[.int .i64 r0, .int .i64 r1], .int .i64 ov] w fun e w' => ∃ b' n' c', e = .returned (.slice b' n' c') ∧ Own w' w.heap.size (.slice b' n' c') (M.fndC (M.overP l r0 r1 ov) (M.allC l 10)) ∧ Below w.heap.size w w' := by
  obtain ⟨he, N1, N2, l30⟩ := M.gr_ev hg
  have hL := h.1
  have hn30 : n ≤ 30 := by omega
  have HP := Lib.hid h
  have HL := Lib.hid hL
  have HGr := Lib.hid hg
  have HRt := Lib.hid hr
  have hG := GR.new w N a n cap r0 r1
  obtain ⟨wb, hwb⟩ : ∃ z, z = (w.alloc (.cells #[.int .i64 N, .slice a n cap] 26)).alloc (.cells #[.int .i64 r0, .int .i64 r1] 37) := ⟨_, rfl⟩
  rw [← hwb] at hG
  have HG := Lib.hid hG
  have HWb := Lib.hid hwb.symm
  obtain ⟨G, hGG⟩ : ∃ G : Nat → List Int, G = fun i : Nat => if M.frI l i ≤ M.toI l i then M.fndC (M.overP l r0 r1 ov) (M.extC l 10 [(i : Int)]) else [] := ⟨_, rfl⟩
  have HX : Hid (M.fndC (M.overP l r0 r1 ov) (M.allC l 10) = M.pick G n 0) := by show _ = _; rw [M.all_pick, hGG, hL]
  have HGg : Hid (∀ i : Nat, G i = if M.frI l i ≤ M.toI l i then M.fndC (M.overP l r0 r1 ov) (M.extC l 10 [(i : Int)]) else []) := fun i => by rw [hGG]
  clear h hg hr hL hwb hG hGG he
  go_enter Tryz.func130, Tryz.ntmps130
  go_wp2
  rw [HWb.out]
  go_loopw [7, 8, 9] (fun kv _ _ wr => ∃ k : Nat, k ≤ n ∧ kv = .int .i64 k ∧ Hid (M.pick G n 0 = M.pick G (n - k) k) ∧ Hid (GR w wr w.heap.size N a n cap r0 r1)) (fun kv _ _ _ => n - (intOf kv).toNat)
  case atStart => exact ⟨0, Nat.zero_le _, rfl, rfl, HG⟩
  case round =>
    obtain ⟨k, hk, rfl, HK, HGk⟩ := hrel
    obtain ⟨wo, rfl⟩ : ∃ x, x = wr := ⟨_, rfl⟩
    obtain ⟨⟨g0, g1⟩, ⟨v0, v1⟩, -⟩ := HGk.out
    have hs1 : w.heap.size < wo.heap.size := cell_lt g0
    have hs2 : w.heap.size + 1 < wo.heap.size := cell_lt v0
    by_cases hkn : k < n
    · have hki : (k : Int) < (n : Int) := by omega
      obtain ⟨ab, ao, t0, t1, t2, t3, rfl, hab, hp, y0, y1, y2, y3⟩ := (HP.out.below HGk.out.2.2).at k hkn
      have hfk : M.frI l (k : Int) = t0 := by show (l.getD k M.pz).1 = t0; rw [hp]
      have htk : M.toI l (k : Int) = t1 := by show (l.getD k M.pz).2.1 = t1; rw [hp]
      by_cases h1 : t1 < t0
      · have HKn : Hid (M.pick G n 0 = M.pick G (n - (k + 1)) (k + 1)) := HK.out.trans (M.pick_no hkn (by
          rw [HGg.out, hfk, htk, if_neg (by omega)]; rfl))
        clear hfk htk hp
        go_wp2
        go_roundw
        case rel => exact ⟨k + 1, by omega, by go_num, HKn, HGk.out.step (b_alloc wo _) (Nat.le_refl _)⟩
        case measure => simp [intOf]; omega
      · obtain ⟨t, ht⟩ : ∃ t, t = M.fndC (M.overP l r0 r1 ov) (M.extC l 10 [(k : Int)]) := ⟨_, rfl⟩
        have HGk2 : Hid (G k = t) := by show _ = _; rw [HGg.out, hfk, htk, if_pos (by omega)]; exact ht.symm
        have HPt := Lib.hid (M.pth_one (l := l) (i := k) (by rw [HL.out]; exact hkn) (by rw [hfk, htk]; omega))
        obtain ⟨wB, hwB⟩ : ∃ z, z = (wo.alloc (.cells #[.int .i64 t0, .int .i64 t1, .int .i64 t2, .int .i64 t3] 71)).alloc (.cells #[.int .i64 k] 2) := ⟨_, rfl⟩
        have hbB : Below wo.heap.size wo wB := by rw [hwB]; exact b_alloc2 wo _ _
        have HGB := Lib.hid (HGk.out.step hbB (Nat.le_refl _))
        have HLit : Hid (Own wB w.heap.size (.slice (some ⟨wo.heap.size + 1, 0, none⟩) 1 1) [(k : Int)]) := by
          have := rlit (wo.alloc (.cells #[.int .i64 t0, .int .i64 t1, .int .i64 t2, .int .i64 t3] 71)) w.heap.size (k : Int) (by simp; omega)
          rw [World.size_alloc] at this
          show Own _ _ _ _
          rw [hwB]; exact this
        have HGw := Lib.hid (sGrowC N (some ⟨ab, ao, none⟩) n cap l r0 r1 ov HGr.out HRt.out 10 (some ⟨wo.heap.size + 1, 0, none⟩) 1 [(k : Int)] w.heap.size wB (HP.out.below HGB.out.2.2) HLit.out HPt.out (by simp) HGB.out.2.2.size)
        rw [← ht] at HGw
        have HWB := Lib.hid hwB.symm
        clear hfk htk hp ht hwB hbB
        go_wp2_with fail
        rw [HWB.out]
        refine HGw.out.mono ?_
        rintro e w3 ⟨b3, n3, c3, rfl, ho, hb⟩
        have HO3 := Lib.hid ho
        have HG3 := Lib.hid (HGB.out.step hb (Nat.le_refl _))
        have hlt := ho.len
        clear ho hb HGw
        by_cases hn3 : n3 = 0
        · subst hn3
          have HKn : Hid (M.pick G n 0 = M.pick G (n - (k + 1)) (k + 1)) := HK.out.trans (M.pick_no hkn (by rw [HGk2.out]; exact hlt.symm))
          clear hlt
          go_wp2
          go_roundw
          case rel => exact ⟨k + 1, by omega, by go_num, HKn, HG3⟩
          case measure => simp [intOf]; omega
        · have HE : Hid (M.fndC (M.overP l r0 r1 ov) (M.allC l 10) = t) := HX.out.trans (HK.out.trans ((M.pick_yes hkn (by rw [HGk2.out]; omega)).trans HGk2.out))
          have hn3p : 0 < n3 := by omega
          clear hlt
          go_wp2
          go_ret
          exact ⟨_, _, _, rfl, by rw [HE.out]; exact HO3.out, HG3.out.2.2⟩
    · obtain rfl : k = n := by omega
      have HE : Hid (M.fndC (M.overP l r0 r1 ov) (M.allC l 10) = []) := HX.out.trans (HK.out.trans M.pick_end)
      go_wp2
      go_ret
      exact ⟨_, _, _, rfl, by rw [HE.out]; exact own_nil _ _, HGk.out.2.2⟩
/-- The integers of a slice, as the world has them. -/
def rdL (w : World) : Value → List Int
  | .slice (some ⟨b, off, _⟩) n _ => (List.range n).map fun i => match w.cell? ⟨b, off + i, none⟩ with | some (.int _ x) => x | _ => 0
  | _ => []
theorem rdL_own {w : World} {B n c : Nat} {a : Option Addr} {l : List Int} (h0 : Own w B (.slice a n c) l) : rdL w (.slice a n c) = l := by
  obtain ⟨h1, -, h3⟩ := h0.ints'
  rcases h3 with h3 | ⟨b, off, rfl, -, h3⟩
  · subst h3
    obtain rfl : l = [] := List.eq_nil_of_length_eq_zero h1
    cases a <;> rfl
  · show (List.range n).map _ = l
    apply List.ext_getElem
    · simp [h1]
    · intro k k1 k2
      have e := h3 k (by omega)
      simp only [List.getElem_map, List.getElem_range, e]
      simp [k2]
set_option maxRecDepth 100000 in
set_option maxHeartbeats 4000000 in
theorem sBestC (N : Nat) (a : Option Addr) (n cap : Nat) (l : List M.Pc) (w : World) (h : Pls w a n l) (hg : M.isGr (N : Int) l = true) (hlv : ∀ c, M.cirB l c = true → M.tkS l c ≠ 0) :
    Calls Tryz.prog 78 #[.agg #[.int .i64 N, .slice a n cap]] w fun e w' => ∃ b' n' c', e = .returned (.tuple #[.slice b' n' c', .bool (decide (M.allC l 10 ≠ []))]) ∧ Own w' w.heap.size (.slice b' n' c') (M.bstL l (M.allC l 10)) ∧ Below w.heap.size w w' := by
  obtain ⟨he, N1, N2, l30⟩ := M.gr_ev hg
  have hPo := M.posi_all he N2 hlv 10
  have HPo := Lib.hid hPo
  have HP := Lib.hid h
  have HGr := Lib.hid hg
  have HEv := Lib.hid he
  have HLn : Hid (l.length = n) := h.1
  have hG := gBox_new w N a n cap 26
  have hb0 := b_alloc w (.cells #[.int .i64 N, .slice a n cap] 26)
  obtain ⟨wb, hwb⟩ : ∃ z, z = w.alloc (.cells #[.int .i64 N, .slice a n cap] 26) := ⟨_, rfl⟩
  rw [← hwb] at hG hb0
  have HB0 := Lib.hid hb0
  have HG := Lib.hid hG
  have HWb := Lib.hid hwb.symm
  have HOv : Hid (∀ W r0 r1 ov, Below w.heap.size w W → M.isRat r0 r1 = true → Calls Tryz.prog 130 #[.agg #[.int .i64 N, .slice a n cap], .agg #[.int .i64 r0, .int .i64 r1], .int .i64 ov] W fun e w' => ∃ b' n' c', e = .returned (.slice b' n' c') ∧ Own w' W.heap.size (.slice b' n' c') (M.fndC (M.overP l r0 r1 ov) (M.allC l 10)) ∧ Below W.heap.size W w') := fun W r0 r1 ov hW hr => sOverC N a n cap l r0 r1 ov W (h.below hW) hg hr
  have HC1 := Lib.hid (HOv.out wb 0 1 (-1) HB0.out (by decide))
  rw [M.over_start hPo] at HC1
  have HSm : Hid (∀ W b m c q, Below w.heap.size w W → Ints .i64 W b m q → M.cirB l q = true → Calls Tryz.prog 79 #[.agg #[.int .i64 N, .slice a n cap], .slice b m c] W fun e w' => e = .returned (.tuple #[.int .i64 (M.dlS l q), .int .i64 (M.tkS l q)]) ∧ Below W.heap.size W w') := fun W b m c q hW hI hq => by
    have := M.cir_len he hq
    exact sSums N a n cap l N b m c q W (h.below hW) he hI (by rw [← h.1]; exact (M.cir_t hq).2.1) (by have := hI.1; omega)
  obtain ⟨L, hL⟩ : ∃ L, L = M.allC l 10 := ⟨_, rfl⟩
  have HAm : Hid (∀ q ∈ L, M.cirB l q = true) := fun q hq => (M.all_mem (by rw [← hL]; exact hq)).1
  rw [← hL] at HC1 HOv HPo ⊢
  clear h hg hlv he hG hb0 hwb hPo
  obtain ⟨g0, g1⟩ := HG.out
  go_enter Tryz.func78, Tryz.ntmps78
  go_wp2_with fail
  rw [HWb.out]
  refine HC1.out.mono ?_
  rintro e w1 ⟨b1, n1, c1, rfl, ho, hb⟩
  have HO1 : Hid (Own w1 w.heap.size (.slice b1 n1 c1) (L.headD [])) := ho.mono HB0.out.size
  have HG1 := Lib.hid (HG.out.below hb)
  have HB1 := Lib.hid (HB0.out.trans (hb.mono HB0.out.size))
  have HQ1 : Hid ((L.headD [] = [] ∧ L = []) ∨ L.headD [] ∈ L) := by
    show _ ∨ _
    cases L with
    | nil => exact .inl ⟨rfl, rfl⟩
    | cons c L => exact .inr List.mem_cons_self
  clear ho hb g0 g1 HC1
  go_wp2
  go_loopw [4, 5, 6, 7, 8] (fun v _ _ _ _ wr => ∃ (b : Option Addr) (m c : Nat) (q : List Int), v = .slice b m c ∧ Hid (Own wr w.heap.size (.slice b m c) q) ∧ Hid ((q = [] ∧ L = []) ∨ q ∈ L) ∧ Hid (GBox wr w.heap.size N a n cap) ∧ Hid (Below w.heap.size w wr)) (fun v _ _ _ _ wr => M.muC l L (rdL wr v))
  case atStart => exact ⟨b1, n1, c1, _, rfl, HO1, HQ1, HG1, HB1⟩
  case round =>
    clear HO1 HQ1 HG1 HB1
    obtain ⟨b, m, c, q, rfl, HO, HQ, HGr2, HB⟩ := hrel
    obtain ⟨wo, rfl⟩ : ∃ x, x = wr := ⟨_, rfl⟩
    obtain ⟨g0, g1⟩ := HGr2.out
    have hml := HO.out.len
    rcases HQ.out with ⟨hq0, hL0⟩ | hq
    · have hm0 : m = 0 := by rw [hml, hq0]; rfl
      have HE : Hid (M.bstL l L = [] ∧ decide (L ≠ []) = false) := by rw [hL0]; exact ⟨rfl, by simp⟩
      subst hm0
      clear hq0 hL0 hml
      go_wp2
      go_ret2
      refine ⟨none, 0, 0, ?_, ?_, HB.out⟩
      · rw [HE.out.2]; rfl
      · rw [HE.out.1]; exact own_nil _ _
    · have hcq := HAm.out q hq
      have hpq := HPo.out q hq
      have hsb := M.sums_bd HEv.out N2 hcq
      have hm1 : 0 < m := by rw [hml]; exact (M.cir_t hcq).1
      have HQm := Lib.hid hq
      have hfd : M.isFin (M.dlS l q) = true := by simp [M.isFin]; omega
      have hft : M.isFin (M.tkS l q) = true := by simp [M.isFin]; omega
      have HRq : Hid (M.isRat (M.cirQ l q).1 (M.cirQ l q).2 = true) := M.rat_ok hfd hft (by omega)
      have HS1 := Lib.hid (HSm.out wo b m c q HB.out HO.out.ints' hcq)
      have HRr : Hid (∀ W, Calls Tryz.prog 80 #[.int .i64 (M.dlS l q), .int .i64 (M.tkS l q)] W fun e w' => e = .returned (.agg #[.int .i64 (M.cirQ l q).1, .int .i64 (M.cirQ l q).2]) ∧ Below W.heap.size W w') := fun W => sRatio (M.dlS l q) (M.tkS l q) W (by omega) (by omega) (by omega) (by omega) (by omega)
      have HLne : Hid (decide (L ≠ []) = true) := by
        show _ = _
        rw [decide_eq_true_eq]
        rintro rfl
        cases hq
      clear hml hcq hpq hsb hfd hft hq
      go_wp2_with fail
      refine HS1.out.mono ?_
      rintro e w2 ⟨rfl, hb⟩
      have HB2 := Lib.hid (HB.out.trans (hb.mono HB.out.size))
      have HG2 := Lib.hid (HGr2.out.below hb)
      have HO2 := Lib.hid (HO.out.below hb)
      clear hb g0 g1 HS1
      obtain ⟨g0, g1⟩ := HG2.out
      go_wp2_with fail
      refine (HRr.out _).mono ?_
      rintro e w3 ⟨rfl, hb⟩
      obtain ⟨w4, hw4⟩ : ∃ z, z = w3.alloc (.cells #[.int .i64 (M.cirQ l q).1, .int .i64 (M.cirQ l q).2] 37) := ⟨_, rfl⟩
      have hb4 : Below w3.heap.size w3 w4 := by rw [hw4]; exact b_alloc w3 _
      have HR4 : Hid (RQ w4 w3.heap.size (M.cirQ l q)) := by show RQ _ _ _; rw [hw4]; exact RQ.new w3 _ _
      have hb24 : Below w2.heap.size w2 w4 := hb.trans (hb4.mono hb.size)
      have HB4 := Lib.hid (HB2.out.trans (hb24.mono HB2.out.size))
      have HG4 := Lib.hid (HG2.out.below hb24)
      have HG3 := Lib.hid (HG2.out.below hb)
      have HO4 := Lib.hid (HO2.out.below hb24)
      have HWw := Lib.hid hw4.symm
      clear hb g0 g1 HRr hw4 hb4 hb24
      obtain ⟨g0, g1⟩ := HG3.out
      have hz3 : w.heap.size < w3.heap.size := cell_lt g0
      have HC5 := Lib.hid (HOv.out w4 _ _ 0 HB4.out HRq.out)
      go_wp2_with fail
      rw [HWw.out]
      refine HC5.out.mono ?_
      rintro e w5 ⟨b5, n5, c5, rfl, ho, hb⟩
      have HB5 := Lib.hid (HB4.out.trans (hb.mono HB4.out.size))
      have HG5 := Lib.hid (HG4.out.below hb)
      have HO5 : Hid (Own w5 w.heap.size (.slice b5 n5 c5) (M.fndC (M.overP l (M.cirQ l q).1 (M.cirQ l q).2 0) L)) := ho.mono HB4.out.size
      have HR5 := Lib.hid (HR4.out.eq (hb.block _ (cell_lt HR4.out.1)))
      have hlt := ho.len
      clear ho hb g0 g1 HC5 hz3
      obtain ⟨g0, g1⟩ := HG5.out
      obtain ⟨v0, v1⟩ := HR5.out
      by_cases hn5 : n5 = 0
      · have HE : Hid (M.fndC (M.overP l (M.cirQ l q).1 (M.cirQ l q).2 (-1)) L = M.bstL l L) := M.over_last HPo.out HQm.out (List.eq_nil_of_length_eq_zero (by rw [← hlt, hn5]))
        have HC6 := Lib.hid (HOv.out w5 _ _ (-1) HB5.out HRq.out)
        rw [HE.out] at HC6
        subst hn5
        clear hlt
        go_wp2_with fail
        refine HC6.out.mono ?_
        rintro e w6 ⟨b6, n6, c6, rfl, ho, hb⟩
        have HO6 : Hid (Own w6 w.heap.size (.slice b6 n6 c6) (M.bstL l L)) := ho.mono HB5.out.size
        have HB6 := Lib.hid (HB5.out.trans (hb.mono HB5.out.size))
        clear ho hb HC6 g0 g1 v0 v1
        go_wp2
        go_ret2
        refine ⟨b6, n6, c6, ?_, HO6.out, HB6.out⟩
        rw [HLne.out]; rfl
      · have hne : M.fndC (M.overP l (M.cirQ l q).1 (M.cirQ l q).2 0) L ≠ [] := fun e => by rw [e] at hlt; exact hn5 hlt
        obtain ⟨h1, h2⟩ := M.over_next HPo.out HQm.out hne
        have HN1 : Hid ((M.fndC (M.overP l (M.cirQ l q).1 (M.cirQ l q).2 0) L = [] ∧ L = []) ∨ M.fndC (M.overP l (M.cirQ l q).1 (M.cirQ l q).2 0) L ∈ L) := .inr h1
        have HN2 := Lib.hid h2
        have hn5b : ((n5 : Int) == 0) = false := by simp; omega
        clear hlt hne h1 h2
        go_wp2
        go_roundw
        case rel => exact ⟨b5, n5, c5, _, rfl, HO5, HN1, HG5, HB5⟩
        case measure =>
          show M.muC l L (rdL w5 (.slice b5 n5 c5)) < M.muC l L (rdL wo (.slice b m c))
          rw [rdL_own HO5.out, rdL_own HO.out]; exact HN2.out
end V
end Go.Proofs.YtlofnadpgnbmdaaGreat
