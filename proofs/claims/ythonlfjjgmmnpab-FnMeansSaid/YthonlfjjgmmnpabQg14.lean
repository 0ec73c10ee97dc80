/- Texts laid together: Powm, Tabm. -/
import Derived.Test.YthonlfjjgmmnpabQg12
import Derived.Test.YthonlfjjgmmnpabQg13
namespace Go.Proofs.Ythonlfjjgmmnpab.V
open Go.RowKit
/-- The result's box, with its two zeros. -/
def MBox0 (w wr : World) : Prop :=
  Below (w.heap.size + 2) wr wr ∧ Below w.heap.size w wr ∧ w.heap.size + 1 < wr.heap.size ∧ wr.cell? ⟨w.heap.size + 1, 0, none⟩ = some (.int .i64 0) ∧ wr.cell? ⟨w.heap.size + 1, 1, none⟩ = some (.int .i64 0) ∧ wr.frozen? ⟨w.heap.size + 1, 0, none⟩ = false ∧ wr.frozen? ⟨w.heap.size + 1, 1, none⟩ = false
theorem MBox0.keep {w w1 w2 : World} (h : MBox0 w w1) (hb : Below (w.heap.size + 2) w1 w2) : MBox0 w w2 := by
  obtain ⟨_, h1, h2, a1, a2, a3, a4⟩ := h
  have hs := hb.size
  refine ⟨Below.refl _ _, h1.trans (hb.mono (by omega)), by omega, ?_, ?_, ?_, ?_⟩
  · rw [hb.cell (p := ⟨w.heap.size + 1, 0, none⟩) (by show w.heap.size + 1 < _; omega)]; exact a1
  · rw [hb.cell (p := ⟨w.heap.size + 1, 1, none⟩) (by show w.heap.size + 1 < _; omega)]; exact a2
  · rw [hb.frozen (p := ⟨w.heap.size + 1, 0, none⟩) (by show w.heap.size + 1 < _; omega)]; exact a3
  · rw [hb.frozen (p := ⟨w.heap.size + 1, 1, none⟩) (by show w.heap.size + 1 < _; omega)]; exact a4
set_option maxRecDepth 100000 in
set_option maxHeartbeats 2000000 in
theorem powerMean (a : Option Addr) (n cap : Nat) (R : List (List Int)) (w : World) (h : Sq w a n R) (hA : ∀ i j, i < n → j < n → M.Sm 1000000 (M.ent R i j)) (hc : M.hasCyc (M.ent R) n = true) :
    Calls Try.prog 58 #[.agg #[], .slice a n cap] w fun e w' => e = .returned (.agg #[.int .i64 (M.bestR (M.ent R) n).1, .int .i64 (M.bestR (M.ent R) n).2]) ∧ Below w.heap.size w w' := by
  have HS := Lib.hid h
  have HSm := Lib.hid hA
  have HC := Lib.hid hc
  obtain ⟨n1, n2⟩ := h.2.2.2
  clear h hA hc
  go_enter Try.func58, Try.ntmps58
  go_wp2
  go_loopw [5, 6, 7, 8, 9, 13] (fun ms pw _ _ _ i wr => ∃ (k : Nat) (b : Option Addr) (c : Nat) (pb : Option Addr) (pc : Nat) (P : List (List Int)), k ≤ n ∧ i = .int .i64 k ∧ ms = .slice b (M.mnL (M.ent R) n k).length c ∧ pw = .slice pb n pc ∧ Hid (OwnR wr (w.heap.size + 2) (.slice b (M.mnL (M.ent R) n k).length c) (M.mnL (M.ent R) n k)) ∧ Hid (MatK wr (.slice b (M.mnL (M.ent R) n k).length c) pb n P) ∧ Hid (Rect P n n) ∧ Hid (∀ i j, i < n → j < n → M.ent P i j = M.bpw (M.ent R) n k i j) ∧ Hid (MBox0 w wr)) (fun _ _ _ _ _ i _ => n - (intOf i).toNat)
  case atStart => exact ⟨0, none, 0, _, _, R, Nat.zero_le _, rfl, rfl, rfl, ownR_nil _ _, matK_old HS.out.1 (b_alloc2 _ _ _) (fun g hg => by cases hg), HS.out.2.1, fun _ _ _ _ => rfl, ⟨Below.refl _ _, b_alloc2 _ _ _, by simp, by simp [go_sem], by simp [go_sem], by simp [go_sem], by simp [go_sem]⟩⟩
  case round =>
    obtain ⟨k, b, c, pb, pc, P, hk, rfl, rfl, rfl, HO, HK, HT, HE, HM⟩ := hrel
    obtain ⟨wo, rfl⟩ : ∃ x, x = wr := ⟨_, rfl⟩
    by_cases hlt : k < n
    · have hki : (k : Int) < (n : Int) := by omega
      have hki1 : (k : Int) + 1 ≤ 10 := by omega
      go_wp2
      go_loopw [5, 8, 9, 18] (fun ms _ _ j wr => ∃ (t : Nat) (b : Option Addr) (c : Nat), t ≤ n ∧ j = .int .i64 t ∧ ms = .slice b (M.mnL (M.ent R) n k ++ M.dgL (M.ent R) n k t).length c ∧ Hid (OwnR wr (w.heap.size + 2) (.slice b (M.mnL (M.ent R) n k ++ M.dgL (M.ent R) n k t).length c) (M.mnL (M.ent R) n k ++ M.dgL (M.ent R) n k t)) ∧ Hid (MatK wr (.slice b (M.mnL (M.ent R) n k ++ M.dgL (M.ent R) n k t).length c) pb n P) ∧ Hid (MBox0 w wr)) (fun _ _ _ j _ => n - (intOf j).toNat)
      case atStart =>
        have e : M.mnL (M.ent R) n k ++ M.dgL (M.ent R) n k 0 = M.mnL (M.ent R) n k := List.append_nil _
        refine ⟨0, b, c, Nat.zero_le _, rfl, ?_⟩
        rw [e]
        exact ⟨rfl, HO, HK, HM⟩
      case round =>
        clear HO HK HM
        obtain ⟨t, b1, c1, ht, rfl, rfl, HO, HK, HM⟩ := hrel
        obtain ⟨wi, rfl⟩ : ∃ x, x = wr := ⟨_, rfl⟩
        by_cases htl : t < n
        · have hti : (t : Int) < (n : Int) := by omega
          obtain ⟨d, od, rr, rcr, rfl, hbr, hcr0, hIr⟩ := HK.out.mat.rect_at HT.out t htl
          obtain ⟨rrb, rro, x, rfl, -, hx, hcx⟩ := hIr.at t htl
          have hxe : x = M.bpw (M.ent R) n k t t := hx.trans (HE.out t t htl htl)
          have HX := Lib.hid hxe
          clear hIr hx hxe
          by_cases hxb : x = -1000000000000000
          · have hxb2 : (x != -1000000000000000) = false := by simp [hxb]
            have e : M.mnL (M.ent R) n k ++ M.dgL (M.ent R) n k (t + 1) = M.mnL (M.ent R) n k ++ M.dgL (M.ent R) n k t := by
              rw [M.dgL_next, if_pos (HX.out.symm.trans hxb), List.append_nil]
            have HNe := Lib.hid e
            clear e hxb
            go_wp2
            go_roundw
            case rel =>
              refine ⟨t + 1, b1, c1, by omega, by go_num, ?_⟩
              rw [HNe.out]
              exact ⟨rfl, HO, HK, HM⟩
            case measure => simp [intOf]; omega
          · have hxb2 : (x != -1000000000000000) = true := by simp [hxb]
            have e : M.mnL (M.ent R) n k ++ M.dgL (M.ent R) n k (t + 1) = (M.mnL (M.ent R) n k ++ M.dgL (M.ent R) n k t) ++ [M.meanR x ((k : Int) + 1)] := by
              rw [M.dgL_next, if_neg (fun q => hxb (HX.out.trans q)), ← HX.out, List.append_assoc]
            have HNe := Lib.hid e
            have hbd : -1000000000000 ≤ x ∧ x ≤ 1000000000000 := by
              have := M.bpw_sm HSm.out k t t htl htl
              rw [← HX.out] at this
              rcases this with q | q
              · exact absurd q hxb
              · omega
            obtain ⟨hbd1, hbd2⟩ := hbd
            have hll : (M.mnL (M.ent R) n k ++ M.dgL (M.ent R) n k t).length ≤ 200 := by
              have q1 := M.mnL_len (M.ent R) n k
              have q2 := M.dgL_len (M.ent R) n k t
              have q3 : k * n ≤ 10 * 10 := Nat.mul_le_mul (by omega) n2
              rw [List.length_append]; omega
            have HLL := Lib.hid hll
            clear e hxb hll
            generalize M.mnL (M.ent R) n k ++ M.dgL (M.ent R) n k t = l at *
            go_wp2_with fail
            refine (reduced _ _ _ (by omega) (by omega) (by omega) (by omega) (by omega)).mono ?_
            rintro e w2 ⟨rfl, hb2⟩
            have HB2 := Lib.hid hb2
            have hz2 := hb2.size
            clear hb2
            go_wp2_with (at_builtin; refine appendR2 (w2.alloc (.cells #[.int .i64 (M.ratN x ((k : Int) + 1)), .int .i64 (M.ratD x ((k : Int) + 1))] 27)) rfl (.tmp 28) (.tmp 36) rfl (w.heap.size + 2) _ l (M.meanR x ((k : Int) + 1)) _ w2.heap.size rfl rfl ((HO.out.below HB2.out).below (b_alloc _ _)) rfl (by simp [go_sem, M.meanR]) (by simp [go_sem, M.meanR]) (by have := HLL.out; omega) ?hB ?_)
            case hB => have := HM.out.2.2.1; simp; omega
            intro b4 c4 w4 hO4 hb4 hk4 hv4
            have HO4 := Lib.hid hO4
            have HK4 : Hid (MatK w4 (.slice b4 (l.length + 1) c4) (some ⟨d, od, none⟩) n P) := ((HK.out.below HB2.out).below (b_alloc _ _)).step (below0 hb4) (fun q hq => hk4 q (by simpa using hq)) (by simpa using hv4)
            have HM4 : Hid (MBox0 w w4) := ((HM.out.keep (HB2.out.mono HM.out.2.2.1)).keep ((Below.refl _ _).alloc (by have := HM.out.2.2.1; omega) _)).keep hb4
            clear hO4 hb4 hk4 hv4
            go_wp2
            go_roundw
            case rel =>
              refine ⟨t + 1, b4, c4, by omega, by go_num, ?_⟩
              rw [HNe.out, List.length_append]
              exact ⟨rfl, HO4, HK4, HM4⟩
            case measure => simp [intOf]; omega
        · obtain rfl : t = n := by omega
          have e : M.mnL (M.ent R) t k ++ M.dgL (M.ent R) t k t = M.mnL (M.ent R) t (k + 1) := (M.mnL_next _ _ _).symm
          rw [e] at HO HK ⊢
          clear e
          have HPB : Hid (∀ i j, i < t → j < t → M.Big (M.ent P i j)) := fun i j hi hj => by
            rw [HE.out i j hi hj]
            exact M.big_sm (M.bpw_sm HSm.out k i j hi hj) (by omega)
          have HRB : Hid (∀ i j, i < t → j < t → M.Big (M.ent R i j)) := fun i j hi hj => M.big_sm (HSm.out i j hi hj) (by omega)
          go_wp2_with fail
          refine (maxPlus _).mono ?_
          rintro e w2 ⟨rfl, hb2⟩
          have HB2 := Lib.hid hb2
          have hz2 := hb2.size
          clear hb2
          go_wp2_with fail
          refine (multipliedB _ _ _ t P _ _ t R _ (HK.out.mat.below HB2.out) (HS.out.1.below (HM.out.2.1.trans (HB2.out.mono (by have := HM.out.2.2.1; omega)))) HT.out HS.out.2.1 HPB.out HRB.out n1 n2 n1 n2 n1 n2).mono ?_
          rintro e w3 ⟨a3, c3, rfl, hP, hb3⟩
          have HB3 := Lib.hid hb3
          have HP := Lib.hid hP
          clear hb3 hP
          have HO3 := Lib.hid ((HO.out.below HB2.out).below HB3.out)
          have HM3 : Hid (MBox0 w w3) := (HM.out.keep (HB2.out.mono HM.out.2.2.1)).keep (HB3.out.mono (by have := HM.out.2.2.1; omega))
          have HK3 : Hid (MatK w3 (.slice b1 (M.mnL (M.ent R) t (k + 1)).length c1) a3 t (M.mk t t fun i j => M.dot P R i j t)) := matK_new HP.out (fun g hg => by have := (OwnR.lt HO.out hg).2; omega)
          go_wp2
          go_roundw
          case rel =>
            exact ⟨k + 1, b1, c1, a3, c3, _, by omega, by go_num, rfl, rfl, HO3, HK3, rect_mk _ _ _, fun i j hi hj => by
              rw [M.ent_mk _ _ _ _ _ hi hj]
              show _ = M.sumN t fun u => M.times (M.bpw (M.ent R) t k i u) (M.ent R u j)
              unfold M.dot
              refine M.sumN_congr fun u hu => ?_
              rw [HE.out i u hi hu], HM3⟩
          case measure => simp [intOf]; omega
    · obtain rfl : k = n := by omega
      have h1 := M.mnL_some n2 HSm.out HC.out
      have h2 : (M.mnL (M.ent R) k k).length ≤ 1000 := by
        have q1 := M.mnL_len (M.ent R) k k
        have q3 : k * k ≤ 10 * 10 := Nat.mul_le_mul n2 n2
        omega
      have H1 := Lib.hid h1
      have H2 := Lib.hid h2
      have HBD : Hid (∀ i, i < (M.mnL (M.ent R) k k).length → M.Rb ((M.mnL (M.ent R) k k).getD i (0, 0))) := fun i hi => by
        rw [List.getD_eq_getElem?_getD, List.getElem?_eq_getElem hi]
        obtain ⟨q1, q2, q3, q4⟩ := M.mnL_bd HSm.out n2 (List.getElem_mem hi)
        exact ⟨by simp only [Option.getD_some]; omega, by simp only [Option.getD_some]; omega, q3, by simp only [Option.getD_some]; omega⟩
      have HBR : Hid (M.bestR (M.ent R) k = M.maxR (M.mnL (M.ent R) k k)) := rfl
      obtain ⟨p, hp⟩ : ∃ p, p = M.bestR (M.ent R) k := ⟨_, rfl⟩
      have HPp := Lib.hid hp
      clear h1 h2 hp HK
      generalize M.mnL (M.ent R) k k = l at *
      go_wp2_with fail
      refine (maxFunc _ _ _ _ l _ HO.out H1.out H2.out HBD.out).mono ?_
      rintro e w3 ⟨rfl, hb3⟩
      rw [← HBR.out, ← HPp.out]
      have HM3 := Lib.hid (HM.out.keep (hb3.mono HM.out.2.2.1))
      obtain ⟨-, hb, hz, a1, a2, a3, a4⟩ := HM3.out
      have HBB := Lib.hid hb
      clear hb3 hb
      go_wp2
      exact bodyPost_ret (v := .agg #[.int .i64 p.1, .int .i64 p.2]) (by simp [results, Try.results58, go_sem, hz, a1, a2, a3, a4]) rfl ⟨by rw [HPp.out], (HBB.out.setCell (by show w.heap.size ≤ w.heap.size + 1; omega) _).setCell (by show w.heap.size ≤ w.heap.size + 1; omega) _⟩
theorem cycleMean (a : Option Addr) (n cap : Nat) (R : List (List Int)) (w : World) (h : Mat w a n R) :
    Calls Try.prog 9 #[.slice a n cap] w fun e w' => e = .returned (.tuple #[.agg #[.int .i64 (M.cycMeanRes R).1.1, .int .i64 (M.cycMeanRes R).1.2], .int .i64 (M.cycMeanRes R).2]) ∧ Below w.heap.size w w' :=
  cycleMean_of a n cap R w h fun hs hc W hW => powerMean a n cap R W (sq_of hW hs) (sm_of hW hs) hc
end Go.Proofs.Ythonlfjjgmmnpab.V

namespace Go.Proofs.Ythonlfjjgmmnpab.V
open Go.RowKit
theorem OwnM.cap {w : World} {B n cap : Nat} {a : Option Addr} {R : List (List Int)} (h : OwnM w B (.slice a n cap) R) : n ≤ cap ∧ cap ≤ maxLen := by
  obtain ⟨V, h1, h2, _⟩ := h
  obtain ⟨a', c', hv, k1, k2, _⟩ := own_form h2
  injection hv with e1 e2 e3
  subst e2 e3
  exact ⟨k1, k2⟩
set_option maxRecDepth 100000 in
set_option maxHeartbeats 2000000 in
theorem tableWay (a : Option Addr) (n cap : Nat) (R : List (List Int)) (w : World) (h : Sq w a n R) (hA : ∀ i j, i < n → j < n → M.Sm 1000000 (M.ent R i j)) (hc : M.hasCyc (M.ent R) n = true) :
    Calls Try.prog 149 #[.agg #[], .slice a n cap] w fun e w' => e = .returned (.agg #[.int .i64 (M.tabR (M.ent R) n).1, .int .i64 (M.tabR (M.ent R) n).2]) ∧ Below w.heap.size w w' := by
  have HS := Lib.hid h
  have HSm := Lib.hid hA
  have HC := Lib.hid hc
  obtain ⟨n1, n2⟩ := h.2.2.2
  clear h hA hc
  go_enter Try.func149, Try.ntmps149
  go_wp2_with fail
  refine (endWeights _ _ _ R _ (HS.out.below (b_alloc2 _ _ _)) HSm.out).mono ?_
  rintro e wt ⟨tb, tc, rfl, hO, hb⟩
  have HM0 : Hid (MBox0 w ((w.alloc (.cells #[] 63)).alloc (.cells #[.int .i64 0, .int .i64 0] 27))) := ⟨Below.refl _ _, b_alloc2 _ _ _, by simp, by simp [go_sem], by simp [go_sem], by simp [go_sem], by simp [go_sem]⟩
  have HM : Hid (MBox0 w wt) := HM0.out.keep (hb.mono (by simp))
  have HTM := Lib.hid hO.mat
  have HTR : Hid (Rect (M.endM (M.ent R) n (n + 1)) (n + 1) n) := rect_mk _ _ _
  have hcap := hO.cap
  obtain ⟨hcap1, hcap2⟩ := hcap
  unfold maxLen at hcap2
  obtain ⟨d, od, rr, rcr, rfl, hbr, hcr0, hIr⟩ := HTM.out.rect_at HTR.out n (by omega)
  have HIr := Lib.hid hIr
  have hn1 : n ≤ tc := by omega
  clear hO hb HM0 hIr
  go_wp2
  clear hcr0
  go_loopw [7, 8, 9, 10, 11, 12, 22] (fun ms _ _ _ _ _ i wr => ∃ (v : Nat) (b : Option Addr) (c : Nat), v ≤ n ∧ i = .int .i64 v ∧ ms = .slice b (M.tbL (M.ent R) n v).length c ∧ Hid (OwnR wr wt.heap.size (.slice b (M.tbL (M.ent R) n v).length c) (M.tbL (M.ent R) n v)) ∧ Hid (Below wt.heap.size wt wr)) (fun _ _ _ _ _ _ i _ => n - (intOf i).toNat)
  case atStart => exact ⟨0, none, 0, Nat.zero_le _, rfl, rfl, ownR_nil _ _, Below.refl _ _⟩
  case round =>
    obtain ⟨v, b, c, hv, rfl, rfl, HO, HB⟩ := hrel
    obtain ⟨wo, rfl⟩ : ∃ x, x = wr := ⟨_, rfl⟩
    have hzt := HB.out.size
    by_cases hlt : v < n
    · have hki : (v : Int) < (n : Int) := by omega
      obtain ⟨rb, ro, y, rfl, -, hy, hcy⟩ := (HIr.out.below HB.out).at v hlt
      have hye : y = M.Fk (M.ent R) n n v := hy.trans (M.ent_mk _ _ _ _ _ (Nat.lt_succ_self n) hlt)
      have HY := Lib.hid hye
      clear hy hye
      by_cases hyb : y = -1000000000000000
      · have hyb2 : (y == -1000000000000000) = true := by simp [hyb]
        have e : M.tbL (M.ent R) n (v + 1) = M.tbL (M.ent R) n v := by rw [M.tbL_next, if_pos (HY.out.symm.trans hyb), List.append_nil]
        have HNe := Lib.hid e
        clear e hyb
        go_wp2
        go_roundw
        case rel =>
          refine ⟨v + 1, b, c, by omega, by go_num, ?_⟩
          rw [HNe.out]
          exact ⟨rfl, HO, HB⟩
        case measure => simp [intOf]; omega
      · have hyb2 : (y == -1000000000000000) = false := by simp [hyb]
        have HYB := Lib.hid hyb
        have e : M.tbL (M.ent R) n (v + 1) = M.tbL (M.ent R) n v ++ [M.minR (M.slL (M.ent R) n v n)] := by rw [M.tbL_next, if_neg (fun q => hyb (HY.out.trans q))]
        have HNe := Lib.hid e
        have hll := M.tbL_len (M.ent R) n v
        have HLL := Lib.hid hll
        clear e hyb hll
        generalize M.tbL (M.ent R) n v = l at *
        go_wp2
        clear hcy
        go_loopw [10, 11, 12, 33] (fun ms _ _ j wr => ∃ (k : Nat) (b : Option Addr) (c : Nat), k ≤ n ∧ j = .int .i64 k ∧ ms = .slice b k c ∧ Hid (OwnR wr wo.heap.size (.slice b k c) (M.slL (M.ent R) n v k)) ∧ Hid (Below wo.heap.size wo wr)) (fun _ _ _ j _ => n - (intOf j).toNat)
        case atStart => exact ⟨0, none, 0, Nat.zero_le _, rfl, rfl, ownR_nil _ _, Below.refl _ _⟩
        case round =>
          obtain ⟨k, b1, c1, hk, rfl, rfl, HO1, HB1⟩ := hrel
          obtain ⟨wi, rfl⟩ : ∃ x, x = wr := ⟨_, rfl⟩
          have hzo := HB1.out.size
          by_cases hkl : k < n
          · have hkk : (k : Int) < (n : Int) := by omega
            obtain ⟨d2, od2, rk, rkc, hdd, -, hck, hIk⟩ := (HTM.out.below (HB.out.trans (HB1.out.mono hzt))).rect_at HTR.out k (by omega)
            injection hdd with hdd
            injection hdd with e1 e2
            subst e1 e2
            obtain ⟨kb, ko, z, rfl, -, hz, hcz⟩ := hIk.at v hlt
            have hze : z = M.Fk (M.ent R) n k v := hz.trans (M.ent_mk _ _ _ _ _ (by omega) hlt)
            have hzb : z ≠ -1000000000000000 := by
              rw [hze]
              exact M.Fk_less HSm.out (m := n) (by omega) hlt (by omega) (fun q => HYB.out (HY.out.trans q))
            have hb1 : -10000000 ≤ z ∧ z ≤ 10000000 := by
              have := M.Fk_sm HSm.out k v hlt
              rw [← hze] at this
              rcases this with q | q
              · exact absurd q hzb
              · omega
            have hb2 : -10000000 ≤ y ∧ y ≤ 10000000 := by
              have := M.Fk_sm HSm.out n v hlt
              rw [← HY.out] at this
              rcases this with q | q
              · exact absurd q HYB.out
              · omega
            obtain ⟨z1, z2⟩ := hb1
            obtain ⟨y1, y2⟩ := hb2
            have e : M.slL (M.ent R) n v (k + 1) = M.slL (M.ent R) n v k ++ [M.meanR (y - z) ((n : Int) - k)] := by rw [M.slL_next, ← HY.out, ← hze]
            have HNk := Lib.hid e
            have HLk := Lib.hid (M.slL_len (M.ent R) n v k)
            clear e hz hze hzb hIk
            have ew : IntKind.i64.wrap (y - z) = y - z := IntWalk.i64_in _ (by omega)
            have ew2 : IntKind.i64.wrap ((n : Int) - k) = (n : Int) - k := IntWalk.i64_in _ (by omega)
            go_wp2_with fail
            refine (reduced _ _ _ (by omega) (by omega) (by omega) (by omega) (by omega)).mono ?_
            rintro e w2 ⟨rfl, hb2⟩
            have HB2 := Lib.hid hb2
            have hz2 := hb2.size
            clear hb2
            go_wp2_with (at_builtin; refine appendR2 (w2.alloc (.cells #[.int .i64 (M.ratN (y - z) ((n : Int) - k)), .int .i64 (M.ratD (y - z) ((n : Int) - k))] 27)) rfl (.tmp 38) (.tmp 49) rfl wo.heap.size _ (M.slL (M.ent R) n v k) (M.meanR (y - z) ((n : Int) - k)) k w2.heap.size HLk.out rfl ((HO1.out.below HB2.out).below (b_alloc _ _)) rfl (by simp [go_sem, M.meanR]) (by simp [go_sem, M.meanR]) (by have := HLk.out; omega) (by simp; omega) ?_)
            intro b4 c4 w4 hO4 hb4 hk4 hv4
            have HO4 := Lib.hid hO4
            have HB4 : Hid (Below wo.heap.size wo w4) := ((HB1.out.trans (HB2.out.mono hzo)).alloc (by omega) _).trans hb4
            rw [← HNk.out] at HO4
            clear hO4 hb4 hk4 hv4
            go_wp2
            go_roundw
            case rel => exact ⟨k + 1, b4, c4, by omega, by go_num, rfl, HO4, HB4⟩
            case measure => simp [intOf]; omega
          · obtain rfl : k = n := by omega
            have HLk := Lib.hid (M.slL_len (M.ent R) k v k)
            have HBD : Hid (∀ i, i < k → M.Rb ((M.slL (M.ent R) k v k).getD i (0, 0))) := fun i hi => by
              have hi2 : i < (M.slL (M.ent R) k v k).length := by rw [M.slL_len]; exact hi
              rw [List.getD_eq_getElem?_getD, List.getElem?_eq_getElem hi2]
              obtain ⟨q1, q2, q3, q4, -⟩ := M.slL_bd n2 HSm.out hlt (fun q => HYB.out (HY.out.trans q)) (Nat.le_refl _) (List.getElem_mem hi2)
              exact ⟨by simp only [Option.getD_some]; omega, by simp only [Option.getD_some]; omega, q3, by simp only [Option.getD_some]; omega⟩
            generalize M.slL (M.ent R) k v k = s at *
            go_wp2_with fail
            refine (minFunc _ _ _ _ s _ HO1.out n1 (by omega) HBD.out).mono ?_
            rintro e w2 ⟨rfl, hb2⟩
            have HB2 := Lib.hid hb2
            have hz2 := hb2.size
            clear hb2
            obtain ⟨p, hp⟩ : ∃ p, p = M.minR s := ⟨_, rfl⟩
            rw [← hp] at HNe ⊢
            clear hp
            go_wp2_with (at_builtin; refine appendR2 (w2.alloc (.cells #[.int .i64 p.1, .int .i64 p.2] 27)) rfl (.tmp 52) (.tmp 55) rfl wt.heap.size _ l p _ w2.heap.size rfl rfl (((HO.out.below HB1.out).below HB2.out).below (b_alloc _ _)) rfl (by simp [go_sem]) (by simp [go_sem]) (by have := HLL.out; omega) (by simp; omega) ?_)
            intro b4 c4 w4 hO4 hb4 hk4 hv4
            have HO4 := Lib.hid hO4
            have HB4 : Hid (Below wt.heap.size wt w4) := (((HB.out.trans (HB1.out.mono hzt)).trans (HB2.out.mono (by omega))).alloc (by omega) _).trans hb4
            clear hO4 hb4 hk4 hv4
            go_wp2
            go_roundw
            case rel =>
              refine ⟨v + 1, b4, c4, by omega, by go_num, ?_⟩
              rw [HNe.out, List.length_append]
              exact ⟨rfl, HO4, HB4⟩
            case measure => simp [intOf]; omega
    · obtain rfl : v = n := by omega
      have h1 := M.tbL_some HC.out
      have h2 : (M.tbL (M.ent R) v v).length ≤ 1000 := by
        have q1 := M.tbL_len (M.ent R) v v
        omega
      have H1 := Lib.hid h1
      have H2 := Lib.hid h2
      have HBD : Hid (∀ i, i < (M.tbL (M.ent R) v v).length → M.Rb ((M.tbL (M.ent R) v v).getD i (0, 0))) := fun i hi => by
        rw [List.getD_eq_getElem?_getD, List.getElem?_eq_getElem hi]
        obtain ⟨q1, q2, q3, q4, -⟩ := M.tbL_bd n2 HSm.out (Nat.le_refl _) (List.getElem_mem hi)
        exact ⟨by simp only [Option.getD_some]; omega, by simp only [Option.getD_some]; omega, q3, by simp only [Option.getD_some]; omega⟩
      have HBR : Hid (M.tabR (M.ent R) v = M.maxR (M.tbL (M.ent R) v v)) := rfl
      obtain ⟨p, hp⟩ : ∃ p, p = M.tabR (M.ent R) v := ⟨_, rfl⟩
      have HPp := Lib.hid hp
      clear h1 h2 hp
      generalize M.tbL (M.ent R) v v = l at *
      go_wp2_with fail
      refine (maxFunc _ _ _ _ l _ HO.out H1.out H2.out HBD.out).mono ?_
      rintro e w3 ⟨rfl, hb3⟩
      rw [← HBR.out, ← HPp.out]
      have HM3 := Lib.hid (HM.out.keep ((HB.out.trans (hb3.mono hzt)).mono HM.out.2.2.1))
      obtain ⟨-, hb, hz, a1, a2, a3, a4⟩ := HM3.out
      have HBB := Lib.hid hb
      clear hb3 hb
      go_wp2
      exact bodyPost_ret (v := .agg #[.int .i64 p.1, .int .i64 p.2]) (by simp [results, Try.results149, go_sem, hz, a1, a2, a3, a4]) rfl ⟨by rw [HPp.out], (HBB.out.setCell (by show w.heap.size ≤ w.heap.size + 1; omega) _).setCell (by show w.heap.size ≤ w.heap.size + 1; omega) _⟩
theorem tableMean (a : Option Addr) (n cap : Nat) (R : List (List Int)) (w : World) (h : Mat w a n R) :
    Calls Try.prog 11 #[.slice a n cap] w fun e w' => e = .returned (.tuple #[.agg #[.int .i64 (M.tabRes R).1.1, .int .i64 (M.tabRes R).1.2], .int .i64 (M.tabRes R).2]) ∧ Below w.heap.size w w' :=
  tableMean_of a n cap R w h fun hs hc W hW => tableWay a n cap R W (sq_of hW hs) (sm_of hW hs) hc
end Go.Proofs.Ythonlfjjgmmnpab.V
