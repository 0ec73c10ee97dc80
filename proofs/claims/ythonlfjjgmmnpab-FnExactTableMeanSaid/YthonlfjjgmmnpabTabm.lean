/- The way by the table, in the program. -/
import Derived.Test.YthonlfjjgmmnpabPowm
namespace Go.Proofs.Ythonlfjjgmmnpab.V
open Go.RowKit
theorem OwnM.cap {w : World} {B n cap : Nat} {a : Option Addr} {R : List (List Int)} (h : OwnM w B (.slice a n cap) R) : n ≤ cap ∧ cap ≤ maxLen := by
  obtain ⟨V, h1, h2, _⟩ := h
  obtain ⟨a', c', hv, k1, k2, _⟩ := own_form h2
  injection hv with e1 e2 e3
  subst e2 e3
  exact ⟨k1, k2⟩
set_option maxRecDepth 100000 in
set_option maxHeartbeats 2000000 in
theorem tableWay (a : Option Addr) (n cap : Nat) (R : List (List Int)) (w : World) (h : Sq w a n R) (hA : ∀ i j, i < n → j < n → M.Sm 1000000 (M.ent R i j)) (hc : M.hasCyc (M.ent R) n = true) :
    Calls Try.prog 149 #[.agg #[], .slice a n cap] w fun e w' => e = .returned (.agg #[.int .i64 (M.tabR (M.ent R) n).1, .int .i64 (M.tabR (M.ent R) n).2]) ∧ Below w.heap.size w w' := by
  have HS := Lib.hid h
  have HSm := Lib.hid hA
  have HC := Lib.hid hc
  obtain ⟨n1, n2⟩ := h.2.2.2
  clear h hA hc
  go_enter Try.func149, Try.ntmps149
  go_wp2_with fail
  refine (endWeights _ _ _ R _ (HS.out.below (b_alloc2 _ _ _)) HSm.out).mono ?_
  rintro e wt ⟨tb, tc, rfl, hO, hb⟩
  have HM0 : Hid (MBox0 w ((w.alloc (.cells #[] 63)).alloc (.cells #[.int .i64 0, .int .i64 0] 27))) := ⟨Below.refl _ _, b_alloc2 _ _ _, by simp, by simp [go_sem], by simp [go_sem], by simp [go_sem], by simp [go_sem]⟩
  have HM : Hid (MBox0 w wt) := HM0.out.keep (hb.mono (by simp))
  have HTM := Lib.hid hO.mat
  have HTR : Hid (Rect (M.endM (M.ent R) n (n + 1)) (n + 1) n) := rect_mk _ _ _
  have hcap := hO.cap
  obtain ⟨hcap1, hcap2⟩ := hcap
  unfold maxLen at hcap2
  obtain ⟨d, od, rr, rcr, rfl, hbr, hcr0, hIr⟩ := HTM.out.rect_at HTR.out n (by omega)
  have HIr := Lib.hid hIr
  have hn1 : n ≤ tc := by omega
  clear hO hb HM0 hIr
  go_wp2
  clear hcr0
  go_loopw [7, 8, 9, 10, 11, 12, 22] (fun ms _ _ _ _ _ i wr => ∃ (v : Nat) (b : Option Addr) (c : Nat), v ≤ n ∧ i = .int .i64 v ∧ ms = .slice b (M.tbL (M.ent R) n v).length c ∧ Hid (OwnR wr wt.heap.size (.slice b (M.tbL (M.ent R) n v).length c) (M.tbL (M.ent R) n v)) ∧ Hid (Below wt.heap.size wt wr)) (fun _ _ _ _ _ _ i _ => n - (intOf i).toNat)
  case atStart => exact ⟨0, none, 0, Nat.zero_le _, rfl, rfl, ownR_nil _ _, Below.refl _ _⟩
  case round =>
    obtain ⟨v, b, c, hv, rfl, rfl, HO, HB⟩ := hrel
    obtain ⟨wo, rfl⟩ : ∃ x, x = wr := ⟨_, rfl⟩
    have hzt := HB.out.size
    by_cases hlt : v < n
    · have hki : (v : Int) < (n : Int) := by omega
      obtain ⟨rb, ro, y, rfl, -, hy, hcy⟩ := (HIr.out.below HB.out).at v hlt
      have hye : y = M.Fk (M.ent R) n n v := hy.trans (M.ent_mk _ _ _ _ _ (Nat.lt_succ_self n) hlt)
      have HY := Lib.hid hye
      clear hy hye
      by_cases hyb : y = -1000000000000000
      · have hyb2 : (y == -1000000000000000) = true := by simp [hyb]
        have e : M.tbL (M.ent R) n (v + 1) = M.tbL (M.ent R) n v := by rw [M.tbL_next, if_pos (HY.out.symm.trans hyb), List.append_nil]
        have HNe := Lib.hid e
        clear e hyb
        go_wp2
        go_roundw
        case rel =>
          refine ⟨v + 1, b, c, by omega, by go_num, ?_⟩
          rw [HNe.out]
          exact ⟨rfl, HO, HB⟩
        case measure => simp [intOf]; omega
      · have hyb2 : (y == -1000000000000000) = false := by simp [hyb]
        have HYB := Lib.hid hyb
        have e : M.tbL (M.ent R) n (v + 1) = M.tbL (M.ent R) n v ++ [M.minR (M.slL (M.ent R) n v n)] := by rw [M.tbL_next, if_neg (fun q => hyb (HY.out.trans q))]
        have HNe := Lib.hid e
        have hll := M.tbL_len (M.ent R) n v
        have HLL := Lib.hid hll
        clear e hyb hll
        generalize M.tbL (M.ent R) n v = l at *
        go_wp2
        clear hcy
        go_loopw [10, 11, 12, 33] (fun ms _ _ j wr => ∃ (k : Nat) (b : Option Addr) (c : Nat), k ≤ n ∧ j = .int .i64 k ∧ ms = .slice b k c ∧ Hid (OwnR wr wo.heap.size (.slice b k c) (M.slL (M.ent R) n v k)) ∧ Hid (Below wo.heap.size wo wr)) (fun _ _ _ j _ => n - (intOf j).toNat)
        case atStart => exact ⟨0, none, 0, Nat.zero_le _, rfl, rfl, ownR_nil _ _, Below.refl _ _⟩
        case round =>
          obtain ⟨k, b1, c1, hk, rfl, rfl, HO1, HB1⟩ := hrel
          obtain ⟨wi, rfl⟩ : ∃ x, x = wr := ⟨_, rfl⟩
          have hzo := HB1.out.size
          by_cases hkl : k < n
          · have hkk : (k : Int) < (n : Int) := by omega
            obtain ⟨d2, od2, rk, rkc, hdd, -, hck, hIk⟩ := (HTM.out.below (HB.out.trans (HB1.out.mono hzt))).rect_at HTR.out k (by omega)
            injection hdd with hdd
            injection hdd with e1 e2
            subst e1 e2
            obtain ⟨kb, ko, z, rfl, -, hz, hcz⟩ := hIk.at v hlt
            have hze : z = M.Fk (M.ent R) n k v := hz.trans (M.ent_mk _ _ _ _ _ (by omega) hlt)
            have hzb : z ≠ -1000000000000000 := by
              rw [hze]
              exact M.Fk_less HSm.out (m := n) (by omega) hlt (by omega) (fun q => HYB.out (HY.out.trans q))
            have hb1 : -10000000 ≤ z ∧ z ≤ 10000000 := by
              have := M.Fk_sm HSm.out k v hlt
              rw [← hze] at this
              rcases this with q | q
              · exact absurd q hzb
              · omega
            have hb2 : -10000000 ≤ y ∧ y ≤ 10000000 := by
              have := M.Fk_sm HSm.out n v hlt
              rw [← HY.out] at this
              rcases this with q | q
              · exact absurd q HYB.out
              · omega
            obtain ⟨z1, z2⟩ := hb1
            obtain ⟨y1, y2⟩ := hb2
            have e : M.slL (M.ent R) n v (k + 1) = M.slL (M.ent R) n v k ++ [M.meanR (y - z) ((n : Int) - k)] := by rw [M.slL_next, ← HY.out, ← hze]
            have HNk := Lib.hid e
            have HLk := Lib.hid (M.slL_len (M.ent R) n v k)
            clear e hz hze hzb hIk
            have ew : IntKind.i64.wrap (y - z) = y - z := IntWalk.i64_in _ (by omega)
            have ew2 : IntKind.i64.wrap ((n : Int) - k) = (n : Int) - k := IntWalk.i64_in _ (by omega)
            go_wp2_with fail
            refine (reduced _ _ _ (by omega) (by omega) (by omega) (by omega) (by omega)).mono ?_
            rintro e w2 ⟨rfl, hb2⟩
            have HB2 := Lib.hid hb2
            have hz2 := hb2.size
            clear hb2
            go_wp2_with (at_builtin; refine appendR2 (w2.alloc (.cells #[.int .i64 (M.ratN (y - z) ((n : Int) - k)), .int .i64 (M.ratD (y - z) ((n : Int) - k))] 27)) rfl (.tmp 38) (.tmp 49) rfl wo.heap.size _ (M.slL (M.ent R) n v k) (M.meanR (y - z) ((n : Int) - k)) k w2.heap.size HLk.out rfl ((HO1.out.below HB2.out).below (b_alloc _ _)) rfl (by simp [go_sem, M.meanR]) (by simp [go_sem, M.meanR]) (by have := HLk.out; omega) (by simp; omega) ?_)
            intro b4 c4 w4 hO4 hb4 hk4 hv4
            have HO4 := Lib.hid hO4
            have HB4 : Hid (Below wo.heap.size wo w4) := ((HB1.out.trans (HB2.out.mono hzo)).alloc (by omega) _).trans hb4
            rw [← HNk.out] at HO4
            clear hO4 hb4 hk4 hv4
            go_wp2
            go_roundw
            case rel => exact ⟨k + 1, b4, c4, by omega, by go_num, rfl, HO4, HB4⟩
            case measure => simp [intOf]; omega
          · obtain rfl : k = n := by omega
            have HLk := Lib.hid (M.slL_len (M.ent R) k v k)
            have HBD : Hid (∀ i, i < k → M.Rb ((M.slL (M.ent R) k v k).getD i (0, 0))) := fun i hi => by
              have hi2 : i < (M.slL (M.ent R) k v k).length := by rw [M.slL_len]; exact hi
              rw [List.getD_eq_getElem?_getD, List.getElem?_eq_getElem hi2]
              obtain ⟨q1, q2, q3, q4, -⟩ := M.slL_bd n2 HSm.out hlt (fun q => HYB.out (HY.out.trans q)) (Nat.le_refl _) (List.getElem_mem hi2)
              exact ⟨by simp only [Option.getD_some]; omega, by simp only [Option.getD_some]; omega, q3, by simp only [Option.getD_some]; omega⟩
            generalize M.slL (M.ent R) k v k = s at *
            go_wp2_with fail
            refine (minFunc _ _ _ _ s _ HO1.out n1 (by omega) HBD.out).mono ?_
            rintro e w2 ⟨rfl, hb2⟩
            have HB2 := Lib.hid hb2
            have hz2 := hb2.size
            clear hb2
            obtain ⟨p, hp⟩ : ∃ p, p = M.minR s := ⟨_, rfl⟩
            rw [← hp] at HNe ⊢
            clear hp
            go_wp2_with (at_builtin; refine appendR2 (w2.alloc (.cells #[.int .i64 p.1, .int .i64 p.2] 27)) rfl (.tmp 52) (.tmp 55) rfl wt.heap.size _ l p _ w2.heap.size rfl rfl (((HO.out.below HB1.out).below HB2.out).below (b_alloc _ _)) rfl (by simp [go_sem]) (by simp [go_sem]) (by have := HLL.out; omega) (by simp; omega) ?_)
            intro b4 c4 w4 hO4 hb4 hk4 hv4
            have HO4 := Lib.hid hO4
            have HB4 : Hid (Below wt.heap.size wt w4) := (((HB.out.trans (HB1.out.mono hzt)).trans (HB2.out.mono (by omega))).alloc (by omega) _).trans hb4
            clear hO4 hb4 hk4 hv4
            go_wp2
            go_roundw
            case rel =>
              refine ⟨v + 1, b4, c4, by omega, by go_num, ?_⟩
              rw [HNe.out, List.length_append]
              exact ⟨rfl, HO4, HB4⟩
            case measure => simp [intOf]; omega
    · obtain rfl : v = n := by omega
      have h1 := M.tbL_some HC.out
      have h2 : (M.tbL (M.ent R) v v).length ≤ 1000 := by
        have q1 := M.tbL_len (M.ent R) v v
        omega
      have H1 := Lib.hid h1
      have H2 := Lib.hid h2
      have HBD : Hid (∀ i, i < (M.tbL (M.ent R) v v).length → M.Rb ((M.tbL (M.ent R) v v).getD i (0, 0))) := fun i hi => by
        rw [List.getD_eq_getElem?_getD, List.getElem?_eq_getElem hi]
        obtain ⟨q1, q2, q3, q4, -⟩ := M.tbL_bd n2 HSm.out (Nat.le_refl _) (List.getElem_mem hi)
        exact ⟨by simp only [Option.getD_some]; omega, by simp only [Option.getD_some]; omega, q3, by simp only [Option.getD_some]; omega⟩
      have HBR : Hid (M.tabR (M.ent R) v = M.maxR (M.tbL (M.ent R) v v)) := rfl
      obtain ⟨p, hp⟩ : ∃ p, p = M.tabR (M.ent R) v := ⟨_, rfl⟩
      have HPp := Lib.hid hp
      clear h1 h2 hp
      generalize M.tbL (M.ent R) v v = l at *
      go_wp2_with fail
      refine (maxFunc _ _ _ _ l _ HO.out H1.out H2.out HBD.out).mono ?_
      rintro e w3 ⟨rfl, hb3⟩
      rw [← HBR.out, ← HPp.out]
      have HM3 := Lib.hid (HM.out.keep ((HB.out.trans (hb3.mono hzt)).mono HM.out.2.2.1))
      obtain ⟨-, hb, hz, a1, a2, a3, a4⟩ := HM3.out
      have HBB := Lib.hid hb
      clear hb3 hb
      go_wp2
      exact bodyPost_ret (v := .agg #[.int .i64 p.1, .int .i64 p.2]) (by simp [results, Try.results149, go_sem, hz, a1, a2, a3, a4]) rfl ⟨by rw [HPp.out], (HBB.out.setCell (by show w.heap.size ≤ w.heap.size + 1; omega) _).setCell (by show w.heap.size ≤ w.heap.size + 1; omega) _⟩
theorem tableMean (a : Option Addr) (n cap : Nat) (R : List (List Int)) (w : World) (h : Mat w a n R) :
    Calls Try.prog 11 #[.slice a n cap] w fun e w' => e = .returned (.tuple #[.agg #[.int .i64 (M.tabRes R).1.1, .int .i64 (M.tabRes R).1.2], .int .i64 (M.tabRes R).2]) ∧ Below w.heap.size w w' :=
  tableMean_of a n cap R w h fun hs hc W hW => tableWay a n cap R W (sq_of hW hs) (sm_of hW hs) hc
end Go.Proofs.Ythonlfjjgmmnpab.V
