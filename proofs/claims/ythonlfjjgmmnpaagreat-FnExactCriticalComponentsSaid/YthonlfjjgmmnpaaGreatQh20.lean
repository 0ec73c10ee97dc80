/- Texts laid together: Scp, Cmc, Arc, Rt. -/
import Derived.Test.YthonlfjjgmmnpaaGreatQh18
import Derived.Test.YthonlfjjgmmnpaaGreatQh19
import Derived.Test.YthonlfjjgmmnpaaGreatQh6
import Derived.Maps.RangeWalk
import Derived.DeepKeys4
import Derived.Test.YthonlfjjgmmnpaaGreatRows
import Derived.Test.YthonlfjjgmmnpaaGreatQh1
import Derived.Test.YthonlfjjgmmnpaaGreatQh4
import Derived.Test.YthonlfjjgmmnpaaGreatQh2
import Derived.WalkKit
import Derived.ProofKit
import Derived.WalkSmall
import Derived.Deep.QuietTactic
import Derived.BigQuiet
import Derived.BigRegion
import Derived.Deep.Draws
import Derived.Deep.OwnRows
import Derived.Deep.AppendLies
import Derived.Maps.AppendAt
import Derived.Lib.Hide
namespace Go.Proofs.YthonlfjjgmmnpaaGreat.V
open Go.RowKit
set_option maxRecDepth 100000 in
set_option maxHeartbeats 4000000 in
theorem sComponents (a : Option Addr) (n cap : Nat) (R : List (List Int)) (w : World) (h : Sq w a n R) :
    Calls Tryz.prog 116 #[.slice a n cap] w fun e w' => ∃ b m c, e = .returned (.slice b m c) ∧ OwnM w' w.heap.size (.slice b m c) (M.compsL (M.ent R) n) ∧ Below w.heap.size w w' := by
  have HSq := Lib.hid h
  obtain ⟨n1, n2⟩ := h.2.2.2
  clear h
  go_enter Tryz.func116, Tryz.ntmps116
  go_wp2_with fail
  refine (sReach _ _ _ R _ HSq.out).mono ?_
  rintro e w1 ⟨tb, tc, rfl, ht, hb⟩
  have HT := Lib.hid ht
  have HB1 := Lib.hid hb
  obtain ⟨tg, -, rfl, -, -⟩ := ht.at 0 0 n1 n1
  clear ht hb
  go_wp2
  go_loopw [4, 5, 6, 7] (fun o i _ _ wr => ∃ (k : Nat) (b : Option Addr) (c : Nat), k ≤ n ∧ i = .int .i64 k ∧ o = .slice b (M.compsP (M.ent R) n k).length c ∧ Hid (OwnM wr w1.heap.size (.slice b (M.compsP (M.ent R) n k).length c) (M.compsP (M.ent R) n k)) ∧ Hid (Below w1.heap.size w1 wr)) (fun _ i _ _ _ => n - (intOf i).toNat)
  case atStart => exact ⟨0, _, 0, Nat.zero_le _, rfl, rfl, ownM_lit0 _ _ (Nat.le_refl _), b_alloc _ _⟩
  case round =>
    obtain ⟨k, b, c, hk, rfl, rfl, HO, HB⟩ := hrel
    obtain ⟨wo, rfl⟩ : ∃ x, x = wr := ⟨_, rfl⟩
    by_cases hlt : k < n
    · have hki : (k : Int) < (n : Int) := by omega
      have HNx := Lib.hid (M.compsP_next (M.ent R) n k)
      have HLn := Lib.hid (M.compsP_len (M.ent R) n k)
      go_wp2
      go_loopw [6, 7] (fun o i wr => ∃ (t : Nat) (b : Option Addr) (c : Nat), t ≤ n ∧ i = .int .i64 t ∧ o = .slice b (M.compP (M.ent R) n k t).length c ∧ Hid (Own wr wo.heap.size (.slice b (M.compP (M.ent R) n k t).length c) (M.compP (M.ent R) n k t)) ∧ Hid (Below wo.heap.size wo wr)) (fun _ i _ => n - (intOf i).toNat)
      case atStart => exact ⟨0, _, 0, Nat.zero_le _, rfl, rfl, own_lit0 _ _ (Nat.le_refl _), b_alloc _ _⟩
      case round =>
        obtain ⟨t, b2, c2, ht, rfl, rfl, HI, HBi⟩ := hrel
        by_cases htl : t < n
        · have hti : (t : Int) < (n : Int) := by omega
          have HTw := Lib.hid ((HT.out.below HB.out).below HBi.out)
          obtain ⟨g1, q1, e1, r1, r2⟩ := ((HT.out.below HB.out).below (HBi.out.mono (Nat.le_refl _))).at k t hlt htl
          injection e1 with e1
          injection e1 with e1
          subst e1
          obtain ⟨g1, q2, e1, r3, r4⟩ := ((HT.out.below HB.out).below (HBi.out.mono (Nat.le_refl _))).at t k htl hlt
          injection e1 with e1
          injection e1 with e1
          subst e1
          have hnx := M.compP_next (M.ent R) n k t
          have hrl : M.relB (M.ent R) n k t = (M.rchB (M.ent R) n k t && M.rchB (M.ent R) n t k) := rfl
          have hlen := M.compP_len (M.ent R) n k t
          obtain ⟨x, hx⟩ : ∃ x, x = M.rchB (M.ent R) n k t := ⟨_, rfl⟩
          obtain ⟨y, hy⟩ : ∃ y, y = M.rchB (M.ent R) n t k := ⟨_, rfl⟩
          rw [← hx] at r2 hrl
          rw [← hy] at r4 hrl
          rw [hrl] at hnx
          clear hx hy hrl HTw
          cases x with
          | false =>
            have HN : Hid (M.compP (M.ent R) n k (t + 1) = M.compP (M.ent R) n k t) := by show _ = _; rw [hnx]; simp
            clear hnx
            go_wp2
            go_roundw
            case rel => exact ⟨t + 1, b2, c2, by omega, by go_num, by rw [HN.out], by show Own _ _ _ _; rw [HN.out]; exact HI.out, HBi⟩
            case measure => simp [intOf]; omega
          | true =>
            cases y with
            | false =>
              have HN : Hid (M.compP (M.ent R) n k (t + 1) = M.compP (M.ent R) n k t) := by show _ = _; rw [hnx]; simp
              clear hnx
              go_wp2
              go_roundw
              case rel => exact ⟨t + 1, b2, c2, by omega, by go_num, by rw [HN.out], by show Own _ _ _ _; rw [HN.out]; exact HI.out, HBi⟩
              case measure => simp [intOf]; omega
            | true =>
              have HN : Hid (M.compP (M.ent R) n k (t + 1) = M.compP (M.ent R) n k t ++ [(t : Int)]) := by show _ = _; rw [hnx]; simp
              clear hnx
              generalize M.compP (M.ent R) n k t = l at *
              go_wp2_with (at_builtin; refine append1 _ rfl (.tmp 40) (.tmp 42) rfl wo.heap.size _ l (t : Int) _ rfl rfl HI.out rfl (by omega) HBi.out.size ?_)
              intro b4 c4 w4 hO4 hb4 _
              have HO4 := Lib.hid hO4
              have HB4 := Lib.hid (HBi.out.trans hb4)
              rw [← HN.out] at HO4
              clear hO4 hb4
              go_wp2
              go_roundw
              case rel => exact ⟨t + 1, b4, c4, by omega, by go_num, by rw [HN.out, List.length_append]; rfl, by show Own _ _ _ _; rw [HN.out, List.length_append]; rw [HN.out] at HO4; exact HO4.out, HB4⟩
              case measure => simp [intOf]; omega
        · obtain rfl : t = n := by omega
          have HO1 : Hid (Own wr wo.heap.size (.slice b2 (M.compL (M.ent R) t k).length c2) (M.compL (M.ent R) t k)) := HI
          have hsl : (Value.slice b2 (M.compP (M.ent R) t k t).length c2) = .slice b2 (M.compL (M.ent R) t k).length c2 := rfl
          rw [hsl]
          clear HI hsl
          obtain ⟨d, od, x, rfl, -, hx, cx⟩ := HO1.out.ints'.at 0 (M.compL_pos hlt)
          rw [Nat.add_zero] at cx
          have hrep := (M.rep_t (A := M.ent R) hlt).2.2
          rw [← hx] at hrep
          have HRp := Lib.hid hrep
          have hlen1 : (M.compL (M.ent R) t k).length ≤ 10 := by have := M.compP_len (M.ent R) t k t; unfold M.compL; omega
          have hlen0 := M.compL_pos (A := M.ent R) hlt
          clear hx hrep
          generalize M.compL (M.ent R) t k = l at *
          by_cases hr : x = (k : Int)
          · have HN : Hid (M.compsP (M.ent R) t (k + 1) = M.compsP (M.ent R) t k ++ [l]) := by show _ = _; rw [HNx.out, if_pos (by have := HRp.out; omega)]
            have hr2 : (x == (k : Int)) = true := by simp [hr]
            clear hr
            generalize M.compsP (M.ent R) t k = L at *
            go_wp2_with (at_builtin; refine appendRow wo _ rfl (.tmp 49) (.tmp 51) rfl w1.heap.size _ _ L l _ rfl rfl HO.out HBi.out HO1.out rfl (by have := HLn.out; omega) HB.out.size ?_)
            intro b4 c4 w4 hO4 hb4 _
            have HO4 := Lib.hid hO4
            have HB4 := Lib.hid ((HB.out.trans (HBi.out.mono HB.out.size)).trans hb4)
            clear hO4 hb4
            go_wp2
            go_roundw
            case rel => exact ⟨k + 1, b4, c4, by omega, by go_num, by rw [HN.out, List.length_append]; rfl, by show OwnM _ _ _ _; rw [HN.out, List.length_append]; exact HO4.out, HB4⟩
            case measure => simp [intOf]; omega
          · have HN : Hid (M.compsP (M.ent R) t (k + 1) = M.compsP (M.ent R) t k) := by show _ = _; rw [HNx.out, if_neg (by have := HRp.out; omega), List.append_nil]
            have hr2 : (x == (k : Int)) = false := by simpa using hr
            go_wp2
            go_roundw
            case rel => exact ⟨k + 1, b, c, by omega, by go_num, by rw [HN.out], by show OwnM _ _ _ _; rw [HN.out]; exact HO.out.below HBi.out, HB.out.trans (HBi.out.mono HB.out.size)⟩
            case measure => simp [intOf]; omega
    · obtain rfl : k = n := by omega
      go_wp2
      go_ret
      exact ⟨b, _, c, rfl, HO.out.mono HB1.out.size, HB1.out.trans (HB.out.mono HB1.out.size)⟩
end Go.Proofs.YthonlfjjgmmnpaaGreat.V

namespace Go.Proofs.YthonlfjjgmmnpaaGreat
namespace M
theorem crRow {R : List (List Int)} {n k : Nat} (hn : R.length = n) (hk : k < (compsL (ent (crM R)) n).length) :
    1 ≤ ((compsL (ent (crM R)) n).getD k []).length ∧ hasB (nodesL R) (((compsL (ent (crM R)) n).getD k []).getD 0 0) = crN R (vx ((compsL (ent (crM R)) n).getD k []) 0) := by
  have hm : (compsL (ent (crM R)) n).getD k [] ∈ compsL (ent (crM R)) n := by rw [List.getD_eq_getElem?_getD, List.getElem?_eq_getElem hk]; exact List.getElem_mem hk
  generalize (compsL (ent (crM R)) n).getD k [] = l at hm ⊢
  obtain ⟨v, hv, -, rfl⟩ := mem_compsP.1 hm
  have hp := compL_pos (A := ent (crM R)) hv
  refine ⟨hp, ?_⟩
  obtain ⟨x, hx, -, ex⟩ := compL_at (k := 0) hp
  unfold vx
  rw [ex]
  apply Bool.eq_iff_iff.2
  rw [hasB_iff, mem_nodesL]
  constructor
  · rintro ⟨f, hf, hc, e⟩
    obtain rfl : x = f := by omega
    simpa using hc
  · intro h; exact ⟨x, by omega, by simpa using h, rfl⟩
def crPick (R : List (List Int)) (l : List Int) : Bool := crN R (vx l 0)
theorem crM_sm {R : List (List Int)} (hs : sqB R = true) {n : Nat} (hn : R.length = n) : ∀ i j, i < n → j < n → Sm 1000000 (ent (crM R) i j) := by
  intro i j hi hj
  obtain ⟨-, -, hA⟩ := sq_sm hs
  subst hn
  unfold crM
  rw [ent_mk _ _ _ _ _ hi hj]
  unfold crF
  split
  · exact hA i j hi hj
  · exact .inl rfl
theorem crComps_ids {R : List (List Int)} {n : Nat} (hn : R.length = n) : (idsK (compsL (ent (crM R)) n) (crPick R) (compsL (ent (crM R)) n).length).map (fun i => (compsL (ent (crM R)) n).getD i []) = crComps R := by
  subst hn
  exact filter_ids _ _
end M
namespace V
set_option maxRecDepth 100000
open Go.RowKit
set_option maxRecDepth 100000 in
set_option maxHeartbeats 4000000 in
theorem sComponents6 (a : Option Addr) (n cap : Nat) (R : List (List Int)) (w : World) (h : Mat w a n R) (hs : M.sqB R = true) (hc : M.hasCyc (M.ent R) R.length = true) :
    Calls Tryz.prog 70 #[.slice a n cap] w fun e w' => ∃ b m c, e = .returned (.slice b m c) ∧ OwnM w' w.heap.size (.slice b m c) (M.crComps R) ∧ Below w.heap.size w w' := by
  have HA := Lib.hid h
  have HRn := Lib.hid h.1
  have HS := Lib.hid hs
  have HC := Lib.hid hc
  obtain ⟨hr, n1, n2, -⟩ := sq_parts h hs
  have HSm := Lib.hid (M.crM_sm hs h.1)
  have HRc : Hid (Rect (M.crM R) n n) := by show Rect _ _ _; rw [← h.1]; exact rect_mk _ _ _
  clear h hs hc hr
  go_enter Tryz.func70, Tryz.ntmps70
  go_wp2_with fail
  refine (sMatrix _ _ _ R _ HA.out HS.out HC.out).mono ?_
  rintro e w1 ⟨b1, c1, rfl, ho, hb⟩
  have HQ1 : Hid (Sq w1 b1 n (M.crM R)) := ⟨ho.mat, HRc.out, fun i j hi hj => M.sm_wide (HSm.out i j hi hj), n1, n2⟩
  have HB1 := Lib.hid hb
  clear ho hb
  go_wp2_with fail
  refine (sComponents _ _ _ (M.crM R) _ HQ1.out).mono ?_
  rintro e w2 ⟨b2, m2, c2, rfl, ho, hb⟩
  have hm2 := ho.len
  have HB2 := Lib.hid (HB1.out.trans (hb.mono HB1.out.size))
  have hzl := HB1.out.size
  have HRow := Lib.hid (fun k (hk : k < (M.compsL (M.ent (M.crM R)) n).length) => M.crRow HRn.out hk)
  have HEnd := Lib.hid (M.crComps_ids HRn.out)
  have hln : (M.compsL (M.ent (M.crM R)) n).length ≤ n := M.compsP_len _ _ _
  obtain ⟨V, hV⟩ := ho
  have HV2 := Lib.hid hV
  clear hb hV HQ1
  generalize M.compsL (M.ent (M.crM R)) n = L at *
  subst hm2
  go_wp2_with fail
  refine (sNodes6 _ _ _ R _ (HA.out.below HB2.out) HS.out HC.out).mono ?_
  rintro e w3 ⟨b3, c3, rfl, ho, hb⟩
  have HN3 := Lib.hid ho.ints'
  have HV3 := Lib.hid (HV2.out.below hb)
  have HB23 := Lib.hid hb
  have HB3 := Lib.hid (HB2.out.trans (hb.mono HB2.out.size))
  have hz3 : w2.heap.size ≤ w3.heap.size := hb.size
  have hz2 : w.heap.size ≤ w2.heap.size := HB2.out.size
  clear ho hb
  go_wp2
  go_loopw [5, 6] (fun o kv wr => ∃ (k : Nat) (b : Option Addr) (c : Nat), k ≤ L.length ∧ kv = .int .i64 k ∧ o = .slice b (M.idsK L (M.crPick R) k).length c ∧ Hid (wr.ownsRow w3.heap.size 28 1 (.slice b (M.idsK L (M.crPick R) k).length c) (M.idsK L (M.crPick R) k).length ((M.idsK L (M.crPick R) k).map fun i => V.getD i (.slice none 0 0))) ∧ Hid (Below w3.heap.size w3 wr)) (fun _ kv _ => L.length - (intOf kv).toNat)
  case atStart => exact ⟨0, _, _, Nat.zero_le _, rfl, rfl, row_lit0 _ _ (Nat.le_refl _), b_alloc _ _⟩
  case round =>
    obtain ⟨k, b, c, hk, rfl, rfl, HO, HB⟩ := hrel
    have HIn := Lib.hid (M.idsK_next L (M.crPick R) k)
    have HIl := Lib.hid (M.idsK_len L (M.crPick R) k)
    by_cases hkl : k < L.length
    · have hki : (k : Int) < (L.length : Int) := by omega
      obtain ⟨hr1, hr2⟩ := HRow.out k hkl
      obtain ⟨g, ra, rc, hga, hVk, cr, hI⟩ := (HV3.out.below HB.out).cell k hkl
      subst hga
      obtain ⟨q, qo, x0, hra, -, hx0, cx0⟩ := hI.at 0 (by omega)
      subst hra
      rw [Nat.add_zero] at cx0
      rw [← hx0] at hr2
      have HNw := Lib.hid (HN3.out.below HB.out)
      obtain ⟨hb, hhb⟩ : ∃ hb, hb = M.crPick R (L.getD k []) := ⟨_, rfl⟩
      have HH : Hid (M.hasB (M.nodesL R) x0 = hb) := by show _ = _; rw [hhb]; exact hr2
      have hin := HIn.out
      rw [← hhb] at hin
      have HVk := Lib.hid hVk
      have hm0 : (0 : Int) < ((L.getD k []).length : Int) := by omega
      clear hx0 hr2 hhb hI HIn hVk hr1
      generalize (L.getD k []).length = m at *
      generalize L.length = N at *
      generalize hnd : M.idsK L (M.crPick R) k = ids at *
      clear hnd
      cases hb with
      | false =>
        have HN : Hid (M.idsK L (M.crPick R) (k + 1) = ids) := by show _ = _; rw [hin]; simp
        clear hin
        go_wp2_with (go_at_call 71; refine (sHas _ _ _ (M.nodesL R) _ _ (by exact HNw.out)).mono ?_; rintro e w' ⟨rfl, rfl⟩; rw [HH.out])
        go_roundw
        case rel => exact ⟨k + 1, b, c, by omega, by go_num, by rw [HN.out], by show World.ownsRow _ _ _ _ _ _ _; rw [HN.out]; exact HO.out, HB⟩
        case measure => simp [intOf]; omega
      | true =>
        have HN : Hid (M.idsK L (M.crPick R) (k + 1) = ids ++ [k]) := by show _ = _; rw [hin]; simp
        clear hin
        go_wp2_with (first | (go_at_call 71; refine (sHas _ _ _ (M.nodesL R) _ _ (by exact HNw.out)).mono ?_; rintro e w' ⟨rfl, rfl⟩; rw [HH.out]) | (at_builtin; refine appendVal _ rfl (.tmp 27) (.tmp 32) rfl w3.heap.size _ _ _ m rc _ rfl HO.out rfl (by have := HIl.out; omega) HB.out.size ?_))
        intro b4 c4 w4 hO4 hb4 _
        have HO4 := Lib.hid hO4
        have HB4 := Lib.hid (HB.out.trans hb4)
        clear hO4 hb4
        go_wp2
        go_roundw
        case rel => exact ⟨k + 1, b4, c4, by omega, by go_num, by rw [HN.out, List.length_append]; rfl, by show World.ownsRow _ _ _ _ _ _ _; rw [HN.out, List.length_append, List.map_append]; have := HO4.out; rw [← HVk.out] at this; exact this, HB4⟩
        case measure => simp [intOf]; omega
    · obtain rfl : k = L.length := by omega
      have HP : Hid (OwnM wr w.heap.size (.slice b (M.idsK L (M.crPick R) L.length).length c) (M.crComps R)) := by
        show OwnM _ _ _ _
        rw [← HEnd.out]
        refine ⟨_, OwnV.pick HV2.out _ (M.idsK_up _ _ _) (fun i hi => M.idsK_lt hi) (World.ownsRow.mono HO.out (by omega)) fun i kk hi e => ?_⟩
        have hlt := own_lt (HV2.out.2.2.1 i hi) e
        refine ⟨(HB.out.block kk (by omega)).trans (HB23.out.block kk (by omega)), by omega, fun e2 => ?_⟩
        have := own_lt HO.out e2
        omega
      clear HO
      go_wp2
      go_ret
      exact ⟨b, _, c, rfl, HP.out, HB3.out.trans (HB.out.mono HB3.out.size)⟩
set_option maxRecDepth 100000 in
set_option maxHeartbeats 1000000 in
theorem sCriticalComponents (a : Option Addr) (n cap : Nat) (R : List (List Int)) (w : World) (h : Mat w a n R) :
    Calls Tryz.prog 32 #[.slice a n cap] w (MRes (M.compRes R) w) := by
  have HA := Lib.hid h
  by_cases hc : M.crCode R = 0
  · obtain ⟨h1, h2⟩ := M.cr_code hc
    have H1 := Lib.hid h1
    have H2 := Lib.hid h2
    have HK := Lib.hid hc
    have HE : Hid (M.compRes R = (M.crComps R, 0)) := by show _ = _; unfold M.compRes; rw [if_pos hc]
    clear h hc h1 h2
    go_enter Tryz.func32, Tryz.ntmps32
    go_wp2_with fail
    refine (sCode _ _ _ R _ HA.out).mono ?_
    rintro e w1 ⟨rfl, hb⟩
    rw [HK.out]
    have HB := Lib.hid hb
    clear hb
    go_wp2_with fail
    refine (sComponents6 _ _ _ R _ (HA.out.below HB.out) H1.out H2.out).mono ?_
    rintro e w2 ⟨b2, m2, c2, rfl, ho, hb⟩
    have HO := Lib.hid (ho.mono HB.out.size)
    have HB2 := Lib.hid (HB.out.trans (hb.mono HB.out.size))
    clear ho hb
    go_wp2
    go_ret2
    rw [HE.out]
    exact ⟨_, _, _, rfl, HO.out, HB2.out⟩
  · obtain ⟨k, hk⟩ : ∃ k, k = M.crCode R := ⟨_, rfl⟩
    have HE : Hid (M.compRes R = ([], k)) := by show _ = _; unfold M.compRes; rw [if_neg hc, hk]
    have HK := Lib.hid hk
    have hk0 : (k != 0) = true := by rw [hk]; simpa using hc
    clear h hc hk
    go_enter Tryz.func32, Tryz.ntmps32
    go_wp2_with fail
    refine (sCode _ _ _ R _ HA.out).mono ?_
    rintro e w1 ⟨rfl, hb⟩
    rw [← HK.out]
    have HB := Lib.hid hb
    clear hb
    go_wp2
    go_ret2
    exact MRes.nil HE.out HB.out
end V
end Go.Proofs.YthonlfjjgmmnpaaGreat

namespace Go.Proofs.YthonlfjjgmmnpaaGreat.V
set_option maxRecDepth 100000
open Go.RowKit Go.Maps
abbrev arcV (f t : Nat) : Value := .agg #[.int .i64 (f : Int), .int .i64 (t : Int)]
def akey (f t : Nat) : Lit := .string (keyBytes [.int .i64 (f : Int), .int .i64 (t : Int)])
theorem arcLaid : laidOutB Tryz.prog = true := by kernel_rfl
theorem arcRowLt : (61 : TypeId) < Tryz.prog.types.size := of_decide_eq_true (by kernel_rfl)
theorem arcWide : (match Tryz.prog.underlying 61 with | some (.array _ _) | some (.struct _) => true | _ => false) = true := by rw [Tryz.underlying61]
theorem keyA : Keyed Tryz.prog 61 := Keyed.of_law (deep_law_laid arcLaid (m := 2) (by omega) arcRowLt (by kernel_rfl) arcWide)
theorem arcKeyType : Tryz.prog.keyType 61 = true := by kernel_rfl
theorem arcCells : Tryz.prog.cellsOf 61 = 2 := by kernel_rfl
theorem arcCells1 : Tryz.prog.cellsOf 2 = 1 := by kernel_rfl
theorem typesPos : ∃ m, Tryz.prog.types.size = m + 1 := ⟨_, (Nat.succ_pred_eq_of_pos (Nat.lt_of_le_of_lt (Nat.zero_le _) arcRowLt)).symm⟩
theorem akeyAt (f t : Nat) (hf : f < 1000) (ht : t < 1000) : keyOf Tryz.prog 61 (arcV f t) = some (akey f t) := by
  obtain ⟨m, hm⟩ := typesPos
  have w1 : (Lit.int .i64 (f : Int)).wf = true := WalkArith.wf_i64 (by omega)
  have w2 : (Lit.int .i64 (t : Int)).wf = true := WalkArith.wf_i64 (by omega)
  unfold keyOf
  rw [Tryz.underlying61]
  have hfm : (arcV f t).formed Tryz.prog 61 = true := by simp [Value.formed, Tryz.underlying61, arcCells]
  simp only [arcKeyType, hfm, Bool.and_self, if_true]
  rw [hm]
  simp [Program.keyLits, Tryz.underlying61, Tryz.underlying2, arcCells, arcCells1, Value.cells, w1, w2, akey]
theorem akey_inj {f t f' t' : Nat} (h1 : f < 1000) (h2 : t < 1000) (h3 : f' < 1000) (h4 : t' < 1000) (h : akey f t = akey f' t') : f = f' ∧ t = t' := by
  have e := keyA.inj (akeyAt f t h1 h2) (by rw [h]; exact akeyAt f' t' h3 h4)
  injection e with e
  simp at e
  exact ⟨by omega, by omega⟩
theorem akeyKey (f t : Nat) : WideAt.IsKeyLit (akey f t) := trivial
/-- The datum holds the set S of pairs of nodes. -/
def IsArcD (D : DataW Unit) (n : Nat) (S : Nat → Nat → Bool) : Prop :=
  IsMap D ∧ (∀ f t, f < n → t < n → D.atKey (akey f t) (.lit (.bool false)) = .lit (.bool (S f t))) ∧ (∀ f t, f < n → t < n → Maps.has D (akey f t) = S f t) ∧ (∀ kl, Maps.has D kl = true → ∃ f t, f < n ∧ t < n ∧ kl = akey f t)
/-- Block b is a map of at most m arcs. -/
def IsArcs (w : World) (b n m : Nat) (S : Nat → Nat → Bool) : Prop :=
  ∃ D : DataW Unit, w.ownsMap Tryz.prog 61 (plainElem Tryz.prog 4) b m D ∧ IsArcD D n S
theorem IsArcs.lt {w : World} {b n m : Nat} {S : Nat → Nat → Bool} (h : IsArcs w b n m S) : b < w.heap.size := by
  obtain ⟨D, h, -⟩ := h
  exact h.lt
theorem IsArcs.block {w w' : World} {b n m : Nat} {S : Nat → Nat → Bool} (h : IsArcs w b n m S) (e : w'.heap[b]? = w.heap[b]?) : IsArcs w' b n m S := by
  obtain ⟨D, ⟨es, clock, hb, F, hs, hD⟩, h2⟩ := h
  exact ⟨D, ⟨es, clock, e.trans hb, F, hs, hD⟩, h2⟩
theorem IsArcs.below {w w' : World} {B b n m : Nat} {S : Nat → Nat → Bool} (h : IsArcs w b n m S) (hb : Below B w w') (hB : b < B) : IsArcs w' b n m S := h.block (hb.block b hB)
theorem IsArcs.mono {w : World} {b n m m' : Nat} {S : Nat → Nat → Bool} (h : IsArcs w b n m S) (hm : m ≤ m') : IsArcs w b n m' S := by
  obtain ⟨D, h1, h2⟩ := h
  exact ⟨D, h1.mono hm, h2⟩
theorem IsArcD.congr {D : DataW Unit} {n : Nat} {S S' : Nat → Nat → Bool} (h : IsArcD D n S) (e : ∀ f t, f < n → t < n → S f t = S' f t) : IsArcD D n S' := by
  obtain ⟨h1, h2, h3, h4⟩ := h
  exact ⟨h1, fun f t hf ht => by rw [h2 f t hf ht, e f t hf ht], fun f t hf ht => by rw [h3 f t hf ht, e f t hf ht], h4⟩
theorem IsArcs.congr {w : World} {b n m : Nat} {S S' : Nat → Nat → Bool} (h : IsArcs w b n m S) (e : ∀ f t, f < n → t < n → S f t = S' f t) : IsArcs w b n m S' := by
  obtain ⟨D, h1, h2⟩ := h
  exact ⟨D, h1, h2.congr e⟩
theorem isArcs_made (w : World) (n : Nat) : IsArcs (w.alloc (.map #[] 0)) w.heap.size n 0 (fun _ _ => false) :=
  ⟨.map [], World.ownsMap_made _ _ _ _, ⟨[], rfl⟩, fun _ _ _ _ => rfl, fun _ _ _ _ => rfl, fun kl h => by cases h⟩
theorem IsArcs.look {w : World} {b n m : Nat} {S : Nat → Nat → Bool} (h : IsArcs w b n m S) (hn : n ≤ 10) (f t : Nat) (hf : f < n) (ht : t < n) : (Instr.lookup 55 (.map (some b)) (arcV f t) false).run Tryz.prog w = .ok (.bool (S f t)) w := by
  obtain ⟨D, h1, -, h3, -⟩ := h
  obtain ⟨v, ps, hr, hv⟩ := h1.lookup keyA Tryz.underlying55 (zeroB w) (plainElem_bool Tryz.underlying4 false) (akeyAt f t (by omega) (by omega))
  rw [h3 f t hf ht] at hv
  obtain ⟨x, rfl, hz⟩ := plainElem_bool_inv hv
  simp only [Prod.mk.injEq, DataW.lit.injEq, Lit.bool.injEq] at hz
  rw [hr, hz.1]
theorem IsArcD.put {D : DataW Unit} {n : Nat} {S : Nat → Nat → Bool} (h : IsArcD D n S) (hn : n ≤ 10) {f t : Nat} (hf : f < n) (ht : t < n) : IsArcD (D.put (akey f t) (.lit (.bool true))) n (M.upd2 S f t) := by
  obtain ⟨h1, h2, h3, h4⟩ := h
  have hne : ∀ f' t', f' < n → t' < n → ¬ (f' = f ∧ t' = t) → akey f' t' ≠ akey f t := fun f' t' a b c e => c (akey_inj (by omega) (by omega) (by omega) (by omega) e)
  have hu : ∀ f' t', ¬ (f' = f ∧ t' = t) → M.upd2 S f t f' t' = S f' t' := fun f' t' c => by
    unfold M.upd2
    by_cases a : f' = f
    · by_cases b : t' = t
      · exact absurd ⟨a, b⟩ c
      · simp [b]
    · simp [a]
  refine ⟨h1.put _ _, fun f' t' a b => ?_, fun f' t' a b => ?_, fun kl hk => ?_⟩
  · by_cases c : f' = f ∧ t' = t
    · obtain ⟨rfl, rfl⟩ := c
      rw [atKey_put_same h1 (akeyKey _ _)]
      unfold M.upd2; simp
    · rw [atKey_put_other (hne f' t' a b c), h2 f' t' a b, hu f' t' c]
  · by_cases c : f' = f ∧ t' = t
    · obtain ⟨rfl, rfl⟩ := c
      rw [has_put_same h1 (akeyKey _ _)]
      unfold M.upd2; simp
    · rw [has_put_other (hne f' t' a b c), h3 f' t' a b, hu f' t' c]
  · by_cases c : kl = akey f t
    · exact ⟨f, t, hf, ht, c⟩
    · rw [has_put_other c] at hk
      exact h4 kl hk
theorem wpList_putA (w : World) {ops : Array Oper} {rest : List Oper} {o : Oper} {a : Act} {Q : Exit → Act → World → Prop}
    (hg : o.guard = none) (m x v : Operand) (hop : o.op = Op.mapUpdate 55 m x v) (b n M0 : Nat) (S : Nat → Nat → Bool) (f t : Nat)
    (hm : a.eval m = .map (some b)) (hown : IsArcs w b n M0 S) (hn : n ≤ 10) (hM : M0 < 1000) (hf : f < n) (ht : t < n) (hx : a.eval x = arcV f t) (hv : a.eval v = .bool true)
    (hK : ∀ w', IsArcs w' b n (M0 + 1) (M.upd2 S f t) → w.grownBy w' (some b) → wpList Tryz.prog ops Q rest (a.put o.dst undef) w') :
    wpList Tryz.prog ops Q (o :: rest) a w := by
  obtain ⟨D, h1, h2⟩ := hown
  exact wpList_mapUpdate_own w hg m x v 55 hop 61 4 keyA Tryz.underlying55 _ b M0 D hm h1 (by unfold maxLen; omega) _ _ _ hx hv (akeyAt f t (by omega) (by omega)) _ [] (plainElem_bool Tryz.underlying4 true) fun w' h' hg' => hK w' ⟨_, h', h2.put hn hf ht⟩ hg'
/-- A range over the arcs of block b, by the iterator r: L tells which of the arcs S are still to come. -/
def RngA (w : World) (b r n m : Nat) (S L : Nat → Nat → Bool) (cnt : Nat) : Prop :=
  ∃ (D : DataW Unit) (left : Lit → Bool), w.ranges Tryz.prog 61 (plainElem Tryz.prog 4) b r m D left cnt ∧ IsArcD D n S ∧ (∀ kl, left kl = true → Maps.has D kl = true) ∧ ∀ f t, f < n → t < n → left (akey f t) = L f t
theorem RngA.owns {w : World} {b r n m cnt : Nat} {S L : Nat → Nat → Bool} (h : RngA w b r n m S L cnt) : IsArcs w b n m S := by
  obtain ⟨D, left, h1, h2, -⟩ := h
  exact ⟨D, h1.owns, h2⟩
theorem RngA.lt {w : World} {b r n m cnt : Nat} {S L : Nat → Nat → Bool} (h : RngA w b r n m S L cnt) : r < w.heap.size := by
  obtain ⟨D, left, h1, -⟩ := h
  exact h1.lt
theorem RngA.left_eq {w : World} {b r n m cnt : Nat} {S L : Nat → Nat → Bool} (h : RngA w b r n m S L cnt) : w.rangeLeft b r = cnt := by
  obtain ⟨D, left, h1, -⟩ := h
  exact h1.left_eq
theorem RngA.blocks {w w' : World} {b r n m cnt : Nat} {S L : Nat → Nat → Bool} (h : RngA w b r n m S L cnt) (e1 : w'.heap[b]? = w.heap[b]?) (e2 : w'.heap[r]? = w.heap[r]?) : RngA w' b r n m S L cnt := by
  obtain ⟨D, left, ⟨es, clock, since, seen, c0, hb, F, hs, hD, hr, rest⟩, h2⟩ := h
  exact ⟨D, left, ⟨es, clock, since, seen, c0, e1.trans hb, F, hs, hD, e2.trans hr, rest⟩, h2⟩
theorem wpList_rangeA (w : World) {ops : Array Oper} {rest : List Oper} {o : Oper} {a : Act} {Q : Exit → Act → World → Prop}
    (hg : o.guard = none) (m : Operand) (hop : o.op = Op.range 55 m) (b n M0 : Nat) (S : Nat → Nat → Bool)
    (hm : a.eval m = .map (some b)) (hown : IsArcs w b n M0 S)
    (hK : ∀ w' cnt, RngA w' b w.heap.size n M0 S S cnt → cnt ≤ M0 → w.grownBy w' none → w'.heap.size = w.heap.size + 1 → wpList Tryz.prog ops Q rest (a.put o.dst (.pointer (some ⟨w.heap.size, 0, none⟩))) w') :
    wpList Tryz.prog ops Q (o :: rest) a w := by
  obtain ⟨D, h1, h2⟩ := hown
  have hsz : Maps.size D ≤ M0 := by
    obtain ⟨es, clock, -, -, hle, rfl⟩ := h1
    simp only [Maps.size, length_sorted, List.length_map]
    simpa using hle
  exact wpList_range_own w hg m 55 hop 61 4 keyA Tryz.underlying55 _ b M0 D hm h1 fun w' hr hgr hz => hK w' _ ⟨D, _, hr, h2, fun _ h => h, h2.2.2.1⟩ hsz hgr hz
def strike (L : Nat → Nat → Bool) (f t a b : Nat) : Bool := L a b && !(decide (a = f) && decide (b = t))
theorem wpList_nextA (w : World) {ops : Array Oper} {rest : List Oper} {o : Oper} {a : Act} {Q : Exit → Act → World → Prop}
    (hg : o.guard = none) (it : Operand) (hop : o.op = Op.next it false) (b r n M0 : Nat) (S L : Nat → Nat → Bool) (cnt : Nat) (hn : n ≤ 10)
    (hit : a.eval it = .pointer (some ⟨r, 0, none⟩)) (h : RngA w b r n M0 S L cnt)
    (hDone : (∀ f t, f < n → t < n → L f t = false) → wpList Tryz.prog ops Q rest (a.put o.dst (.tuple #[.bool false])) w)
    (hMore : ∀ (f t : Nat) (w' : World) (cnt' : Nat), f < n → t < n → L f t = true → S f t = true → RngA w' b r n M0 S (strike L f t) cnt' → cnt' < cnt → w.grownBy w' (some r) → w'.heap.size = w.heap.size →
      (Instr.entry (.pointer (some ⟨r, 0, none⟩))).run Tryz.prog w' = .ok (.tuple #[arcV f t, .bool true]) w' → wpList Tryz.prog ops Q rest (a.put o.dst (.tuple #[.bool true, arcV f t, .bool true])) w') :
    wpList Tryz.prog ops Q (o :: rest) a w := by
  obtain ⟨D, left, h1, h2, h3, h4⟩ := h
  refine wpList_plain hg fun K' hK' => ?_
  unfold Oper.wp
  rcases h1.next keyA o.type with ⟨h0, hl, hrun⟩ | ⟨key, v, kl, y, w', cnt', hkey, hlk, hv, hat, hrun, hrg, hlt, hgr, hsz, hen⟩
  · simp [execOp, hop, hit, hrun, Result.andThen]
    exact hK' _ _ (hDone fun f t hf ht => by rw [← h4 f t hf ht, hl])
  · obtain ⟨f, t, hf, ht, rfl⟩ := h2.2.2.2 kl (h3 kl hlk)
    obtain rfl := keyA.inj hkey (akeyAt f t (by omega) (by omega))
    obtain ⟨x, rfl, hz⟩ := plainElem_bool_inv hv
    have hS : S f t = true := by rw [← h2.2.2.1 f t hf ht]; exact h3 _ hlk
    have hx : x = true := by
      have e := hat (.lit (.bool false))
      rw [h2.2.1 f t hf ht, hS, hz] at e
      injection e with e
      injection e with e
      exact e.symm
    subst hx
    simp [execOp, hop, hit, hrun, Result.andThen]
    refine hK' _ _ (hMore f t w' cnt' hf ht (by rw [← h4 f t hf ht]; exact hlk) hS ⟨D, _, hrg, h2, fun kl hk => h3 kl (by simp at hk; exact hk.1), fun f' t' a b => ?_⟩ hlt hgr hsz hen)
    show (left (akey f' t') && !(akey f' t').sameKey (akey f t)) = strike L f t f' t'
    unfold strike
    rw [h4 f' t' a b]
    congr 1
    by_cases c : f' = f ∧ t' = t
    · obtain ⟨rfl, rfl⟩ := c
      rw [WideAt.sameKey_self (akeyKey _ _)]; simp
    · have hne : akey f' t' ≠ akey f t := fun e => c (akey_inj (by omega) (by omega) (by omega) (by omega) e)
      rw [sameKey_ne hne]
      by_cases p : f' = f
      · by_cases q : t' = t
        · exact absurd ⟨p, q⟩ c
        · simp [q]
      · simp [p]
end Go.Proofs.YthonlfjjgmmnpaaGreat.V

namespace Go.Proofs.YthonlfjjgmmnpaaGreat.V
open Go.RowKit
theorem infoR : (Tryz.prog.info? 44).map (fun i => (i.zero, i.size, i.bytes)) = some (some (.agg #[.int .i64 0, .int .i64 0]), 2, 16) := by kernel_rfl
/-- Two cells a ratio. -/
def rcells (l : List (Int × Int)) : List Value := l.flatMap fun p => [.int .i64 p.1, .int .i64 p.2]
theorem rcells_len (l : List (Int × Int)) : (rcells l).length = l.length * 2 := by
  induction l with
  | nil => rfl
  | cons p l ih => show (Value.int .i64 p.1 :: Value.int .i64 p.2 :: rcells l).length = _; simp [ih]; omega
theorem rcells_snoc (l : List (Int × Int)) (p : Int × Int) : rcells (l ++ [p]) = rcells l ++ [.int .i64 p.1, .int .i64 p.2] := by
  unfold rcells; rw [List.flatMap_append, List.flatMap_singleton]
theorem rcells_at (l : List (Int × Int)) : ∀ i, i < l.length → (rcells l)[2 * i]? = some (.int .i64 (l.getD i (0, 0)).1) ∧ (rcells l)[2 * i + 1]? = some (.int .i64 (l.getD i (0, 0)).2) := by
  induction l with
  | nil => intro i hi; exact absurd hi (by simp)
  | cons p l ih =>
    intro i hi
    have e : rcells (p :: l) = .int .i64 p.1 :: .int .i64 p.2 :: rcells l := rfl
    cases i with
    | zero => rw [e]; exact ⟨rfl, rfl⟩
    | succ i =>
      obtain ⟨h1, h2⟩ := ih i (by simpa using hi)
      rw [e, show 2 * (i + 1) = 2 * i + 1 + 1 by omega]
      simp only [List.getElem?_cons_succ, List.getD_cons_succ]
      exact ⟨h1, h2⟩
/-- A slice that the call owns, in blocks from B on, holding the ratios l. -/
def OwnR (w : World) (B : Nat) (v : Value) (l : List (Int × Int)) : Prop := w.ownsRow B 44 2 v l.length (rcells l)
theorem OwnR.lt {w : World} {B : Nat} {v : Value} {l : List (Int × Int)} (h : OwnR w B v l) {k : Nat} (hk : v.ownBlock = some k) : B ≤ k ∧ k < w.heap.size := World.ownsRow.lt h k hk
theorem OwnR.keep {w w' : World} {B : Nat} {v : Value} {l : List (Int × Int)} (h : OwnR w B v l) (hk : ∀ k, B ≤ k → k < w.heap.size → w'.heap[k]? = w.heap[k]?) : OwnR w' B v l := by
  have h' := h
  obtain ⟨h1, h2⟩ := h
  refine ⟨h1, ?_⟩
  rcases h2 with h2 | ⟨g, cap, cur, hv, hg, hh, r⟩
  · exact .inl h2
  · obtain ⟨q1, q2⟩ := OwnR.lt h' (k := g) (by subst hv; rfl)
    exact .inr ⟨g, cap, cur, hv, hg, by rw [hk g q1 q2]; exact hh, r⟩
theorem OwnR.below {w w' : World} {B : Nat} {v : Value} {l : List (Int × Int)} (h : OwnR w B v l) (hb : Below w.heap.size w w') : OwnR w' B v l :=
  h.keep (fun k _ h2 => hb.block k h2)
theorem OwnR.mono {w : World} {B B' : Nat} {v : Value} {l : List (Int × Int)} (h : OwnR w B v l) (hb : B' ≤ B) : OwnR w B' v l := World.ownsRow.mono h hb
theorem OwnR.form {w : World} {B : Nat} {v : Value} {l : List (Int × Int)} (h : OwnR w B v l) : ∃ a cap, v = .slice a l.length cap ∧ l.length ≤ cap ∧ cap ≤ maxLen ∧ (0 < l.length → ∃ g, a = some ⟨g, 0, none⟩ ∧ B ≤ g ∧ g < w.heap.size) := by
  have h' := h
  obtain ⟨h1, h2⟩ := h
  rcases h2 with ⟨hv, h0⟩ | ⟨g, cap, cur, hv, hg, hh, hn, hc, r⟩
  · rw [h0]; exact ⟨none, 0, hv, Nat.le_refl _, Nat.zero_le _, fun h => by omega⟩
  · subst hv
    exact ⟨_, cap, rfl, hn, hc, fun _ => ⟨g, rfl, hg, (OwnR.lt h' rfl).2⟩⟩
theorem OwnR.len {w : World} {B n cap : Nat} {a : Option Addr} {l : List (Int × Int)} (h : OwnR w B (.slice a n cap) l) : n = l.length := by
  obtain ⟨a', c, hv, _⟩ := h.form
  injection hv
theorem ownR_nil (w : World) (B : Nat) : OwnR w B (.slice none 0 0) [] := World.ownsRow_nil w B _ 2
theorem OwnR.at {w : World} {B n cap : Nat} {a : Option Addr} {l : List (Int × Int)} (h : OwnR w B (.slice a n cap) l) (hn : 0 < n) : ∃ g, a = some ⟨g, 0, none⟩ ∧ B ≤ g ∧ g < w.heap.size ∧ ∀ i, i < n → w.cell? ⟨g, 2 * i, none⟩ = some (.int .i64 (l.getD i (0, 0)).1) ∧ w.cell? ⟨g, 2 * i + 1, none⟩ = some (.int .i64 (l.getD i (0, 0)).2) := by
  have e := h.len
  obtain ⟨a', c', hv, _, _, hg⟩ := h.form
  injection hv with e1 e2 e3
  subst e1
  obtain ⟨g, rfl, g1, g2⟩ := hg (by omega)
  refine ⟨g, rfl, g1, g2, fun i hi => ?_⟩
  have hc := World.ownsRow.cells h (g := g) rfl
  obtain ⟨r1, r2⟩ := rcells_at l i (by omega)
  have c1 := hc _ _ r1
  have c2 := hc _ _ r2
  have a1 : (⟨g, 0, none⟩ : Addr).add (2 * i) = ⟨g, 2 * i, none⟩ := by unfold Addr.add; split <;> simp_all
  have a2 : (⟨g, 0, none⟩ : Addr).add (2 * i + 1) = ⟨g, 2 * i + 1, none⟩ := by unfold Addr.add; split <;> simp_all
  rw [a1] at c1
  rw [a2] at c2
  exact ⟨c1, c2⟩
/-- One ratio is appended, at a step of a region. -/
theorem step_appendR (w : World) {ops : Array Oper} {o : Oper} {a : Act} {K : Act → World → Prop} {Q : Exit → Act → World → Prop} {E : Prop} (hgd : o.guard = none) (s x : Operand)
    (ho : o.op = .call { callee := .builtin .append, args := #[s, x], argTypes := #[116, 116] }) (B : Nat) (v : Value) (l : List (Int × Int)) (p : Int × Int) (g n : Nat) (hn : l.length = n) (hs : a.eval s = v) (hown : OwnR w B v l)
    (hx : a.eval x = .slice (some ⟨g, 0, none⟩) 1 1) (hy1 : w.cell? ⟨g, 0, none⟩ = some (.int .i64 p.1)) (hy2 : w.cell? ⟨g, 1, none⟩ = some (.int .i64 p.2)) (hlen : n ≤ 2000000) (hB : B ≤ w.heap.size)
    (h : ∀ b' c' w', OwnR w' B (.slice b' (n + 1) c') (l ++ [p]) → Below B w w' → K (a.put o.dst (.slice b' (n + 1) c')) w') :
    if Region.wanted o (yielded ops a.tmps) = true then Oper.wp Tryz.prog o a w K Q else E := by
  subst hn
  obtain ⟨i0, hi, hz0, hz1, hz2⟩ := info_parts infoR
  refine step_append_lies w hgd s x 116 ho B 44 i0 (.agg #[.int .i64 0, .int .i64 0]) 2 16 Tryz.underlying116 hi hz0 hz1 hz2 rfl (by decide) v l.length (rcells l) hs hown ⟨g, 0, none⟩ 1 1 [.int .i64 p.1, .int .i64 p.2] hx rfl ?c1 ?c2 (by decide) ?c3 ?c4 hB w.heap.size rfl ?_
  case c1 =>
    intro j u hj
    match j, hj with
    | 0, hj => simp at hj; subst hj; exact hy1
    | 1, hj => simp at hj; subst hj; exact hy2
    | j + 2, hj => simp at hj
  case c2 => intro u hu; simp at hu; rcases hu with rfl | rfl <;> rfl
  case c3 => unfold maxLen; omega
  case c4 => omega
  · intro g' cap' w' hown' hgrow hat hlt
    have ho' : OwnR w' B (.slice (some ⟨g', 0, none⟩) (l.length + 1) cap') (l ++ [p]) := by
      show w'.ownsRow B _ 2 _ (l ++ [p]).length (rcells (l ++ [p]))
      rw [rcells_snoc]
      simpa using hown'
    exact h _ _ w' ho' ((Below.refl B w).grown hgrow hB (fun k hk => (OwnR.lt hown hk).1))
theorem cells_two_new (w : World) (x y : Value) (t : TypeId) : ∀ j u, [x, y][j]? = some u → (w.alloc (.cells #[x, y] t)).cell? ((⟨w.heap.size, 0, none⟩ : Addr).add j) = some u := by
  intro j u hj
  match j, hj with
  | 0, hj => simp at hj; subst hj; simp [Addr.add]
  | 1, hj => simp at hj; subst hj; simp [Addr.add]
  | j + 2, hj => simp at hj
theorem appendR (w : World) {ops : Array Oper} {rest : List Oper} {o : Oper} {a : Act} {Q : Exit → Act → World → Prop} (hgd : o.guard = none) (s x : Operand)
    (ho : o.op = .call { callee := .builtin .append, args := #[s, x], argTypes := #[116, 116] }) (B : Nat) (v : Value) (l : List (Int × Int)) (p : Int × Int) (n g : Nat) (hn : l.length = n) (hs : a.eval s = v) (hown : OwnR w B v l)
    (hx : a.eval x = .slice (some ⟨g, 0, none⟩) 1 1) (hy1 : w.cell? ⟨g, 0, none⟩ = some (.int .i64 p.1)) (hy2 : w.cell? ⟨g, 1, none⟩ = some (.int .i64 p.2)) (hlen : l.length ≤ 2000000) (hB : B ≤ w.heap.size)
    (h : ∀ b' c' w', OwnR w' B (.slice b' (n + 1) c') (l ++ [p]) → Below B w w' → wpList Tryz.prog ops Q rest (a.put o.dst (.slice b' (n + 1) c')) w') :
    wpList Tryz.prog ops Q (o :: rest) a w := by
  subst hn
  obtain ⟨i0, hi, hz0, hz1, hz2⟩ := info_parts infoR
  refine wpList_append_own_at (w := w) hgd s x 116 ho B 44 i0 (.agg #[.int .i64 0, .int .i64 0]) 2 16 Tryz.underlying116 hi hz0 hz1 hz2 rfl (by decide) v _ _ hs hown ⟨g, 0, none⟩ 1 1 [.int .i64 p.1, .int .i64 p.2] hx rfl ?c1 ?c2 ?c3 ?c4 hB ?_
  case c1 =>
    intro j u hj
    match j, hj with
    | 0, hj => simp at hj; subst hj; exact hy1
    | 1, hj => simp at hj; subst hj; exact hy2
    | j + 2, hj => simp at hj
  case c2 => intro u hu; simp at hu; rcases hu with rfl | rfl <;> rfl
  case c3 => unfold maxLen; omega
  case c4 => omega
  · intro v' w' hown' hgrow hz hvb
    have ho' : OwnR w' B v' (l ++ [p]) := by
      show w'.ownsRow B _ 2 v' (l ++ [p]).length (rcells (l ++ [p]))
      rw [rcells_snoc]
      simpa using hown'
    obtain ⟨b', c', hv', _⟩ := ho'.form
    rw [show (l ++ [p]).length = l.length + 1 by simp] at hv'
    subst hv'
    exact h b' c' w' ho' ((Below.refl B w).grown hgrow hB (fun k hk => (OwnR.lt hown hk).1))
end Go.Proofs.YthonlfjjgmmnpaaGreat.V
