/- Texts laid together: Pck, Cmc, Rt, Mxf, MatKp. -/
import Derived.Test.YtmcihaihbnnblaaGreatQz5
import Derived.Test.YtmcihaihbnnblaaGreatQz8
import Derived.Test.YtmcihaihbnnblaaGreatQz16
import Derived.Test.YtmcihaihbnnblaaGreatQz15
import Derived.Test.YtmcihaihbnnblaaGreatRows
import Derived.Test.YtmcihaihbnnblaaGreatQz1
import Derived.Test.YtmcihaihbnnblaaGreatQz3
import Derived.Test.YtmcihaihbnnblaaGreatQz2
import Derived.WalkKit
import Derived.ProofKit
import Derived.WalkSmall
import Derived.Deep.QuietTactic
import Derived.BigQuiet
import Derived.BigRegion
import Derived.Deep.Draws
import Derived.Deep.OwnRows
import Derived.Deep.AppendLies
import Derived.Maps.AppendAt
import Derived.Lib.Hide
import Derived.Test.YtmcihaihbnnblaaGreatQz11
import Derived.Test.YtmcihaihbnnblaaGreatQz12
import Derived.Deep.RegionWith
import Derived.Deep.RegionHeld3
set_option linter.unusedSimpArgs false
set_option linter.unusedVariables false
set_option linter.unusedSectionVars false
namespace Go.Proofs.YtmcihaihbnnblaaGreat
namespace M
theorem filter_ids (L : List (List Int)) (p : List Int → Bool) : ((List.range L.length).filter fun i => p (L.getD i [])).map (fun i => L.getD i []) = L.filter p := by
  have h : (List.range L.length).map (fun i => L.getD i []) = L := by
    apply List.ext_getElem
    · simp
    · intro k k1 k2
      simp only [List.getElem_map, List.getElem_range]
      rw [List.getD_eq_getElem?_getD, List.getElem?_eq_getElem k2, Option.getD_some]
  conv => rhs; rw [← h]
  rw [List.filter_map]
  rfl
/-- The chosen places among the first k. -/
def idsK (L : List (List Int)) (p : List Int → Bool) (k : Nat) : List Nat := (List.range k).filter fun i => p (L.getD i [])
theorem idsK_next (L : List (List Int)) (p : List Int → Bool) (k : Nat) : idsK L p (k + 1) = idsK L p k ++ (if p (L.getD k []) then [k] else []) := by
  unfold idsK
  rw [List.range_succ, List.filter_append]
  congr 1
  by_cases h : p (L.getD k []) = true
  · rw [if_pos h]; rw [List.getD_eq_getElem?_getD] at h; simp [h]
  · rw [if_neg h]; rw [List.getD_eq_getElem?_getD] at h; simp [h]
theorem idsK_len (L : List (List Int)) (p : List Int → Bool) (k : Nat) : (idsK L p k).length ≤ k := by
  unfold idsK
  exact Nat.le_trans (List.length_filter_le _ _) (by simp)
theorem idsK_lt {L : List (List Int)} {p : List Int → Bool} {k i : Nat} (h : i ∈ idsK L p k) : i < k := List.mem_range.1 (List.mem_filter.1 h).1
theorem idsK_up (L : List (List Int)) (p : List Int → Bool) (k : Nat) : (idsK L p k).Pairwise (fun x y => x < y) := List.Pairwise.filter _ List.pairwise_lt_range
end M
namespace V
open Go.RowKit
theorem own_move {w w' : World} {B B' : Nat} {rv : Value} {l : List Int} (h : Own w B rv l) (hk : ∀ k, rv.ownBlock = some k → w'.heap[k]? = w.heap[k]? ∧ B' ≤ k) : Own w' B' rv l := by
  obtain ⟨h1, h2⟩ := h
  rcases h2 with h2 | ⟨g, cap, cur, e, hB, hh, r⟩
  · exact ⟨h1, .inl h2⟩
  · obtain ⟨k1, k2⟩ := hk g (by rw [e]; rfl)
    exact ⟨h1, .inr ⟨g, cap, cur, e, k2, by rw [k1]; exact hh, r⟩⟩
theorem getD_map_nat {α : Type} (f : Nat → α) (ids : List Nat) (d : α) (i : Nat) (hi : i < ids.length) : (ids.map f).getD i d = f ids[i] := by
  rw [List.getD_eq_getElem?_getD, List.getElem?_map, List.getElem?_eq_getElem hi]
  rfl
theorem OwnV.pick {w w' : World} {B B' : Nat} {v v' : Value} {R : List (List Int)} {V : List Value} (h : OwnV w B v R V) (ids : List Nat) (hid : ids.Pairwise (fun x y => x < y)) (hlt : ∀ i, i ∈ ids → i < R.length)
    (ho : w'.ownsRow B' 34 1 v' ids.length (ids.map fun i => V.getD i (.slice none 0 0)))
    (hk : ∀ i k, i < R.length → (V.getD i (.slice none 0 0)).ownBlock = some k → w'.heap[k]? = w.heap[k]? ∧ B' ≤ k ∧ v'.ownBlock ≠ some k) :
    OwnV w' B' v' (ids.map fun i => R.getD i []) (ids.map fun i => V.getD i (.slice none 0 0)) := by
  obtain ⟨h1, h2, h3, h4, h5⟩ := h
  have hl : (ids.map fun i => R.getD i []).length = ids.length := by simp
  refine ⟨by simp, by rw [hl]; exact ho, fun i hi => ?_, fun i hi k e => ?_, fun i j hi hj hne k e => ?_⟩
  · rw [hl] at hi
    rw [getD_map_nat _ _ _ _ hi, getD_map_nat _ _ _ _ hi]
    have hm := hlt _ (List.getElem_mem hi)
    exact own_move (h3 _ hm) fun k e => ⟨(hk _ k hm e).1, (hk _ k hm e).2.1⟩
  · rw [hl] at hi
    rw [getD_map_nat _ _ _ _ hi] at e
    exact (hk _ k (hlt _ (List.getElem_mem hi)) e).2.2
  · rw [hl] at hi hj
    rw [getD_map_nat _ _ _ _ hi] at e
    rw [getD_map_nat _ _ _ _ hj]
    refine h5 _ _ (hlt _ (List.getElem_mem hi)) (hlt _ (List.getElem_mem hj)) (fun q => ?_) k e
    rcases Nat.lt_or_gt_of_ne hne with hij | hij
    · have := List.pairwise_iff_getElem.1 hid i j hi hj hij; omega
    · have := List.pairwise_iff_getElem.1 hid j i hj hi hij; omega
theorem OwnV.keep {w w' : World} {B : Nat} {v : Value} {R : List (List Int)} {V : List Value} (h : OwnV w B v R V) (hk : ∀ k, B ≤ k → k < w.heap.size → w'.heap[k]? = w.heap[k]?) : OwnV w' B v R V := by
  obtain ⟨h1, h2, h3, h4, h5⟩ := h
  exact ⟨h1, ownsRow_keep h2 (fun k hv => hk k (own_lt h2 hv).1 (own_lt h2 hv).2), fun i hi => (h3 i hi).keep hk, h4, h5⟩
theorem OwnV.below {w w' : World} {B : Nat} {v : Value} {R : List (List Int)} {V : List Value} (h : OwnV w B v R V) (hb : Below w.heap.size w w') : OwnV w' B v R V := h.keep (fun k _ h2 => hb.block k h2)
theorem row_lit0 (w : World) (B : Nat) (hB : B ≤ w.heap.size) : (w.alloc (.cells #[] 34)).ownsRow B 34 1 (.slice (some ⟨w.heap.size, 0, none⟩) 0 0) 0 [] := by
  obtain ⟨V, h1, h2, -⟩ := ownM_lit0 w B hB
  obtain rfl : V = [] := List.eq_nil_of_length_eq_zero h1
  exact h2
/-- One row of an owned matrix, with its value. -/
theorem OwnV.cell {w : World} {B : Nat} {a : Option Addr} {n cap : Nat} {R : List (List Int)} {V : List Value} (h : OwnV w B (.slice a n cap) R V) (i : Nat) (hi : i < n) :
    ∃ g ra rc, a = some ⟨g, 0, none⟩ ∧ V.getD i (.slice none 0 0) = .slice ra (R.getD i []).length rc ∧ w.cell? ⟨g, i, none⟩ = some (.slice ra (R.getD i []).length rc) ∧ Ints .i64 w ra (R.getD i []).length (R.getD i []) := by
  obtain ⟨h1, h2, h3, h4, h5⟩ := h
  obtain ⟨a', c', hv, hc, hm, hg⟩ := own_form h2
  injection hv with e1 e2 e3
  subst e1 e2 e3
  obtain ⟨g, rfl, hB, hlt⟩ := hg (by omega)
  obtain ⟨ra, rc, hv, hI⟩ := (h3 i hi).ints
  refine ⟨g, ra, rc, rfl, hv, ?_, hI⟩
  have := World.ownsRow.cellAt h2 i (by omega)
  rw [this, ← hv]
  simp [h1, hi]
theorem appendVal (w : World) {ops : Array Oper} {rest : List Oper} {o : Oper} {a : Act} {Q : Exit → Act → World → Prop} (hgd : o.guard = none) (s x : Operand)
    (ho : o.op = .call { callee := .builtin .append, args := #[s, x], argTypes := #[24, 24] }) (B : Nat) (v : Value) (V : List Value) (ra : Option Addr) (L rc n : Nat) (hs : a.eval s = v) (hown : w.ownsRow B 34 1 v n V)
    (hx : a.eval x = .slice (some ⟨w.heap.size, 0, none⟩) 1 1) (hlen : n ≤ 2000000) (hB : B ≤ w.heap.size)
    (h : ∀ b' c' w', w'.ownsRow B 34 1 (.slice b' (n + 1) c') (n + 1) (V ++ [.slice ra L rc]) → Below B w w' → (∀ k, k < w.heap.size → v.ownBlock ≠ some k → w'.heap[k]? = w.heap[k]?) → wpList Tryz.prog ops Q rest (a.put o.dst (.slice b' (n + 1) c')) w') :
    wpList Tryz.prog ops Q (o :: rest) a (w.alloc (.cells #[.slice ra L rc] 34)) := by
  obtain ⟨i0, hi, hz0, hz1, hz2⟩ := info_parts infoS64
  have hown2 : (w.alloc (.cells #[.slice ra L rc] 34)).ownsRow B 34 1 v n V := World.ownsRow.alloc hown _
  have hVl : V.length = n := by have := hown.1; omega
  refine wpList_append_own_at (w := w.alloc (.cells #[.slice ra L rc] 34)) hgd s x 24 ho B 34 i0 (.slice none 0 0) 1 24 Tryz.underlying24 hi hz0 hz1 hz2 rfl (by decide) v _ _ hs hown2 ⟨w.heap.size, 0, none⟩ 1 1 [.slice ra L rc] hx rfl (cell_one_new _ _ _) ?c2 ?c3 ?c4 ?c5 ?_
  case c2 => intro u hu; simp at hu; subst hu; rfl
  case c3 => unfold maxLen; omega
  case c4 => omega
  case c5 => simp; omega
  · intro v' w' hown' hgrow hz hvb
    have ho' : w'.ownsRow B 34 1 v' (n + 1) (V ++ [.slice ra L rc]) := by simpa using hown'
    obtain ⟨b', c', hv', _⟩ := own_form ho'
    subst hv'
    refine h b' c' w' ho' (((Below.refl B w).alloc hB _).grown hgrow (by simp; omega) (fun k hk => (own_lt hown hk).1)) (fun k hk hne => ?_)
    obtain ⟨g1, g2, g3, g4, g5⟩ := hgrow
    rw [g5 k (by simp; omega) (fun e => hne e.symm), Below.heap_alloc _ _ _ hk]
end V
end Go.Proofs.YtmcihaihbnnblaaGreat

namespace Go.Proofs.YtmcihaihbnnblaaGreat
namespace M
theorem crRow {R : List (List Int)} {n k : Nat} (hn : R.length = n) (hk : k < (compsL (ent (crM R)) n).length) :
    1 ≤ ((compsL (ent (crM R)) n).getD k []).length ∧ hasB (nodesL R) (((compsL (ent (crM R)) n).getD k []).getD 0 0) = crN R (vx ((compsL (ent (crM R)) n).getD k []) 0) := by
  have hm : (compsL (ent (crM R)) n).getD k [] ∈ compsL (ent (crM R)) n := by rw [List.getD_eq_getElem?_getD, List.getElem?_eq_getElem hk]; exact List.getElem_mem hk
  generalize (compsL (ent (crM R)) n).getD k [] = l at hm ⊢
  obtain ⟨v, hv, -, rfl⟩ := mem_compsP.1 hm
  have hp := compL_pos (A := ent (crM R)) hv
  refine ⟨hp, ?_⟩
  obtain ⟨x, hx, -, ex⟩ := compL_at (k := 0) hp
  unfold vx
  rw [ex]
  apply Bool.eq_iff_iff.2
  rw [hasB_iff, mem_nodesL]
  constructor
  · rintro ⟨f, hf, hc, e⟩
    obtain rfl : x = f := by omega
    simpa using hc
  · intro h; exact ⟨x, by omega, by simpa using h, rfl⟩
def crPick (R : List (List Int)) (l : List Int) : Bool := crN R (vx l 0)
theorem crM_sm {R : List (List Int)} (hs : sqB R = true) {n : Nat} (hn : R.length = n) : ∀ i j, i < n → j < n → Sm 1000000 (ent (crM R) i j) := by
  intro i j hi hj
  obtain ⟨-, -, hA⟩ := sq_sm hs
  subst hn
  unfold crM
  rw [ent_mk _ _ _ _ _ hi hj]
  unfold crF
  split
  · exact hA i j hi hj
  · exact .inl rfl
theorem crComps_ids {R : List (List Int)} {n : Nat} (hn : R.length = n) : (idsK (compsL (ent (crM R)) n) (crPick R) (compsL (ent (crM R)) n).length).map (fun i => (compsL (ent (crM R)) n).getD i []) = crComps R := by
  subst hn
  exact filter_ids _ _
end M
namespace V
set_option maxRecDepth 100000
open Go.RowKit
set_option maxRecDepth 100000 in
set_option maxHeartbeats 4000000 in
theorem sComponents6 (a : Option Addr) (n cap : Nat) (R : List (List Int)) (w : World) (h : Mat w a n R) (hs : M.sqB R = true) (hc : M.hasCyc (M.ent R) R.length = true) :
    Calls Tryz.prog 87 #[.slice a n cap] w fun e w' => ∃ b m c, e = .returned (.slice b m c) ∧ OwnM w' w.heap.size (.slice b m c) (M.crComps R) ∧ Below w.heap.size w w' := by
  have HA := Lib.hid h
  have HRn := Lib.hid h.1
  have HS := Lib.hid hs
  have HC := Lib.hid hc
  obtain ⟨hr, n1, n2, -⟩ := sq_parts h hs
  have HSm := Lib.hid (M.crM_sm hs h.1)
  have HRc : Hid (Rect (M.crM R) n n) := by show Rect _ _ _; rw [← h.1]; exact rect_mk _ _ _
  clear h hs hc hr
  go_enter Tryz.func87, Tryz.ntmps87
  go_wp2_with fail
  refine (sMatrix _ _ _ R _ HA.out HS.out HC.out).mono ?_
  rintro e w1 ⟨b1, c1, rfl, ho, hb⟩
  have HQ1 : Hid (Sq w1 b1 n (M.crM R)) := ⟨ho.mat, HRc.out, fun i j hi hj => M.sm_wide (HSm.out i j hi hj), n1, n2⟩
  have HB1 := Lib.hid hb
  clear ho hb
  go_wp2_with fail
  refine (sComponents _ _ _ (M.crM R) _ HQ1.out).mono ?_
  rintro e w2 ⟨b2, m2, c2, rfl, ho, hb⟩
  have hm2 := ho.len
  have HB2 := Lib.hid (HB1.out.trans (hb.mono HB1.out.size))
  have hzl := HB1.out.size
  have HRow := Lib.hid (fun k (hk : k < (M.compsL (M.ent (M.crM R)) n).length) => M.crRow HRn.out hk)
  have HEnd := Lib.hid (M.crComps_ids HRn.out)
  have hln : (M.compsL (M.ent (M.crM R)) n).length ≤ n := M.compsP_len _ _ _
  obtain ⟨V, hV⟩ := ho
  have HV2 := Lib.hid hV
  clear hb hV HQ1
  generalize M.compsL (M.ent (M.crM R)) n = L at *
  subst hm2
  go_wp2_with fail
  refine (sNodes6 _ _ _ R _ (HA.out.below HB2.out) HS.out HC.out).mono ?_
  rintro e w3 ⟨b3, c3, rfl, ho, hb⟩
  have HN3 := Lib.hid ho.ints'
  have HV3 := Lib.hid (HV2.out.below hb)
  have HB23 := Lib.hid hb
  have HB3 := Lib.hid (HB2.out.trans (hb.mono HB2.out.size))
  have hz3 : w2.heap.size ≤ w3.heap.size := hb.size
  have hz2 : w.heap.size ≤ w2.heap.size := HB2.out.size
  clear ho hb
  go_wp2
  go_loopw [5, 6] (fun o kv wr => ∃ (k : Nat) (b : Option Addr) (c : Nat), k ≤ L.length ∧ kv = .int .i64 k ∧ o = .slice b (M.idsK L (M.crPick R) k).length c ∧ Hid (wr.ownsRow w3.heap.size 34 1 (.slice b (M.idsK L (M.crPick R) k).length c) (M.idsK L (M.crPick R) k).length ((M.idsK L (M.crPick R) k).map fun i => V.getD i (.slice none 0 0))) ∧ Hid (Below w3.heap.size w3 wr)) (fun _ kv _ => L.length - (intOf kv).toNat)
  case atStart => exact ⟨0, _, _, Nat.zero_le _, rfl, rfl, row_lit0 _ _ (Nat.le_refl _), b_alloc _ _⟩
  case round =>
    obtain ⟨k, b, c, hk, rfl, rfl, HO, HB⟩ := hrel
    have HIn := Lib.hid (M.idsK_next L (M.crPick R) k)
    have HIl := Lib.hid (M.idsK_len L (M.crPick R) k)
    by_cases hkl : k < L.length
    · have hki : (k : Int) < (L.length : Int) := by omega
      obtain ⟨hr1, hr2⟩ := HRow.out k hkl
      obtain ⟨g, ra, rc, hga, hVk, cr, hI⟩ := (HV3.out.below HB.out).cell k hkl
      subst hga
      obtain ⟨q, qo, x0, hra, -, hx0, cx0⟩ := hI.at 0 (by omega)
      subst hra
      rw [Nat.add_zero] at cx0
      rw [← hx0] at hr2
      have HNw := Lib.hid (HN3.out.below HB.out)
      obtain ⟨hb, hhb⟩ : ∃ hb, hb = M.crPick R (L.getD k []) := ⟨_, rfl⟩
      have HH : Hid (M.hasB (M.nodesL R) x0 = hb) := by show _ = _; rw [hhb]; exact hr2
      have hin := HIn.out
      rw [← hhb] at hin
      have HVk := Lib.hid hVk
      have hm0 : (0 : Int) < ((L.getD k []).length : Int) := by omega
      clear hx0 hr2 hhb hI HIn hVk hr1
      generalize (L.getD k []).length = m at *
      generalize L.length = N at *
      generalize hnd : M.idsK L (M.crPick R) k = ids at *
      clear hnd
      cases hb with
      | false =>
        have HN : Hid (M.idsK L (M.crPick R) (k + 1) = ids) := by show _ = _; rw [hin]; simp
        clear hin
        go_wp2_with (go_at_call 105; refine (sHas _ _ _ (M.nodesL R) _ _ (by exact HNw.out)).mono ?_; rintro e w' ⟨rfl, rfl⟩; rw [HH.out])
        go_roundw
        case rel => exact ⟨k + 1, b, c, by omega, by go_num, by rw [HN.out], by show World.ownsRow _ _ _ _ _ _ _; rw [HN.out]; exact HO.out, HB⟩
        case measure => simp [intOf]; omega
      | true =>
        have HN : Hid (M.idsK L (M.crPick R) (k + 1) = ids ++ [k]) := by show _ = _; rw [hin]; simp
        clear hin
        go_wp2_with (first | (go_at_call 105; refine (sHas _ _ _ (M.nodesL R) _ _ (by exact HNw.out)).mono ?_; rintro e w' ⟨rfl, rfl⟩; rw [HH.out]) | (at_builtin; refine appendVal _ rfl (.tmp 27) (.tmp 32) rfl w3.heap.size _ _ _ m rc _ rfl HO.out rfl (by have := HIl.out; omega) HB.out.size ?_))
        intro b4 c4 w4 hO4 hb4 _
        have HO4 := Lib.hid hO4
        have HB4 := Lib.hid (HB.out.trans hb4)
        clear hO4 hb4
        go_wp2
        go_roundw
        case rel => exact ⟨k + 1, b4, c4, by omega, by go_num, by rw [HN.out, List.length_append]; rfl, by show World.ownsRow _ _ _ _ _ _ _; rw [HN.out, List.length_append, List.map_append]; have := HO4.out; rw [← HVk.out] at this; exact this, HB4⟩
        case measure => simp [intOf]; omega
    · obtain rfl : k = L.length := by omega
      have HP : Hid (OwnM wr w.heap.size (.slice b (M.idsK L (M.crPick R) L.length).length c) (M.crComps R)) := by
        show OwnM _ _ _ _
        rw [← HEnd.out]
        refine ⟨_, OwnV.pick HV2.out _ (M.idsK_up _ _ _) (fun i hi => M.idsK_lt hi) (World.ownsRow.mono HO.out (by omega)) fun i kk hi e => ?_⟩
        have hlt := own_lt (HV2.out.2.2.1 i hi) e
        refine ⟨(HB.out.block kk (by omega)).trans (HB23.out.block kk (by omega)), by omega, fun e2 => ?_⟩
        have := own_lt HO.out e2
        omega
      clear HO
      go_wp2
      go_ret
      exact ⟨b, _, c, rfl, HP.out, HB3.out.trans (HB.out.mono HB3.out.size)⟩
set_option maxRecDepth 100000 in
set_option maxHeartbeats 1000000 in
theorem sCriticalComponents (a : Option Addr) (n cap : Nat) (R : List (List Int)) (w : World) (h : Mat w a n R) :
    Calls Tryz.prog 43 #[.slice a n cap] w (MRes (M.compRes R) w) := by
  have HA := Lib.hid h
  by_cases hc : M.crCode R = 0
  · obtain ⟨h1, h2⟩ := M.cr_code hc
    have H1 := Lib.hid h1
    have H2 := Lib.hid h2
    have HK := Lib.hid hc
    have HE : Hid (M.compRes R = (M.crComps R, 0)) := by show _ = _; unfold M.compRes; rw [if_pos hc]
    clear h hc h1 h2
    go_enter Tryz.func43, Tryz.ntmps43
    go_wp2_with fail
    refine (sCode _ _ _ R _ HA.out).mono ?_
    rintro e w1 ⟨rfl, hb⟩
    rw [HK.out]
    have HB := Lib.hid hb
    clear hb
    go_wp2_with fail
    refine (sComponents6 _ _ _ R _ (HA.out.below HB.out) H1.out H2.out).mono ?_
    rintro e w2 ⟨b2, m2, c2, rfl, ho, hb⟩
    have HO := Lib.hid (ho.mono HB.out.size)
    have HB2 := Lib.hid (HB.out.trans (hb.mono HB.out.size))
    clear ho hb
    go_wp2
    go_ret2
    rw [HE.out]
    exact ⟨_, _, _, rfl, HO.out, HB2.out⟩
  · obtain ⟨k, hk⟩ : ∃ k, k = M.crCode R := ⟨_, rfl⟩
    have HE : Hid (M.compRes R = ([], k)) := by show _ = _; unfold M.compRes; rw [if_neg hc, hk]
    have HK := Lib.hid hk
    have hk0 : (k != 0) = true := by rw [hk]; simpa using hc
    clear h hc hk
    go_enter Tryz.func43, Tryz.ntmps43
    go_wp2_with fail
    refine (sCode _ _ _ R _ HA.out).mono ?_
    rintro e w1 ⟨rfl, hb⟩
    rw [← HK.out]
    have HB := Lib.hid hb
    clear hb
    go_wp2
    go_ret2
    exact MRes.nil HE.out HB.out
end V
end Go.Proofs.YtmcihaihbnnblaaGreat

namespace Go.Proofs.YtmcihaihbnnblaaGreat.V
open Go.RowKit
theorem infoR : (Tryz.prog.info? 30).map (fun i => (i.zero, i.size, i.bytes)) = some (some (.agg #[.int .i64 0, .int .i64 0]), 2, 16) := by kernel_rfl
/-- Two cells a ratio. -/
def rcells (l : List (Int × Int)) : List Value := l.flatMap fun p => [.int .i64 p.1, .int .i64 p.2]
theorem rcells_len (l : List (Int × Int)) : (rcells l).length = l.length * 2 := by
  induction l with
  | nil => rfl
  | cons p l ih => show (Value.int .i64 p.1 :: Value.int .i64 p.2 :: rcells l).length = _; simp [ih]; omega
theorem rcells_snoc (l : List (Int × Int)) (p : Int × Int) : rcells (l ++ [p]) = rcells l ++ [.int .i64 p.1, .int .i64 p.2] := by
  unfold rcells; rw [List.flatMap_append, List.flatMap_singleton]
theorem rcells_at (l : List (Int × Int)) : ∀ i, i < l.length → (rcells l)[2 * i]? = some (.int .i64 (l.getD i (0, 0)).1) ∧ (rcells l)[2 * i + 1]? = some (.int .i64 (l.getD i (0, 0)).2) := by
  induction l with
  | nil => intro i hi; exact absurd hi (by simp)
  | cons p l ih =>
    intro i hi
    have e : rcells (p :: l) = .int .i64 p.1 :: .int .i64 p.2 :: rcells l := rfl
    cases i with
    | zero => rw [e]; exact ⟨rfl, rfl⟩
    | succ i =>
      obtain ⟨h1, h2⟩ := ih i (by simpa using hi)
      rw [e, show 2 * (i + 1) = 2 * i + 1 + 1 by omega]
      simp only [List.getElem?_cons_succ, List.getD_cons_succ]
      exact ⟨h1, h2⟩
/-- A slice that the call owns, in blocks from B on, holding the ratios l. -/
def OwnR (w : World) (B : Nat) (v : Value) (l : List (Int × Int)) : Prop := w.ownsRow B 30 2 v l.length (rcells l)
theorem OwnR.lt {w : World} {B : Nat} {v : Value} {l : List (Int × Int)} (h : OwnR w B v l) {k : Nat} (hk : v.ownBlock = some k) : B ≤ k ∧ k < w.heap.size := World.ownsRow.lt h k hk
theorem OwnR.keep {w w' : World} {B : Nat} {v : Value} {l : List (Int × Int)} (h : OwnR w B v l) (hk : ∀ k, B ≤ k → k < w.heap.size → w'.heap[k]? = w.heap[k]?) : OwnR w' B v l := by
  have h' := h
  obtain ⟨h1, h2⟩ := h
  refine ⟨h1, ?_⟩
  rcases h2 with h2 | ⟨g, cap, cur, hv, hg, hh, r⟩
  · exact .inl h2
  · obtain ⟨q1, q2⟩ := OwnR.lt h' (k := g) (by subst hv; rfl)
    exact .inr ⟨g, cap, cur, hv, hg, by rw [hk g q1 q2]; exact hh, r⟩
theorem OwnR.below {w w' : World} {B : Nat} {v : Value} {l : List (Int × Int)} (h : OwnR w B v l) (hb : Below w.heap.size w w') : OwnR w' B v l :=
  h.keep (fun k _ h2 => hb.block k h2)
theorem OwnR.mono {w : World} {B B' : Nat} {v : Value} {l : List (Int × Int)} (h : OwnR w B v l) (hb : B' ≤ B) : OwnR w B' v l := World.ownsRow.mono h hb
theorem OwnR.form {w : World} {B : Nat} {v : Value} {l : List (Int × Int)} (h : OwnR w B v l) : ∃ a cap, v = .slice a l.length cap ∧ l.length ≤ cap ∧ cap ≤ maxLen ∧ (0 < l.length → ∃ g, a = some ⟨g, 0, none⟩ ∧ B ≤ g ∧ g < w.heap.size) := by
  have h' := h
  obtain ⟨h1, h2⟩ := h
  rcases h2 with ⟨hv, h0⟩ | ⟨g, cap, cur, hv, hg, hh, hn, hc, r⟩
  · rw [h0]; exact ⟨none, 0, hv, Nat.le_refl _, Nat.zero_le _, fun h => by omega⟩
  · subst hv
    exact ⟨_, cap, rfl, hn, hc, fun _ => ⟨g, rfl, hg, (OwnR.lt h' rfl).2⟩⟩
theorem OwnR.len {w : World} {B n cap : Nat} {a : Option Addr} {l : List (Int × Int)} (h : OwnR w B (.slice a n cap) l) : n = l.length := by
  obtain ⟨a', c, hv, _⟩ := h.form
  injection hv
theorem ownR_nil (w : World) (B : Nat) : OwnR w B (.slice none 0 0) [] := World.ownsRow_nil w B _ 2
theorem OwnR.at {w : World} {B n cap : Nat} {a : Option Addr} {l : List (Int × Int)} (h : OwnR w B (.slice a n cap) l) (hn : 0 < n) : ∃ g, a = some ⟨g, 0, none⟩ ∧ B ≤ g ∧ g < w.heap.size ∧ ∀ i, i < n → w.cell? ⟨g, 2 * i, none⟩ = some (.int .i64 (l.getD i (0, 0)).1) ∧ w.cell? ⟨g, 2 * i + 1, none⟩ = some (.int .i64 (l.getD i (0, 0)).2) := by
  have e := h.len
  obtain ⟨a', c', hv, _, _, hg⟩ := h.form
  injection hv with e1 e2 e3
  subst e1
  obtain ⟨g, rfl, g1, g2⟩ := hg (by omega)
  refine ⟨g, rfl, g1, g2, fun i hi => ?_⟩
  have hc := World.ownsRow.cells h (g := g) rfl
  obtain ⟨r1, r2⟩ := rcells_at l i (by omega)
  have c1 := hc _ _ r1
  have c2 := hc _ _ r2
  have a1 : (⟨g, 0, none⟩ : Addr).add (2 * i) = ⟨g, 2 * i, none⟩ := by unfold Addr.add; split <;> simp_all
  have a2 : (⟨g, 0, none⟩ : Addr).add (2 * i + 1) = ⟨g, 2 * i + 1, none⟩ := by unfold Addr.add; split <;> simp_all
  rw [a1] at c1
  rw [a2] at c2
  exact ⟨c1, c2⟩
/-- One ratio is appended, at a step of a region. -/
theorem step_appendR (w : World) {ops : Array Oper} {o : Oper} {a : Act} {K : Act → World → Prop} {Q : Exit → Act → World → Prop} {E : Prop} (hgd : o.guard = none) (s x : Operand)
    (ho : o.op = .call { callee := .builtin .append, args := #[s, x], argTypes := #[134, 134] }) (B : Nat) (v : Value) (l : List (Int × Int)) (p : Int × Int) (g n : Nat) (hn : l.length = n) (hs : a.eval s = v) (hown : OwnR w B v l)
    (hx : a.eval x = .slice (some ⟨g, 0, none⟩) 1 1) (hy1 : w.cell? ⟨g, 0, none⟩ = some (.int .i64 p.1)) (hy2 : w.cell? ⟨g, 1, none⟩ = some (.int .i64 p.2)) (hlen : n ≤ 2000000) (hB : B ≤ w.heap.size)
    (h : ∀ b' c' w', OwnR w' B (.slice b' (n + 1) c') (l ++ [p]) → Below B w w' → K (a.put o.dst (.slice b' (n + 1) c')) w') :
    if Region.wanted o (yielded ops a.tmps) = true then Oper.wp Tryz.prog o a w K Q else E := by
  subst hn
  obtain ⟨i0, hi, hz0, hz1, hz2⟩ := info_parts infoR
  refine step_append_lies w hgd s x 134 ho B 30 i0 (.agg #[.int .i64 0, .int .i64 0]) 2 16 Tryz.underlying134 hi hz0 hz1 hz2 rfl (by decide) v l.length (rcells l) hs hown ⟨g, 0, none⟩ 1 1 [.int .i64 p.1, .int .i64 p.2] hx rfl ?c1 ?c2 (by decide) ?c3 ?c4 hB w.heap.size rfl ?_
  case c1 =>
    intro j u hj
    match j, hj with
    | 0, hj => simp at hj; subst hj; exact hy1
    | 1, hj => simp at hj; subst hj; exact hy2
    | j + 2, hj => simp at hj
  case c2 => intro u hu; simp at hu; rcases hu with rfl | rfl <;> rfl
  case c3 => unfold maxLen; omega
  case c4 => omega
  · intro g' cap' w' hown' hgrow hat hlt
    have ho' : OwnR w' B (.slice (some ⟨g', 0, none⟩) (l.length + 1) cap') (l ++ [p]) := by
      show w'.ownsRow B _ 2 _ (l ++ [p]).length (rcells (l ++ [p]))
      rw [rcells_snoc]
      simpa using hown'
    exact h _ _ w' ho' ((Below.refl B w).grown hgrow hB (fun k hk => (OwnR.lt hown hk).1))
theorem cells_two_new (w : World) (x y : Value) (t : TypeId) : ∀ j u, [x, y][j]? = some u → (w.alloc (.cells #[x, y] t)).cell? ((⟨w.heap.size, 0, none⟩ : Addr).add j) = some u := by
  intro j u hj
  match j, hj with
  | 0, hj => simp at hj; subst hj; simp [Addr.add]
  | 1, hj => simp at hj; subst hj; simp [Addr.add]
  | j + 2, hj => simp at hj
theorem appendR (w : World) {ops : Array Oper} {rest : List Oper} {o : Oper} {a : Act} {Q : Exit → Act → World → Prop} (hgd : o.guard = none) (s x : Operand)
    (ho : o.op = .call { callee := .builtin .append, args := #[s, x], argTypes := #[134, 134] }) (B : Nat) (v : Value) (l : List (Int × Int)) (p : Int × Int) (n g : Nat) (hn : l.length = n) (hs : a.eval s = v) (hown : OwnR w B v l)
    (hx : a.eval x = .slice (some ⟨g, 0, none⟩) 1 1) (hy1 : w.cell? ⟨g, 0, none⟩ = some (.int .i64 p.1)) (hy2 : w.cell? ⟨g, 1, none⟩ = some (.int .i64 p.2)) (hlen : l.length ≤ 2000000) (hB : B ≤ w.heap.size)
    (h : ∀ b' c' w', OwnR w' B (.slice b' (n + 1) c') (l ++ [p]) → Below B w w' → wpList Tryz.prog ops Q rest (a.put o.dst (.slice b' (n + 1) c')) w') :
    wpList Tryz.prog ops Q (o :: rest) a w := by
  subst hn
  obtain ⟨i0, hi, hz0, hz1, hz2⟩ := info_parts infoR
  refine wpList_append_own_at (w := w) hgd s x 134 ho B 30 i0 (.agg #[.int .i64 0, .int .i64 0]) 2 16 Tryz.underlying134 hi hz0 hz1 hz2 rfl (by decide) v _ _ hs hown ⟨g, 0, none⟩ 1 1 [.int .i64 p.1, .int .i64 p.2] hx rfl ?c1 ?c2 ?c3 ?c4 hB ?_
  case c1 =>
    intro j u hj
    match j, hj with
    | 0, hj => simp at hj; subst hj; exact hy1
    | 1, hj => simp at hj; subst hj; exact hy2
    | j + 2, hj => simp at hj
  case c2 => intro u hu; simp at hu; rcases hu with rfl | rfl <;> rfl
  case c3 => unfold maxLen; omega
  case c4 => omega
  · intro v' w' hown' hgrow hz hvb
    have ho' : OwnR w' B v' (l ++ [p]) := by
      show w'.ownsRow B _ 2 v' (l ++ [p]).length (rcells (l ++ [p]))
      rw [rcells_snoc]
      simpa using hown'
    obtain ⟨b', c', hv', _⟩ := ho'.form
    rw [show (l ++ [p]).length = l.length + 1 by simp] at hv'
    subst hv'
    exact h b' c' w' ho' ((Below.refl B w).grown hgrow hB (fun k hk => (OwnR.lt hown hk).1))
end Go.Proofs.YtmcihaihbnnblaaGreat.V

namespace Go.Proofs.YtmcihaihbnnblaaGreat.V
open Go.RowKit
def MBox (w wr : World) (p : Int × Int) : Prop :=
  Below w.heap.size w wr ∧ w.heap.size + 1 < wr.heap.size ∧
  (wr.cell? ⟨w.heap.size, 0, none⟩ = some (.int .i64 0) ∧ wr.cell? ⟨w.heap.size, 1, none⟩ = some (.int .i64 0) ∧ wr.frozen? ⟨w.heap.size, 0, none⟩ = false ∧ wr.frozen? ⟨w.heap.size, 1, none⟩ = false) ∧
  (wr.cell? ⟨w.heap.size + 1, 0, none⟩ = some (.int .i64 p.1) ∧ wr.cell? ⟨w.heap.size + 1, 1, none⟩ = some (.int .i64 p.2) ∧ wr.frozen? ⟨w.heap.size + 1, 0, none⟩ = false ∧ wr.frozen? ⟨w.heap.size + 1, 1, none⟩ = false)
theorem MBox.keep {w w1 w2 : World} {p : Int × Int} (h : MBox w w1 p) (hb : Below w1.heap.size w1 w2) : MBox w w2 p := by
  obtain ⟨h1, h2, ⟨a1, a2, a3, a4⟩, b1, b2, b3, b4⟩ := h
  obtain ⟨hc, hf⟩ := bcell hb
  have hs := hb.size
  refine ⟨h1.trans (hb.mono h1.size), by omega, ⟨?_, ?_, ?_, ?_⟩, ?_, ?_, ?_, ?_⟩
  · rw [hc _ _ (by omega)]; exact a1
  · rw [hc _ _ (by omega)]; exact a2
  · rw [hf _ _ (by omega)]; exact a3
  · rw [hf _ _ (by omega)]; exact a4
  · rw [hc _ _ (by omega)]; exact b1
  · rw [hc _ _ (by omega)]; exact b2
  · rw [hf _ _ (by omega)]; exact b3
  · rw [hf _ _ (by omega)]; exact b4
theorem M.maxR_take {l : List (Int × Int)} {k : Nat} (h1 : 1 ≤ k) (h : k < l.length) : M.maxR (l.take (k + 1)) = M.mx (M.maxR (l.take k)) (l.getD k (0, 0)) := by
  rw [List.take_succ_eq_append_getElem h, M.maxR_snoc (by rw [List.length_take]; omega), List.getD_eq_getElem?_getD, List.getElem?_eq_getElem h]; rfl

theorem low5 {w1 w2 : World} {P Q R S : Prop} (h : P ∧ Q ∧ R ∧ S ∧ Below w1.heap.size w1 w2) : Below w1.heap.size w1 w2 := h.2.2.2.2
theorem keep5 {w0 w1 w2 : World} {b c i j k l : Nat} {x y u v : Value} (hb0 : b < w0.heap.size) (hc0 : c < w0.heap.size) (h : w1.cell? ⟨b, i, none⟩ = some x ∧ w1.cell? ⟨b, j, none⟩ = some y ∧ w1.cell? ⟨c, k, none⟩ = some u ∧ w1.cell? ⟨c, l, none⟩ = some v ∧ Below w0.heap.size w0 w1) (hb : Below w1.heap.size w1 w2) :
    w2.cell? ⟨b, i, none⟩ = some x ∧ w2.cell? ⟨b, j, none⟩ = some y ∧ w2.cell? ⟨c, k, none⟩ = some u ∧ w2.cell? ⟨c, l, none⟩ = some v ∧ Below w0.heap.size w0 w2 := by
  have := h.2.2.2.2.size
  obtain ⟨hc, _⟩ := bcell hb
  exact ⟨(hc _ _ (by omega)).trans h.1, (hc _ _ (by omega)).trans h.2.1, (hc _ _ (by omega)).trans h.2.2.1, (hc _ _ (by omega)).trans h.2.2.2.1, h.2.2.2.2.trans (hb.mono this)⟩
def M.Rb (p : Int × Int) : Prop := -1000000000 ≤ p.1 ∧ p.1 ≤ 1000000000 ∧ 1 ≤ p.2 ∧ p.2 ≤ 1000
theorem M.rb_mx {p q : Int × Int} (hp : M.Rb p) (hq : M.Rb q) : M.Rb (M.mx p q) := by unfold M.mx; split <;> assumption
theorem M.mul_rb {a d : Int} (h1 : -1000000000 ≤ a) (h2 : a ≤ 1000000000) (h3 : 1 ≤ d) (h4 : d ≤ 1000) : -1000000000000000 ≤ a * d ∧ a * d ≤ 1000000000000000 := by
  have e1 : a * d ≤ 1000000000 * d := Int.mul_le_mul_of_nonneg_right h2 (by omega)
  have e2 : -1000000000 * d ≤ a * d := Int.mul_le_mul_of_nonneg_right h1 (by omega)
  omega
theorem compareRb (x p : Int × Int) (y : Int) (w : World) (hx : M.Rb x) (hp : M.Rb p) (hy : M.cmpZ (x.1 * p.2) (p.1 * x.2) = y) :
    Calls Tryz.prog 149 #[.agg #[.int .i64 x.1, .int .i64 x.2], .agg #[.int .i64 p.1, .int .i64 p.2]] w fun e w' => e = .returned (.int .i64 y) ∧ Below w.heap.size w w' := by
  subst hy
  obtain ⟨a1, a2, a3, a4⟩ := hx
  obtain ⟨b1, b2, b3, b4⟩ := hp
  obtain ⟨p1, p2⟩ := M.mul_rb a1 a2 b3 b4
  obtain ⟨q1, q2⟩ := M.mul_rb b1 b2 a3 a4
  exact compareM _ _ _ _ w p1 p2 q1 q2
theorem MBox.set {w w1 : World} {p : Int × Int} (h : MBox w w1 p) (q : Int × Int) : MBox w ((w1.setCell ⟨w.heap.size + 1, 0, none⟩ (.int .i64 q.1)).setCell ⟨w.heap.size + 1, 1, none⟩ (.int .i64 q.2)) q := by
  obtain ⟨h1, h2, ⟨a1, a2, a3, a4⟩, b1, b2, b3, b4⟩ := h
  refine ⟨(h1.setCell (by show w.heap.size ≤ w.heap.size + 1; omega) _).setCell (by show w.heap.size ≤ w.heap.size + 1; omega) _, by simpa using h2, ?_, ?_⟩
  · simp [go_sem, a1, a2, a3, a4]
  · simp [go_sem, b1, b2, b3, b4]

set_option maxRecDepth 100000 in
set_option maxHeartbeats 1000000 in
theorem maxFunc (B : Nat) (b : Option Addr) (n c : Nat) (l : List (Int × Int)) (w : World) (h : OwnR w B (.slice b n c) l) (h1 : 1 ≤ n) (h2 : n ≤ 1000)
    (hl : ∀ i, i < n → M.Rb (l.getD i (0, 0))) :
    Calls Tryz.prog 156 #[.slice b n c, .func (.func 149) #[] #[]] w fun e w' => e = .returned (.agg #[.int .i64 (M.maxR l).1, .int .i64 (M.maxR l).2]) ∧ Below w.heap.size w w' := by
  have hn1 : ¬ (n : Int) < 1 := by omega
  have HLn := Lib.hid h.len
  obtain ⟨g, rfl, hB, hg, hc⟩ := h.at (by omega)
  have hc0 := hc 0 (by omega)
  have HC := Lib.hid hc
  have HLB := Lib.hid hl
  obtain ⟨hc01, hc02⟩ := hc0
  clear h hc hl
  go_enter Tryz.func156, Tryz.ntmps156
  go_wp2
  clear hc01 hc02
  go_loopw [6] (fun i wr => ∃ k : Nat, 1 ≤ k ∧ k ≤ n ∧ i = .int .i64 k ∧ MBox w wr (M.maxR (l.take k)) ∧ M.Rb (M.maxR (l.take k))) (fun i _ => n - (intOf i).toNat)
  case atStart =>
    have e : M.maxR (l.take 1) = l.getD 0 (0, 0) := by
      have := HLn.out
      cases l with
      | nil => simp at this; omega
      | cons p l => rfl
    refine ⟨1, Nat.le_refl _, h1, rfl, ?_, by rw [e]; exact HLB.out 0 (by omega)⟩
    rw [e]
    exact ⟨b_alloc2 _ _ _, by simp, by simp [go_sem], by simp [go_sem]⟩
  case round =>
    obtain ⟨k, hk1, hk, rfl, hM, hR⟩ := hrel
    obtain ⟨wo, rfl⟩ : ∃ x, x = wr := ⟨_, rfl⟩
    have HM := Lib.hid hM
    have HR := Lib.hid hR
    obtain ⟨hbo, hzo, ⟨a1, a2, a3, a4⟩, b1, b2, b3, b4⟩ := hM
    have HBo := Lib.hid hbo
    by_cases hlt : k < n
    · have hki : (k : Int) < (n : Int) := by omega
      obtain ⟨hcx1, hcx2⟩ := HC.out k hlt
      have d1 : wo.cell? ⟨g, k * 2, none⟩ = some (.int .i64 (l.getD k (0, 0)).1) := by rw [Nat.mul_comm, hbo.cell (p := ⟨g, 2 * k, none⟩) hg]; exact hcx1
      have d2 : wo.cell? ⟨g, k * 2 + 1, none⟩ = some (.int .i64 (l.getD k (0, 0)).2) := by rw [Nat.mul_comm k 2, hbo.cell (p := ⟨g, 2 * k + 1, none⟩) hg]; exact hcx2
      have HX := Lib.hid (HLB.out k hlt)
      have HK2 : Hid (k + 1 ≤ n) := hlt
      have HN : Hid (M.maxR (l.take (k + 1)) = M.mx (M.maxR (l.take k)) (l.getD k (0, 0))) := M.maxR_take hk1 (by have := HLn.out; omega)
      have hgo : g < wo.heap.size := by have := hbo.size; omega
      clear hcx1 hcx2 hbo hR
      generalize M.maxR (l.take k) = p at *
      generalize l.getD k (0, 0) = x at *
      by_cases hle : p.1 * x.2 < x.1 * p.2
      · have HY : Hid (M.cmpZ (x.1 * p.2) (p.1 * x.2) = 1) := by show _ = _; unfold M.cmpZ; rw [if_neg (by omega), if_pos hle]
        have HN2 : Hid (M.maxR (l.take (k + 1)) = x) := by show _ = _; rw [HN.out]; unfold M.mx M.less; rw [if_pos (by simpa using hle)]
        clear hle
        go_wp2
        go_region_held3 (fun w' => w'.cell? ⟨g, k * 2, none⟩ = some (.int .i64 x.1) ∧ w'.cell? ⟨g, k * 2 + 1, none⟩ = some (.int .i64 x.2) ∧ w'.cell? ⟨w.heap.size + 1, 0, none⟩ = some (.int .i64 p.1) ∧ w'.cell? ⟨w.heap.size + 1, 1, none⟩ = some (.int .i64 p.2) ∧ Below wo.heap.size wo w') (first | exact ⟨d1, d2, b1, b2, (Below.refl _ _).drew⟩ | exact keep5 hgo hzo ‹_ ∧ _ ∧ _ ∧ _ ∧ Below _ _ _› hb)
          (first | (go_at_call 149; refine (compareRb x p 1 _ HX.out HR.out HY.out).mono ?_; rintro e w3 ⟨rfl, hb⟩))
        all_goals
          have hh : w3.cell? ⟨g, k * 2, none⟩ = some (.int .i64 x.1) ∧ w3.cell? ⟨g, k * 2 + 1, none⟩ = some (.int .i64 x.2) ∧ w3.cell? ⟨w.heap.size + 1, 0, none⟩ = some (.int .i64 p.1) ∧ w3.cell? ⟨w.heap.size + 1, 1, none⟩ = some (.int .i64 p.2) ∧ Below wo.heap.size wo w3 := by assumption
          have HM3 := Lib.hid (HM.out.keep hh.2.2.2.2)
          clear hb d1 d2 a1 a2 a3 a4 b1 b2 b3 b4
          obtain ⟨d1, d2, b1, b2, -⟩ := hh
          obtain ⟨-, -, -, -, -, b3, b4⟩ := HM3.out
          go_wp2
          go_roundw
          case rel => exact ⟨k + 1, by omega, HK2.out, by go_num, by rw [HN2.out]; exact HM3.out.set x, by rw [HN2.out]; exact HX.out⟩
          case measure => have := HK2.out; simp [intOf]; omega
      · obtain ⟨y, hy⟩ : ∃ y, M.cmpZ (x.1 * p.2) (p.1 * x.2) = y := ⟨_, rfl⟩
        have hy0 : ¬ 0 < y := by
          rw [← hy]; unfold M.cmpZ
          split
          · omega
          · first | omega | (rw [if_neg hle]; omega)
        have HY := Lib.hid hy
        have HN2 : Hid (M.maxR (l.take (k + 1)) = p) := by show _ = _; rw [HN.out]; unfold M.mx M.less; rw [if_neg (by simpa using hle)]
        clear hle hy
        go_wp2
        go_region_held3 (fun w' => w'.cell? ⟨g, k * 2, none⟩ = some (.int .i64 x.1) ∧ w'.cell? ⟨g, k * 2 + 1, none⟩ = some (.int .i64 x.2) ∧ w'.cell? ⟨w.heap.size + 1, 0, none⟩ = some (.int .i64 p.1) ∧ w'.cell? ⟨w.heap.size + 1, 1, none⟩ = some (.int .i64 p.2) ∧ Below wo.heap.size wo w') (first | exact ⟨d1, d2, b1, b2, (Below.refl _ _).drew⟩ | exact keep5 hgo hzo ‹_ ∧ _ ∧ _ ∧ _ ∧ Below _ _ _› hb)
          (first | (go_at_call 149; refine (compareRb x p y _ HX.out HR.out HY.out).mono ?_; rintro e w3 ⟨rfl, hb⟩))
        all_goals
          have hh : w3.cell? ⟨g, k * 2, none⟩ = some (.int .i64 x.1) ∧ w3.cell? ⟨g, k * 2 + 1, none⟩ = some (.int .i64 x.2) ∧ w3.cell? ⟨w.heap.size + 1, 0, none⟩ = some (.int .i64 p.1) ∧ w3.cell? ⟨w.heap.size + 1, 1, none⟩ = some (.int .i64 p.2) ∧ Below wo.heap.size wo w3 := by assumption
          have HM3 := Lib.hid (HM.out.keep hh.2.2.2.2)
          clear hb d1 d2 a1 a2 a3 a4 b1 b2 b3 b4
          clear hh
          go_wp2
          go_roundw
          case rel => exact ⟨k + 1, by omega, HK2.out, by go_num, by rw [HN2.out]; exact HM3.out, by rw [HN2.out]; exact HR.out⟩
          case measure => have := HK2.out; simp [intOf]; omega
    · obtain rfl : k = n := by omega
      have HT : Hid (l.take k = l) := List.take_of_length_le (by have := HLn.out; omega)
      rw [HT.out] at b1 b2
      obtain ⟨p, hp⟩ : ∃ p, p = M.maxR l := ⟨_, rfl⟩
      rw [← hp] at b1 b2
      have HP := Lib.hid hp
      clear hp
      go_wp2
      exact bodyPost_ret (v := .agg #[.int .i64 p.1, .int .i64 p.2]) (by simp [results, Tryz.results156, go_sem, a1, a2, a3, a4]) rfl ⟨by rw [HP.out], (HBo.out.setCell (Nat.le_refl _) _).setCell (Nat.le_refl _) _⟩
theorem M.minR_take {l : List (Int × Int)} {k : Nat} (h1 : 1 ≤ k) (h : k < l.length) : M.minR (l.take (k + 1)) = M.mn (M.minR (l.take k)) (l.getD k (0, 0)) := by
  rw [List.take_succ_eq_append_getElem h, M.minR_snoc (by rw [List.length_take]; omega), List.getD_eq_getElem?_getD, List.getElem?_eq_getElem h]; rfl
set_option maxRecDepth 100000 in
set_option maxHeartbeats 1000000 in
theorem minFunc (B : Nat) (b : Option Addr) (n c : Nat) (l : List (Int × Int)) (w : World) (h : OwnR w B (.slice b n c) l) (h1 : 1 ≤ n) (h2 : n ≤ 1000)
    (hl : ∀ i, i < n → M.Rb (l.getD i (0, 0))) :
    Calls Tryz.prog 274 #[.slice b n c, .func (.func 149) #[] #[]] w fun e w' => e = .returned (.agg #[.int .i64 (M.minR l).1, .int .i64 (M.minR l).2]) ∧ Below w.heap.size w w' := by
  have hn1 : ¬ (n : Int) < 1 := by omega
  have HLn := Lib.hid h.len
  obtain ⟨g, rfl, hB, hg, hc⟩ := h.at (by omega)
  have hc0 := hc 0 (by omega)
  have HC := Lib.hid hc
  have HLB := Lib.hid hl
  obtain ⟨hc01, hc02⟩ := hc0
  clear h hc hl
  go_enter Tryz.func274, Tryz.ntmps274
  go_wp2
  clear hc01 hc02
  go_loopw [6] (fun i wr => ∃ k : Nat, 1 ≤ k ∧ k ≤ n ∧ i = .int .i64 k ∧ MBox w wr (M.minR (l.take k)) ∧ M.Rb (M.minR (l.take k))) (fun i _ => n - (intOf i).toNat)
  case atStart =>
    have e : M.minR (l.take 1) = l.getD 0 (0, 0) := by
      have := HLn.out
      cases l with
      | nil => simp at this; omega
      | cons p l => rfl
    refine ⟨1, Nat.le_refl _, h1, rfl, ?_, by rw [e]; exact HLB.out 0 (by omega)⟩
    rw [e]
    exact ⟨b_alloc2 _ _ _, by simp, by simp [go_sem], by simp [go_sem]⟩
  case round =>
    obtain ⟨k, hk1, hk, rfl, hM, hR⟩ := hrel
    obtain ⟨wo, rfl⟩ : ∃ x, x = wr := ⟨_, rfl⟩
    have HM := Lib.hid hM
    have HR := Lib.hid hR
    obtain ⟨hbo, hzo, ⟨a1, a2, a3, a4⟩, b1, b2, b3, b4⟩ := hM
    have HBo := Lib.hid hbo
    by_cases hlt : k < n
    · have hki : (k : Int) < (n : Int) := by omega
      obtain ⟨hcx1, hcx2⟩ := HC.out k hlt
      have d1 : wo.cell? ⟨g, k * 2, none⟩ = some (.int .i64 (l.getD k (0, 0)).1) := by rw [Nat.mul_comm, hbo.cell (p := ⟨g, 2 * k, none⟩) hg]; exact hcx1
      have d2 : wo.cell? ⟨g, k * 2 + 1, none⟩ = some (.int .i64 (l.getD k (0, 0)).2) := by rw [Nat.mul_comm k 2, hbo.cell (p := ⟨g, 2 * k + 1, none⟩) hg]; exact hcx2
      have HX := Lib.hid (HLB.out k hlt)
      have HK2 : Hid (k + 1 ≤ n) := hlt
      have HN : Hid (M.minR (l.take (k + 1)) = M.mn (M.minR (l.take k)) (l.getD k (0, 0))) := M.minR_take hk1 (by have := HLn.out; omega)
      have hgo : g < wo.heap.size := by have := hbo.size; omega
      clear hcx1 hcx2 hbo hR
      generalize M.minR (l.take k) = p at *
      generalize l.getD k (0, 0) = x at *
      by_cases hle : x.1 * p.2 < p.1 * x.2
      · have HY : Hid (M.cmpZ (x.1 * p.2) (p.1 * x.2) = -1) := by show _ = _; unfold M.cmpZ; rw [if_pos hle]
        have HN2 : Hid (M.minR (l.take (k + 1)) = x) := by show _ = _; rw [HN.out]; unfold M.mn M.less; rw [if_pos (by simpa using hle)]
        clear hle
        go_wp2
        go_region_held3 (fun w' => w'.cell? ⟨g, k * 2, none⟩ = some (.int .i64 x.1) ∧ w'.cell? ⟨g, k * 2 + 1, none⟩ = some (.int .i64 x.2) ∧ w'.cell? ⟨w.heap.size + 1, 0, none⟩ = some (.int .i64 p.1) ∧ w'.cell? ⟨w.heap.size + 1, 1, none⟩ = some (.int .i64 p.2) ∧ Below wo.heap.size wo w') (first | exact ⟨d1, d2, b1, b2, (Below.refl _ _).drew⟩ | exact keep5 hgo hzo ‹_ ∧ _ ∧ _ ∧ _ ∧ Below _ _ _› hb)
          (first | (go_at_call 149; refine (compareRb x p (-1) _ HX.out HR.out HY.out).mono ?_; rintro e w3 ⟨rfl, hb⟩))
        all_goals
          have hh : w3.cell? ⟨g, k * 2, none⟩ = some (.int .i64 x.1) ∧ w3.cell? ⟨g, k * 2 + 1, none⟩ = some (.int .i64 x.2) ∧ w3.cell? ⟨w.heap.size + 1, 0, none⟩ = some (.int .i64 p.1) ∧ w3.cell? ⟨w.heap.size + 1, 1, none⟩ = some (.int .i64 p.2) ∧ Below wo.heap.size wo w3 := by assumption
          have HM3 := Lib.hid (HM.out.keep hh.2.2.2.2)
          clear hb d1 d2 a1 a2 a3 a4 b1 b2 b3 b4
          obtain ⟨d1, d2, b1, b2, -⟩ := hh
          obtain ⟨-, -, -, -, -, b3, b4⟩ := HM3.out
          go_wp2
          go_roundw
          case rel => exact ⟨k + 1, by omega, HK2.out, by go_num, by rw [HN2.out]; exact HM3.out.set x, by rw [HN2.out]; exact HX.out⟩
          case measure => have := HK2.out; simp [intOf]; omega
      · obtain ⟨y, hy⟩ : ∃ y, M.cmpZ (x.1 * p.2) (p.1 * x.2) = y := ⟨_, rfl⟩
        have hy0 : ¬ y < 0 := by
          rw [← hy]; unfold M.cmpZ
          rw [if_neg hle]
          split <;> omega
        have HY := Lib.hid hy
        have HN2 : Hid (M.minR (l.take (k + 1)) = p) := by show _ = _; rw [HN.out]; unfold M.mn M.less; rw [if_neg (by simpa using hle)]
        clear hle hy
        go_wp2
        go_region_held3 (fun w' => w'.cell? ⟨g, k * 2, none⟩ = some (.int .i64 x.1) ∧ w'.cell? ⟨g, k * 2 + 1, none⟩ = some (.int .i64 x.2) ∧ w'.cell? ⟨w.heap.size + 1, 0, none⟩ = some (.int .i64 p.1) ∧ w'.cell? ⟨w.heap.size + 1, 1, none⟩ = some (.int .i64 p.2) ∧ Below wo.heap.size wo w') (first | exact ⟨d1, d2, b1, b2, (Below.refl _ _).drew⟩ | exact keep5 hgo hzo ‹_ ∧ _ ∧ _ ∧ _ ∧ Below _ _ _› hb)
          (first | (go_at_call 149; refine (compareRb x p y _ HX.out HR.out HY.out).mono ?_; rintro e w3 ⟨rfl, hb⟩))
        all_goals
          have hh : w3.cell? ⟨g, k * 2, none⟩ = some (.int .i64 x.1) ∧ w3.cell? ⟨g, k * 2 + 1, none⟩ = some (.int .i64 x.2) ∧ w3.cell? ⟨w.heap.size + 1, 0, none⟩ = some (.int .i64 p.1) ∧ w3.cell? ⟨w.heap.size + 1, 1, none⟩ = some (.int .i64 p.2) ∧ Below wo.heap.size wo w3 := by assumption
          have HM3 := Lib.hid (HM.out.keep hh.2.2.2.2)
          clear hb d1 d2 a1 a2 a3 a4 b1 b2 b3 b4
          clear hh
          go_wp2
          go_roundw
          case rel => exact ⟨k + 1, by omega, HK2.out, by go_num, by rw [HN2.out]; exact HM3.out, by rw [HN2.out]; exact HR.out⟩
          case measure => have := HK2.out; simp [intOf]; omega
    · obtain rfl : k = n := by omega
      have HT : Hid (l.take k = l) := List.take_of_length_le (by have := HLn.out; omega)
      rw [HT.out] at b1 b2
      obtain ⟨p, hp⟩ : ∃ p, p = M.minR l := ⟨_, rfl⟩
      rw [← hp] at b1 b2
      have HP := Lib.hid hp
      clear hp
      go_wp2
      exact bodyPost_ret (v := .agg #[.int .i64 p.1, .int .i64 p.2]) (by simp [results, Tryz.results274, go_sem, a1, a2, a3, a4]) rfl ⟨by rw [HP.out], (HBo.out.setCell (Nat.le_refl _) _).setCell (Nat.le_refl _) _⟩
end Go.Proofs.YtmcihaihbnnblaaGreat.V

namespace Go.Proofs.YtmcihaihbnnblaaGreat.V
open Go.RowKit
/-- As appendR, with what stays as it was. -/
theorem appendR2 (w : World) {ops : Array Oper} {rest : List Oper} {o : Oper} {a : Act} {Q : Exit → Act → World → Prop} (hgd : o.guard = none) (s x : Operand)
    (ho : o.op = .call { callee := .builtin .append, args := #[s, x], argTypes := #[134, 134] }) (B : Nat) (v : Value) (l : List (Int × Int)) (p : Int × Int) (n g : Nat) (hn : l.length = n) (hs : a.eval s = v) (hown : OwnR w B v l)
    (hx : a.eval x = .slice (some ⟨g, 0, none⟩) 1 1) (hy1 : w.cell? ⟨g, 0, none⟩ = some (.int .i64 p.1)) (hy2 : w.cell? ⟨g, 1, none⟩ = some (.int .i64 p.2)) (hlen : l.length ≤ 2000000) (hB : B ≤ w.heap.size)
    (h : ∀ b' c' w', OwnR w' B (.slice b' (n + 1) c') (l ++ [p]) → Below B w w' → (∀ k, k < w.heap.size → v.ownBlock ≠ some k → w'.heap[k]? = w.heap[k]?) → ((Value.slice b' (n + 1) c').ownBlock = v.ownBlock ∨ (Value.slice b' (n + 1) c').ownBlock = some w.heap.size) → wpList Tryz.prog ops Q rest (a.put o.dst (.slice b' (n + 1) c')) w') :
    wpList Tryz.prog ops Q (o :: rest) a w := by
  subst hn
  obtain ⟨i0, hi, hz0, hz1, hz2⟩ := info_parts infoR
  refine wpList_append_own_at (w := w) hgd s x 134 ho B 30 i0 (.agg #[.int .i64 0, .int .i64 0]) 2 16 Tryz.underlying134 hi hz0 hz1 hz2 rfl (by decide) v _ _ hs hown ⟨g, 0, none⟩ 1 1 [.int .i64 p.1, .int .i64 p.2] hx rfl ?c1 ?c2 ?c3 ?c4 hB ?_
  case c1 =>
    intro j u hj
    match j, hj with
    | 0, hj => simp at hj; subst hj; exact hy1
    | 1, hj => simp at hj; subst hj; exact hy2
    | j + 2, hj => simp at hj
  case c2 => intro u hu; simp at hu; rcases hu with rfl | rfl <;> rfl
  case c3 => unfold maxLen; omega
  case c4 => omega
  · intro v' w' hown' hgrow hz hvb
    have ho' : OwnR w' B v' (l ++ [p]) := by
      show w'.ownsRow B _ 2 v' (l ++ [p]).length (rcells (l ++ [p]))
      rw [rcells_snoc]
      simpa using hown'
    obtain ⟨b', c', hv', _⟩ := ho'.form
    rw [show (l ++ [p]).length = l.length + 1 by simp] at hv'
    subst hv'
    have hb := (Below.refl B w).grown hgrow hB (fun k hk => (OwnR.lt hown hk).1)
    obtain ⟨g1, g2, g3, g4, g5⟩ := hgrow
    exact h b' c' w' ho' hb (fun k hk hne => g5 k hk (fun e => hne e.symm)) hvb
/-- A matrix whose blocks lie apart from a list that grows. -/
def MatK (wr : World) (v : Value) (a : Option Addr) (n : Nat) (R : List (List Int)) : Prop :=
  ∃ lo hi, (∀ w', Below 0 wr w' → (∀ k, lo ≤ k → k < hi → w'.heap[k]? = wr.heap[k]?) → Mat w' a n R) ∧ hi ≤ wr.heap.size ∧ ∀ g, v.ownBlock = some g → g < lo ∨ hi ≤ g
theorem MatK.mat {wr : World} {v : Value} {a : Option Addr} {n : Nat} {R : List (List Int)} (h : MatK wr v a n R) : Mat wr a n R := by
  obtain ⟨lo, hi, h1, -, -⟩ := h
  exact h1 wr (Below.refl _ _) fun _ _ _ => rfl
theorem below0 {B : Nat} {w w' : World} (hb : Below B w w') : Below 0 w w' := hb.mono (Nat.zero_le _)
theorem MatK.step {wr w' : World} {v v' : Value} {a : Option Addr} {n : Nat} {R : List (List Int)} (h : MatK wr v a n R) (hb : Below 0 wr w') (hk : ∀ k, k < wr.heap.size → v.ownBlock ≠ some k → w'.heap[k]? = wr.heap[k]?)
    (hv : v'.ownBlock = v.ownBlock ∨ v'.ownBlock = some wr.heap.size) : MatK w' v' a n R := by
  obtain ⟨lo, hi, h1, h2, h3⟩ := h
  have hs := hb.size
  refine ⟨lo, hi, fun w2 hb2 hk2 => h1 w2 (hb.trans hb2) fun k k1 k2 => (hk2 k k1 k2).trans (hk k (by omega) fun e => ?_), by omega, fun g hg => ?_⟩
  · have := h3 k e; omega
  · rcases hv with hv | hv
    · exact h3 g (hv.symm.trans hg)
    · rw [hv] at hg; injection hg with hg; omega
theorem MatK.below {wr w' : World} {v : Value} {a : Option Addr} {n : Nat} {R : List (List Int)} (h : MatK wr v a n R) (hb : Below wr.heap.size wr w') : MatK w' v a n R :=
  h.step (below0 hb) (fun k hk _ => hb.block k hk) (.inl rfl)
/-- At the start: a matrix that was there before the list. -/
theorem matK_old {w wr : World} {v : Value} {a : Option Addr} {n : Nat} {R : List (List Int)} (h : Mat w a n R) (hb : Below w.heap.size w wr) (hv : ∀ g, v.ownBlock = some g → w.heap.size ≤ g) : MatK wr v a n R :=
  ⟨0, w.heap.size, fun _ hb2 hk => h.below ⟨hb2.os.trans hb.os, hb2.tape.trans hb.tape, hb2.output.trans hb.output, Nat.le_trans hb.size hb2.size, fun k hk2 => (hk k (Nat.zero_le _) hk2).trans (hb.block k hk2)⟩, hb.size, fun g hg => .inr (hv g hg)⟩
/-- A matrix that was made after the list's last growth. -/
theorem matK_new {w wr : World} {v : Value} {a : Option Addr} {n c : Nat} {R : List (List Int)} (h : OwnM wr w.heap.size (.slice a n c) R) (hv : ∀ g, v.ownBlock = some g → g < w.heap.size) : MatK wr v a n R :=
  ⟨w.heap.size, wr.heap.size, fun _ _ hk => (h.keep hk).mat, Nat.le_refl _, fun g hg => .inl (hv g hg)⟩
end Go.Proofs.YtmcihaihbnnblaaGreat.V
