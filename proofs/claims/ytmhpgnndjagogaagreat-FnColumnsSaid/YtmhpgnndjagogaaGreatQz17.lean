/- Texts laid together: Scp, Upp, Pck, Cmc, Stc, Col, Cle, Repeat. -/
import Derived.Test.YtmhpgnndjagogaaGreatQz16
import Derived.Test.YtmhpgnndjagogaaGreatQz15
import Derived.Test.YtmhpgnndjagogaaGreatQz12
import Derived.Test.YtmhpgnndjagogaaGreatQz2
import Derived.Test.YtmhpgnndjagogaaGreatQz3
import Derived.Test.YtmhpgnndjagogaaGreatQz13
import Derived.Test.YtmhpgnndjagogaaGreatRows
import Derived.Test.YtmhpgnndjagogaaGreatQz1
import Derived.WalkKit
import Derived.ProofKit
import Derived.WalkSmall
import Derived.Deep.QuietTactic
import Derived.BigQuiet
import Derived.BigRegion
import Derived.Deep.Draws
import Derived.Lib.Hide
import Derived.OpenShut
import Derived.Deep.OwnRows
import Derived.Laws.CopyOwn
import Derived.Deep.RegionLaw
import Derived.IntWalk
import Derived.Maps.AppendAt
import Derived.StillTailTactics
import Derived.Deep.RegionHeld3
set_option linter.unusedSimpArgs false
set_option linter.unusedVariables false
set_option linter.unusedSectionVars false
namespace Go.Proofs.YtmhpgnndjagogaaGreat.V
open Go.RowKit
set_option maxRecDepth 100000 in
set_option maxHeartbeats 4000000 in
theorem sComponents (a : Option Addr) (n cap : Nat) (R : List (List Int)) (w : World) (h : Sq w a n R) :
    Calls Tryz.prog 148 #[.slice a n cap] w fun e w' => ∃ b m c, e = .returned (.slice b m c) ∧ OwnM w' w.heap.size (.slice b m c) (M.compsL (M.ent R) n) ∧ Below w.heap.size w w' := by
  have HSq := Lib.hid h
  obtain ⟨n1, n2⟩ := h.2.2.2
  clear h
  go_enter Tryz.func148, Tryz.ntmps148
  go_wp2_with fail
  refine (sReach _ _ _ R _ HSq.out).mono ?_
  rintro e w1 ⟨tb, tc, rfl, ht, hb⟩
  have HT := Lib.hid ht
  have HB1 := Lib.hid hb
  obtain ⟨tg, -, rfl, -, -⟩ := ht.at 0 0 n1 n1
  clear ht hb
  go_wp2
  go_loopw [4, 5, 6, 7] (fun o i _ _ wr => ∃ (k : Nat) (b : Option Addr) (c : Nat), k ≤ n ∧ i = .int .i64 k ∧ o = .slice b (M.compsP (M.ent R) n k).length c ∧ Hid (OwnM wr w1.heap.size (.slice b (M.compsP (M.ent R) n k).length c) (M.compsP (M.ent R) n k)) ∧ Hid (Below w1.heap.size w1 wr)) (fun _ i _ _ _ => n - (intOf i).toNat)
  case atStart => exact ⟨0, _, 0, Nat.zero_le _, rfl, rfl, ownM_lit0 _ _ (Nat.le_refl _), b_alloc _ _⟩
  case round =>
    obtain ⟨k, b, c, hk, rfl, rfl, HO, HB⟩ := hrel
    obtain ⟨wo, rfl⟩ : ∃ x, x = wr := ⟨_, rfl⟩
    by_cases hlt : k < n
    · have hki : (k : Int) < (n : Int) := by omega
      have HNx := Lib.hid (M.compsP_next (M.ent R) n k)
      have HLn := Lib.hid (M.compsP_len (M.ent R) n k)
      go_wp2
      go_loopw [6, 7] (fun o i wr => ∃ (t : Nat) (b : Option Addr) (c : Nat), t ≤ n ∧ i = .int .i64 t ∧ o = .slice b (M.compP (M.ent R) n k t).length c ∧ Hid (Own wr wo.heap.size (.slice b (M.compP (M.ent R) n k t).length c) (M.compP (M.ent R) n k t)) ∧ Hid (Below wo.heap.size wo wr)) (fun _ i _ => n - (intOf i).toNat)
      case atStart => exact ⟨0, _, 0, Nat.zero_le _, rfl, rfl, own_lit0 _ _ (Nat.le_refl _), b_alloc _ _⟩
      case round =>
        obtain ⟨t, b2, c2, ht, rfl, rfl, HI, HBi⟩ := hrel
        by_cases htl : t < n
        · have hti : (t : Int) < (n : Int) := by omega
          have HTw := Lib.hid ((HT.out.below HB.out).below HBi.out)
          obtain ⟨g1, q1, e1, r1, r2⟩ := ((HT.out.below HB.out).below (HBi.out.mono (Nat.le_refl _))).at k t hlt htl
          injection e1 with e1
          injection e1 with e1
          subst e1
          obtain ⟨g1, q2, e1, r3, r4⟩ := ((HT.out.below HB.out).below (HBi.out.mono (Nat.le_refl _))).at t k htl hlt
          injection e1 with e1
          injection e1 with e1
          subst e1
          have hnx := M.compP_next (M.ent R) n k t
          have hrl : M.relB (M.ent R) n k t = (M.rchB (M.ent R) n k t && M.rchB (M.ent R) n t k) := rfl
          have hlen := M.compP_len (M.ent R) n k t
          obtain ⟨x, hx⟩ : ∃ x, x = M.rchB (M.ent R) n k t := ⟨_, rfl⟩
          obtain ⟨y, hy⟩ : ∃ y, y = M.rchB (M.ent R) n t k := ⟨_, rfl⟩
          rw [← hx] at r2 hrl
          rw [← hy] at r4 hrl
          rw [hrl] at hnx
          clear hx hy hrl HTw
          cases x with
          | false =>
            have HN : Hid (M.compP (M.ent R) n k (t + 1) = M.compP (M.ent R) n k t) := by show _ = _; rw [hnx]; simp
            clear hnx
            go_wp2
            go_roundw
            case rel => exact ⟨t + 1, b2, c2, by omega, by go_num, by rw [HN.out], by show Own _ _ _ _; rw [HN.out]; exact HI.out, HBi⟩
            case measure => simp [intOf]; omega
          | true =>
            cases y with
            | false =>
              have HN : Hid (M.compP (M.ent R) n k (t + 1) = M.compP (M.ent R) n k t) := by show _ = _; rw [hnx]; simp
              clear hnx
              go_wp2
              go_roundw
              case rel => exact ⟨t + 1, b2, c2, by omega, by go_num, by rw [HN.out], by show Own _ _ _ _; rw [HN.out]; exact HI.out, HBi⟩
              case measure => simp [intOf]; omega
            | true =>
              have HN : Hid (M.compP (M.ent R) n k (t + 1) = M.compP (M.ent R) n k t ++ [(t : Int)]) := by show _ = _; rw [hnx]; simp
              clear hnx
              generalize M.compP (M.ent R) n k t = l at *
              go_wp2_with (at_builtin; refine append1 _ rfl (.tmp 40) (.tmp 42) rfl wo.heap.size _ l (t : Int) _ rfl rfl HI.out rfl (by omega) HBi.out.size ?_)
              intro b4 c4 w4 hO4 hb4 _
              have HO4 := Lib.hid hO4
              have HB4 := Lib.hid (HBi.out.trans hb4)
              rw [← HN.out] at HO4
              clear hO4 hb4
              go_wp2
              go_roundw
              case rel => exact ⟨t + 1, b4, c4, by omega, by go_num, by rw [HN.out, List.length_append]; rfl, by show Own _ _ _ _; rw [HN.out, List.length_append]; rw [HN.out] at HO4; exact HO4.out, HB4⟩
              case measure => simp [intOf]; omega
        · obtain rfl : t = n := by omega
          have HO1 : Hid (Own wr wo.heap.size (.slice b2 (M.compL (M.ent R) t k).length c2) (M.compL (M.ent R) t k)) := HI
          have hsl : (Value.slice b2 (M.compP (M.ent R) t k t).length c2) = .slice b2 (M.compL (M.ent R) t k).length c2 := rfl
          rw [hsl]
          clear HI hsl
          obtain ⟨d, od, x, rfl, -, hx, cx⟩ := HO1.out.ints'.at 0 (M.compL_pos hlt)
          rw [Nat.add_zero] at cx
          have hrep := (M.rep_t (A := M.ent R) hlt).2.2
          rw [← hx] at hrep
          have HRp := Lib.hid hrep
          have hlen1 : (M.compL (M.ent R) t k).length ≤ 10 := by have := M.compP_len (M.ent R) t k t; unfold M.compL; omega
          have hlen0 := M.compL_pos (A := M.ent R) hlt
          clear hx hrep
          generalize M.compL (M.ent R) t k = l at *
          by_cases hr : x = (k : Int)
          · have HN : Hid (M.compsP (M.ent R) t (k + 1) = M.compsP (M.ent R) t k ++ [l]) := by show _ = _; rw [HNx.out, if_pos (by have := HRp.out; omega)]
            have hr2 : (x == (k : Int)) = true := by simp [hr]
            clear hr
            generalize M.compsP (M.ent R) t k = L at *
            go_wp2_with (at_builtin; refine appendRow wo _ rfl (.tmp 49) (.tmp 51) rfl w1.heap.size _ _ L l _ rfl rfl HO.out HBi.out HO1.out rfl (by have := HLn.out; omega) HB.out.size ?_)
            intro b4 c4 w4 hO4 hb4 _
            have HO4 := Lib.hid hO4
            have HB4 := Lib.hid ((HB.out.trans (HBi.out.mono HB.out.size)).trans hb4)
            clear hO4 hb4
            go_wp2
            go_roundw
            case rel => exact ⟨k + 1, b4, c4, by omega, by go_num, by rw [HN.out, List.length_append]; rfl, by show OwnM _ _ _ _; rw [HN.out, List.length_append]; exact HO4.out, HB4⟩
            case measure => simp [intOf]; omega
          · have HN : Hid (M.compsP (M.ent R) t (k + 1) = M.compsP (M.ent R) t k) := by show _ = _; rw [HNx.out, if_neg (by have := HRp.out; omega), List.append_nil]
            have hr2 : (x == (k : Int)) = false := by simpa using hr
            go_wp2
            go_roundw
            case rel => exact ⟨k + 1, b, c, by omega, by go_num, by rw [HN.out], by show OwnM _ _ _ _; rw [HN.out]; exact HO.out.below HBi.out, HB.out.trans (HBi.out.mono HB.out.size)⟩
            case measure => simp [intOf]; omega
    · obtain rfl : k = n := by omega
      go_wp2
      go_ret
      exact ⟨b, _, c, rfl, HO.out.mono HB1.out.size, HB1.out.trans (HB.out.mono HB1.out.size)⟩
end Go.Proofs.YtmhpgnndjagogaaGreat.V

namespace Go.Proofs.YtmhpgnndjagogaaGreat
namespace M
theorem up_sub (R : List (List Int)) (v : Nat) : ∀ i j, i < R.length → j < R.length → ent (mk R.length R.length (upF (ent R) R.length v)) i j = ent R i j ∨ ent (mk R.length R.length (upF (ent R) R.length v)) i j = -1000000000000000 := fun i j hi hj => by
  rw [ent_mk _ _ _ _ _ hi hj]
  unfold upF
  split
  · exact .inl rfl
  · exact .inr rfl
/-- No upstream mean is greater than the cycle mean. -/
theorem up_cmp {R : List (List Int)} {x : Int} (h : (upRes R x).2 = 0) (hc : (cycMeanRes R).2 = 0) :
    (cmpOf (upRes R x).1.1 (upRes R x).1.2 (cycMeanRes R).1.1 (cycMeanRes R).1.2).2 = 0 ∧ (cmpOf (upRes R x).1.1 (upRes R x).1.2 (cycMeanRes R).1.1 (cycMeanRes R).1.2).1 ≤ 0 := by
  obtain ⟨k1, k2, k3, k4⟩ := cyc_t hc
  obtain ⟨n1, n2, hA⟩ := sq_sm k1
  unfold upRes at h ⊢
  rw [if_pos k1] at h ⊢
  by_cases hx : inN R.length x = true
  · rw [if_pos hx] at h ⊢
    obtain ⟨g1, g2, g3, g4⟩ := cyc_t h
    rw [mk_length] at g2 g3 g4
    have hle := sub_le n2 hA (up_sub R x.toNat) g2
    rw [g4, k4]
    unfold cmpOf
    dsimp only
    rw [g3, k3, if_pos (by rfl)]
    refine ⟨rfl, ?_⟩
    show cmpZ _ _ ≤ 0
    unfold cmpZ
    split
    · omega
    · rw [if_neg (by omega)]; omega
  · rw [if_neg hx] at h; simp at h
/-- The upstream mean of a node of the best cycle is the cycle mean. -/
theorem up_best {R : List (List Int)} (hc : (cycMeanRes R).2 = 0) : upRes R ((bestCyc R).getD 0 0) = cycMeanRes R := by
  obtain ⟨k1, k2, k3, k4⟩ := cyc_t hc
  obtain ⟨n1, n2, hA⟩ := sq_sm k1
  obtain ⟨q1, q2, q3, q4⟩ := best_cyc k1 k2
  have hn : nodesB R.length (bestCyc R) = true ∧ aroundW R (bestCyc R) ≠ -1000000000000000 := by
    unfold cycB at q1
    rw [Bool.and_eq_true, Bool.and_eq_true, Bool.and_eq_true] at q1
    exact ⟨q1.1.1.2, of_decide_eq_true q1.2⟩
  obtain ⟨hn, hf⟩ := hn
  have hat := nodesB_at hn (k := 0) (by omega)
  have hlt := vx_lt hn (k := 0) (by omega)
  obtain ⟨c, hcv⟩ : ∃ c, c = vx (bestCyc R) 0 := ⟨_, rfl⟩
  have e0 : ((bestCyc R).getD 0 0).toNat = c := hcv.symm
  have hin : inN R.length ((bestCyc R).getD 0 0) = true := by
    unfold inN; rw [decide_eq_true hat.1, decide_eq_true hat.2]; rfl
  unfold upRes
  rw [if_pos k1, if_pos hin, e0]
  generalize bestCyc R = q at *
  have hvn : ∀ u, vx q (u % q.length) < R.length := fun u => vx_lt hn (Nat.mod_lt _ (by omega))
  have ho := list_owk (A := ent R) (fun i j hi hj => sm_wide (hA i j hi hj)) q3 (by omega) hn
  rw [← around_arW, o_fin hf] at ho
  have hcl : vx q (q.length % q.length) = vx q (0 % q.length) := by rw [Nat.mod_self, Nat.zero_mod]
  have harc := owk_arc (A := ent R) (v := fun u => vx q (u % q.length)) (s := q.length) (by rw [← ho]; simp)
  obtain ⟨e1, e2⟩ := sub_same (A := ent R) (A' := ent (mk R.length R.length (upF (ent R) R.length c))) n2 hA (up_sub R c) (v := fun u => vx q (u % q.length)) (s := q.length) (w := aroundW R q) q3 hcl (fun u _ => hvn u) ho.symm (by
    have hb := rat_back (n := aroundW R q) (d := (q.length : Int)) (by omega)
    have e1 : ratN (aroundW R q) q.length = (bestR (ent R) R.length).1 := congrArg Prod.fst q2
    have e2 : ratD (aroundW R q) q.length = (bestR (ent R) R.length).2 := congrArg Prod.snd q2
    rw [e1, e2] at hb
    rw [Int.mul_comm, ← hb]; ac_rfl) (fun u hu => by
    show ent (mk R.length R.length (upF (ent R) R.length c)) (vx q ((u + 1) % q.length)) (vx q (u % q.length)) = _
    rw [ent_mk _ _ _ _ _ (hvn _) (hvn _)]
    have hr : rchB (ent R) R.length (vx q ((u + 1) % q.length)) c = true := by
      refine rchB_t.2 ⟨q.length - (u + 1), fun t => vx q ((u + 1 + t) % q.length), rfl, ?_, fun t _ => hvn _, fun t ht => ?_⟩
      · show vx q ((u + 1 + (q.length - (u + 1))) % q.length) = c
        rw [show u + 1 + (q.length - (u + 1)) = q.length by omega, Nat.mod_self, hcv]
      · exact harc (u + 1 + t) (by omega)
    unfold upF
    rw [if_pos hr])
  have hup := up_val k1 c
  unfold cycMeanRes
  rw [sq_mk n1 n2 hup, mk_length, k1, e1, e2, k2]
/-- The nodes of a component reach each other. -/
theorem comp_rch {A : Nat → Nat → Int} {n : Nat} {l : List Int} (hl : l ∈ compsL A n) {i j : Nat} (hi : i < l.length) (hj : j < l.length) :
    ∃ x y : Nat, x < n ∧ y < n ∧ l.getD i 0 = x ∧ l.getD j 0 = y ∧ rchB A n x y = true ∧ rchB A n y x = true := by
  obtain ⟨v, hv, -, rfl⟩ := mem_compsP.1 hl
  obtain ⟨x, hx, rx, ex⟩ := compL_at hi
  obtain ⟨y, hy, ry, ey⟩ := compL_at hj
  obtain ⟨a1, a2⟩ := relB_t.1 rx
  obtain ⟨b1, b2⟩ := relB_t.1 ry
  exact ⟨x, y, hx, hy, ex, ey, rchB_t.2 (rch_trans a2 b1), rchB_t.2 (rch_trans b2 a1)⟩
end M
end Go.Proofs.YtmhpgnndjagogaaGreat

namespace Go.Proofs.YtmhpgnndjagogaaGreat
namespace M
theorem filter_ids (L : List (List Int)) (p : List Int → Bool) : ((List.range L.length).filter fun i => p (L.getD i [])).map (fun i => L.getD i []) = L.filter p := by
  have h : (List.range L.length).map (fun i => L.getD i []) = L := by
    apply List.ext_getElem
    · simp
    · intro k k1 k2
      simp only [List.getElem_map, List.getElem_range]
      rw [List.getD_eq_getElem?_getD, List.getElem?_eq_getElem k2, Option.getD_some]
  conv => rhs; rw [← h]
  rw [List.filter_map]
  rfl
/-- The chosen places among the first k. -/
def idsK (L : List (List Int)) (p : List Int → Bool) (k : Nat) : List Nat := (List.range k).filter fun i => p (L.getD i [])
theorem idsK_next (L : List (List Int)) (p : List Int → Bool) (k : Nat) : idsK L p (k + 1) = idsK L p k ++ (if p (L.getD k []) then [k] else []) := by
  unfold idsK
  rw [List.range_succ, List.filter_append]
  congr 1
  by_cases h : p (L.getD k []) = true
  · rw [if_pos h]; rw [List.getD_eq_getElem?_getD] at h; simp [h]
  · rw [if_neg h]; rw [List.getD_eq_getElem?_getD] at h; simp [h]
theorem idsK_len (L : List (List Int)) (p : List Int → Bool) (k : Nat) : (idsK L p k).length ≤ k := by
  unfold idsK
  exact Nat.le_trans (List.length_filter_le _ _) (by simp)
theorem idsK_lt {L : List (List Int)} {p : List Int → Bool} {k i : Nat} (h : i ∈ idsK L p k) : i < k := List.mem_range.1 (List.mem_filter.1 h).1
theorem idsK_up (L : List (List Int)) (p : List Int → Bool) (k : Nat) : (idsK L p k).Pairwise (fun x y => x < y) := List.Pairwise.filter _ List.pairwise_lt_range
end M
namespace V
open Go.RowKit
theorem own_move {w w' : World} {B B' : Nat} {rv : Value} {l : List Int} (h : Own w B rv l) (hk : ∀ k, rv.ownBlock = some k → w'.heap[k]? = w.heap[k]? ∧ B' ≤ k) : Own w' B' rv l := by
  obtain ⟨h1, h2⟩ := h
  rcases h2 with h2 | ⟨g, cap, cur, e, hB, hh, r⟩
  · exact ⟨h1, .inl h2⟩
  · obtain ⟨k1, k2⟩ := hk g (by rw [e]; rfl)
    exact ⟨h1, .inr ⟨g, cap, cur, e, k2, by rw [k1]; exact hh, r⟩⟩
theorem getD_map_nat {α : Type} (f : Nat → α) (ids : List Nat) (d : α) (i : Nat) (hi : i < ids.length) : (ids.map f).getD i d = f ids[i] := by
  rw [List.getD_eq_getElem?_getD, List.getElem?_map, List.getElem?_eq_getElem hi]
  rfl
theorem OwnV.pick {w w' : World} {B B' : Nat} {v v' : Value} {R : List (List Int)} {V : List Value} (h : OwnV w B v R V) (ids : List Nat) (hid : ids.Pairwise (fun x y => x < y)) (hlt : ∀ i, i ∈ ids → i < R.length)
    (ho : w'.ownsRow B' 28 1 v' ids.length (ids.map fun i => V.getD i (.slice none 0 0)))
    (hk : ∀ i k, i < R.length → (V.getD i (.slice none 0 0)).ownBlock = some k → w'.heap[k]? = w.heap[k]? ∧ B' ≤ k ∧ v'.ownBlock ≠ some k) :
    OwnV w' B' v' (ids.map fun i => R.getD i []) (ids.map fun i => V.getD i (.slice none 0 0)) := by
  obtain ⟨h1, h2, h3, h4, h5⟩ := h
  have hl : (ids.map fun i => R.getD i []).length = ids.length := by simp
  refine ⟨by simp, by rw [hl]; exact ho, fun i hi => ?_, fun i hi k e => ?_, fun i j hi hj hne k e => ?_⟩
  · rw [hl] at hi
    rw [getD_map_nat _ _ _ _ hi, getD_map_nat _ _ _ _ hi]
    have hm := hlt _ (List.getElem_mem hi)
    exact own_move (h3 _ hm) fun k e => ⟨(hk _ k hm e).1, (hk _ k hm e).2.1⟩
  · rw [hl] at hi
    rw [getD_map_nat _ _ _ _ hi] at e
    exact (hk _ k (hlt _ (List.getElem_mem hi)) e).2.2
  · rw [hl] at hi hj
    rw [getD_map_nat _ _ _ _ hi] at e
    rw [getD_map_nat _ _ _ _ hj]
    refine h5 _ _ (hlt _ (List.getElem_mem hi)) (hlt _ (List.getElem_mem hj)) (fun q => ?_) k e
    rcases Nat.lt_or_gt_of_ne hne with hij | hij
    · have := List.pairwise_iff_getElem.1 hid i j hi hj hij; omega
    · have := List.pairwise_iff_getElem.1 hid j i hj hi hij; omega
theorem OwnV.keep {w w' : World} {B : Nat} {v : Value} {R : List (List Int)} {V : List Value} (h : OwnV w B v R V) (hk : ∀ k, B ≤ k → k < w.heap.size → w'.heap[k]? = w.heap[k]?) : OwnV w' B v R V := by
  obtain ⟨h1, h2, h3, h4, h5⟩ := h
  exact ⟨h1, ownsRow_keep h2 (fun k hv => hk k (own_lt h2 hv).1 (own_lt h2 hv).2), fun i hi => (h3 i hi).keep hk, h4, h5⟩
theorem OwnV.below {w w' : World} {B : Nat} {v : Value} {R : List (List Int)} {V : List Value} (h : OwnV w B v R V) (hb : Below w.heap.size w w') : OwnV w' B v R V := h.keep (fun k _ h2 => hb.block k h2)
theorem row_lit0 (w : World) (B : Nat) (hB : B ≤ w.heap.size) : (w.alloc (.cells #[] 28)).ownsRow B 28 1 (.slice (some ⟨w.heap.size, 0, none⟩) 0 0) 0 [] := by
  obtain ⟨V, h1, h2, -⟩ := ownM_lit0 w B hB
  obtain rfl : V = [] := List.eq_nil_of_length_eq_zero h1
  exact h2
/-- One row of an owned matrix, with its value. -/
theorem OwnV.cell {w : World} {B : Nat} {a : Option Addr} {n cap : Nat} {R : List (List Int)} {V : List Value} (h : OwnV w B (.slice a n cap) R V) (i : Nat) (hi : i < n) :
    ∃ g ra rc, a = some ⟨g, 0, none⟩ ∧ V.getD i (.slice none 0 0) = .slice ra (R.getD i []).length rc ∧ w.cell? ⟨g, i, none⟩ = some (.slice ra (R.getD i []).length rc) ∧ Ints .i64 w ra (R.getD i []).length (R.getD i []) := by
  obtain ⟨h1, h2, h3, h4, h5⟩ := h
  obtain ⟨a', c', hv, hc, hm, hg⟩ := own_form h2
  injection hv with e1 e2 e3
  subst e1 e2 e3
  obtain ⟨g, rfl, hB, hlt⟩ := hg (by omega)
  obtain ⟨ra, rc, hv, hI⟩ := (h3 i hi).ints
  refine ⟨g, ra, rc, rfl, hv, ?_, hI⟩
  have := World.ownsRow.cellAt h2 i (by omega)
  rw [this, ← hv]
  simp [h1, hi]
theorem appendVal (w : World) {ops : Array Oper} {rest : List Oper} {o : Oper} {a : Act} {Q : Exit → Act → World → Prop} (hgd : o.guard = none) (s x : Operand)
    (ho : o.op = .call { callee := .builtin .append, args := #[s, x], argTypes := #[24, 24] }) (B : Nat) (v : Value) (V : List Value) (ra : Option Addr) (L rc n : Nat) (hs : a.eval s = v) (hown : w.ownsRow B 28 1 v n V)
    (hx : a.eval x = .slice (some ⟨w.heap.size, 0, none⟩) 1 1) (hlen : n ≤ 2000000) (hB : B ≤ w.heap.size)
    (h : ∀ b' c' w', w'.ownsRow B 28 1 (.slice b' (n + 1) c') (n + 1) (V ++ [.slice ra L rc]) → Below B w w' → (∀ k, k < w.heap.size → v.ownBlock ≠ some k → w'.heap[k]? = w.heap[k]?) → wpList Tryz.prog ops Q rest (a.put o.dst (.slice b' (n + 1) c')) w') :
    wpList Tryz.prog ops Q (o :: rest) a (w.alloc (.cells #[.slice ra L rc] 28)) := by
  obtain ⟨i0, hi, hz0, hz1, hz2⟩ := info_parts infoS64
  have hown2 : (w.alloc (.cells #[.slice ra L rc] 28)).ownsRow B 28 1 v n V := World.ownsRow.alloc hown _
  have hVl : V.length = n := by have := hown.1; omega
  refine wpList_append_own_at (w := w.alloc (.cells #[.slice ra L rc] 28)) hgd s x 24 ho B 28 i0 (.slice none 0 0) 1 24 Tryz.underlying24 hi hz0 hz1 hz2 rfl (by decide) v _ _ hs hown2 ⟨w.heap.size, 0, none⟩ 1 1 [.slice ra L rc] hx rfl (cell_one_new _ _ _) ?c2 ?c3 ?c4 ?c5 ?_
  case c2 => intro u hu; simp at hu; subst hu; rfl
  case c3 => unfold maxLen; omega
  case c4 => omega
  case c5 => simp; omega
  · intro v' w' hown' hgrow hz hvb
    have ho' : w'.ownsRow B 28 1 v' (n + 1) (V ++ [.slice ra L rc]) := by simpa using hown'
    obtain ⟨b', c', hv', _⟩ := own_form ho'
    subst hv'
    refine h b' c' w' ho' (((Below.refl B w).alloc hB _).grown hgrow (by simp; omega) (fun k hk => (own_lt hown hk).1)) (fun k hk hne => ?_)
    obtain ⟨g1, g2, g3, g4, g5⟩ := hgrow
    rw [g5 k (by simp; omega) (fun e => hne e.symm), Below.heap_alloc _ _ _ hk]
end V
end Go.Proofs.YtmhpgnndjagogaaGreat

namespace Go.Proofs.YtmhpgnndjagogaaGreat
namespace M
theorem crRow {R : List (List Int)} {n k : Nat} (hn : R.length = n) (hk : k < (compsL (ent (crM R)) n).length) :
    1 ≤ ((compsL (ent (crM R)) n).getD k []).length ∧ hasB (nodesL R) (((compsL (ent (crM R)) n).getD k []).getD 0 0) = crN R (vx ((compsL (ent (crM R)) n).getD k []) 0) := by
  have hm : (compsL (ent (crM R)) n).getD k [] ∈ compsL (ent (crM R)) n := by rw [List.getD_eq_getElem?_getD, List.getElem?_eq_getElem hk]; exact List.getElem_mem hk
  generalize (compsL (ent (crM R)) n).getD k [] = l at hm ⊢
  obtain ⟨v, hv, -, rfl⟩ := mem_compsP.1 hm
  have hp := compL_pos (A := ent (crM R)) hv
  refine ⟨hp, ?_⟩
  obtain ⟨x, hx, -, ex⟩ := compL_at (k := 0) hp
  unfold vx
  rw [ex]
  apply Bool.eq_iff_iff.2
  rw [hasB_iff, mem_nodesL]
  constructor
  · rintro ⟨f, hf, hc, e⟩
    obtain rfl : x = f := by omega
    simpa using hc
  · intro h; exact ⟨x, by omega, by simpa using h, rfl⟩
def crPick (R : List (List Int)) (l : List Int) : Bool := crN R (vx l 0)
theorem crM_sm {R : List (List Int)} (hs : sqB R = true) {n : Nat} (hn : R.length = n) : ∀ i j, i < n → j < n → Sm 1000000 (ent (crM R) i j) := by
  intro i j hi hj
  obtain ⟨-, -, hA⟩ := sq_sm hs
  subst hn
  unfold crM
  rw [ent_mk _ _ _ _ _ hi hj]
  unfold crF
  split
  · exact hA i j hi hj
  · exact .inl rfl
theorem crComps_ids {R : List (List Int)} {n : Nat} (hn : R.length = n) : (idsK (compsL (ent (crM R)) n) (crPick R) (compsL (ent (crM R)) n).length).map (fun i => (compsL (ent (crM R)) n).getD i []) = crComps R := by
  subst hn
  exact filter_ids _ _
end M
namespace V
set_option maxRecDepth 100000
open Go.RowKit
set_option maxRecDepth 100000 in
set_option maxHeartbeats 4000000 in
theorem sComponents6 (a : Option Addr) (n cap : Nat) (R : List (List Int)) (w : World) (h : Mat w a n R) (hs : M.sqB R = true) (hc : M.hasCyc (M.ent R) R.length = true) :
    Calls Tryz.prog 91 #[.slice a n cap] w fun e w' => ∃ b m c, e = .returned (.slice b m c) ∧ OwnM w' w.heap.size (.slice b m c) (M.crComps R) ∧ Below w.heap.size w w' := by
  have HA := Lib.hid h
  have HRn := Lib.hid h.1
  have HS := Lib.hid hs
  have HC := Lib.hid hc
  obtain ⟨hr, n1, n2, -⟩ := sq_parts h hs
  have HSm := Lib.hid (M.crM_sm hs h.1)
  have HRc : Hid (Rect (M.crM R) n n) := by show Rect _ _ _; rw [← h.1]; exact rect_mk _ _ _
  clear h hs hc hr
  go_enter Tryz.func91, Tryz.ntmps91
  go_wp2_with fail
  refine (sMatrix _ _ _ R _ HA.out HS.out HC.out).mono ?_
  rintro e w1 ⟨b1, c1, rfl, ho, hb⟩
  have HQ1 : Hid (Sq w1 b1 n (M.crM R)) := ⟨ho.mat, HRc.out, fun i j hi hj => M.sm_wide (HSm.out i j hi hj), n1, n2⟩
  have HB1 := Lib.hid hb
  clear ho hb
  go_wp2_with fail
  refine (sComponents _ _ _ (M.crM R) _ HQ1.out).mono ?_
  rintro e w2 ⟨b2, m2, c2, rfl, ho, hb⟩
  have hm2 := ho.len
  have HB2 := Lib.hid (HB1.out.trans (hb.mono HB1.out.size))
  have hzl := HB1.out.size
  have HRow := Lib.hid (fun k (hk : k < (M.compsL (M.ent (M.crM R)) n).length) => M.crRow HRn.out hk)
  have HEnd := Lib.hid (M.crComps_ids HRn.out)
  have hln : (M.compsL (M.ent (M.crM R)) n).length ≤ n := M.compsP_len _ _ _
  obtain ⟨V, hV⟩ := ho
  have HV2 := Lib.hid hV
  clear hb hV HQ1
  generalize M.compsL (M.ent (M.crM R)) n = L at *
  subst hm2
  go_wp2_with fail
  refine (sNodes6 _ _ _ R _ (HA.out.below HB2.out) HS.out HC.out).mono ?_
  rintro e w3 ⟨b3, c3, rfl, ho, hb⟩
  have HN3 := Lib.hid ho.ints'
  have HV3 := Lib.hid (HV2.out.below hb)
  have HB23 := Lib.hid hb
  have HB3 := Lib.hid (HB2.out.trans (hb.mono HB2.out.size))
  have hz3 : w2.heap.size ≤ w3.heap.size := hb.size
  have hz2 : w.heap.size ≤ w2.heap.size := HB2.out.size
  clear ho hb
  go_wp2
  go_loopw [5, 6] (fun o kv wr => ∃ (k : Nat) (b : Option Addr) (c : Nat), k ≤ L.length ∧ kv = .int .i64 k ∧ o = .slice b (M.idsK L (M.crPick R) k).length c ∧ Hid (wr.ownsRow w3.heap.size 28 1 (.slice b (M.idsK L (M.crPick R) k).length c) (M.idsK L (M.crPick R) k).length ((M.idsK L (M.crPick R) k).map fun i => V.getD i (.slice none 0 0))) ∧ Hid (Below w3.heap.size w3 wr)) (fun _ kv _ => L.length - (intOf kv).toNat)
  case atStart => exact ⟨0, _, _, Nat.zero_le _, rfl, rfl, row_lit0 _ _ (Nat.le_refl _), b_alloc _ _⟩
  case round =>
    obtain ⟨k, b, c, hk, rfl, rfl, HO, HB⟩ := hrel
    have HIn := Lib.hid (M.idsK_next L (M.crPick R) k)
    have HIl := Lib.hid (M.idsK_len L (M.crPick R) k)
    by_cases hkl : k < L.length
    · have hki : (k : Int) < (L.length : Int) := by omega
      obtain ⟨hr1, hr2⟩ := HRow.out k hkl
      obtain ⟨g, ra, rc, hga, hVk, cr, hI⟩ := (HV3.out.below HB.out).cell k hkl
      subst hga
      obtain ⟨q, qo, x0, hra, -, hx0, cx0⟩ := hI.at 0 (by omega)
      subst hra
      rw [Nat.add_zero] at cx0
      rw [← hx0] at hr2
      have HNw := Lib.hid (HN3.out.below HB.out)
      obtain ⟨hb, hhb⟩ : ∃ hb, hb = M.crPick R (L.getD k []) := ⟨_, rfl⟩
      have HH : Hid (M.hasB (M.nodesL R) x0 = hb) := by show _ = _; rw [hhb]; exact hr2
      have hin := HIn.out
      rw [← hhb] at hin
      have HVk := Lib.hid hVk
      have hm0 : (0 : Int) < ((L.getD k []).length : Int) := by omega
      clear hx0 hr2 hhb hI HIn hVk hr1
      generalize (L.getD k []).length = m at *
      generalize L.length = N at *
      generalize hnd : M.idsK L (M.crPick R) k = ids at *
      clear hnd
      cases hb with
      | false =>
        have HN : Hid (M.idsK L (M.crPick R) (k + 1) = ids) := by show _ = _; rw [hin]; simp
        clear hin
        go_wp2_with (go_at_call 92; refine (sHas _ _ _ (M.nodesL R) _ _ (by exact HNw.out)).mono ?_; rintro e w' ⟨rfl, rfl⟩; rw [HH.out])
        go_roundw
        case rel => exact ⟨k + 1, b, c, by omega, by go_num, by rw [HN.out], by show World.ownsRow _ _ _ _ _ _ _; rw [HN.out]; exact HO.out, HB⟩
        case measure => simp [intOf]; omega
      | true =>
        have HN : Hid (M.idsK L (M.crPick R) (k + 1) = ids ++ [k]) := by show _ = _; rw [hin]; simp
        clear hin
        go_wp2_with (first | (go_at_call 92; refine (sHas _ _ _ (M.nodesL R) _ _ (by exact HNw.out)).mono ?_; rintro e w' ⟨rfl, rfl⟩; rw [HH.out]) | (at_builtin; refine appendVal _ rfl (.tmp 27) (.tmp 32) rfl w3.heap.size _ _ _ m rc _ rfl HO.out rfl (by have := HIl.out; omega) HB.out.size ?_))
        intro b4 c4 w4 hO4 hb4 _
        have HO4 := Lib.hid hO4
        have HB4 := Lib.hid (HB.out.trans hb4)
        clear hO4 hb4
        go_wp2
        go_roundw
        case rel => exact ⟨k + 1, b4, c4, by omega, by go_num, by rw [HN.out, List.length_append]; rfl, by show World.ownsRow _ _ _ _ _ _ _; rw [HN.out, List.length_append, List.map_append]; have := HO4.out; rw [← HVk.out] at this; exact this, HB4⟩
        case measure => simp [intOf]; omega
    · obtain rfl : k = L.length := by omega
      have HP : Hid (OwnM wr w.heap.size (.slice b (M.idsK L (M.crPick R) L.length).length c) (M.crComps R)) := by
        show OwnM _ _ _ _
        rw [← HEnd.out]
        refine ⟨_, OwnV.pick HV2.out _ (M.idsK_up _ _ _) (fun i hi => M.idsK_lt hi) (World.ownsRow.mono HO.out (by omega)) fun i kk hi e => ?_⟩
        have hlt := own_lt (HV2.out.2.2.1 i hi) e
        refine ⟨(HB.out.block kk (by omega)).trans (HB23.out.block kk (by omega)), by omega, fun e2 => ?_⟩
        have := own_lt HO.out e2
        omega
      clear HO
      go_wp2
      go_ret
      exact ⟨b, _, c, rfl, HP.out, HB3.out.trans (HB.out.mono HB3.out.size)⟩
set_option maxRecDepth 100000 in
set_option maxHeartbeats 1000000 in
theorem sCriticalComponents (a : Option Addr) (n cap : Nat) (R : List (List Int)) (w : World) (h : Mat w a n R) :
    Calls Tryz.prog 40 #[.slice a n cap] w (MRes (M.compRes R) w) := by
  have HA := Lib.hid h
  by_cases hc : M.crCode R = 0
  · obtain ⟨h1, h2⟩ := M.cr_code hc
    have H1 := Lib.hid h1
    have H2 := Lib.hid h2
    have HK := Lib.hid hc
    have HE : Hid (M.compRes R = (M.crComps R, 0)) := by show _ = _; unfold M.compRes; rw [if_pos hc]
    clear h hc h1 h2
    go_enter Tryz.func40, Tryz.ntmps40
    go_wp2_with fail
    refine (sCode _ _ _ R _ HA.out).mono ?_
    rintro e w1 ⟨rfl, hb⟩
    rw [HK.out]
    have HB := Lib.hid hb
    clear hb
    go_wp2_with fail
    refine (sComponents6 _ _ _ R _ (HA.out.below HB.out) H1.out H2.out).mono ?_
    rintro e w2 ⟨b2, m2, c2, rfl, ho, hb⟩
    have HO := Lib.hid (ho.mono HB.out.size)
    have HB2 := Lib.hid (HB.out.trans (hb.mono HB.out.size))
    clear ho hb
    go_wp2
    go_ret2
    rw [HE.out]
    exact ⟨_, _, _, rfl, HO.out, HB2.out⟩
  · obtain ⟨k, hk⟩ : ∃ k, k = M.crCode R := ⟨_, rfl⟩
    have HE : Hid (M.compRes R = ([], k)) := by show _ = _; unfold M.compRes; rw [if_neg hc, hk]
    have HK := Lib.hid hk
    have hk0 : (k != 0) = true := by rw [hk]; simpa using hc
    clear h hc hk
    go_enter Tryz.func40, Tryz.ntmps40
    go_wp2_with fail
    refine (sCode _ _ _ R _ HA.out).mono ?_
    rintro e w1 ⟨rfl, hb⟩
    rw [← HK.out]
    have HB := Lib.hid hb
    clear hb
    go_wp2
    go_ret2
    exact MRes.nil HE.out HB.out
end V
end Go.Proofs.YtmhpgnndjagogaaGreat

namespace Go.Proofs.YtmhpgnndjagogaaGreat
namespace M
def stcM (S : Nat → Nat → Int) (n : Nat) : List (List Int) := mk n n fun i j => ent (mk n n (starF S n)) j i
end M
namespace V
set_option maxRecDepth 100000
open Go.RowKit
set_option maxRecDepth 100000 in
set_option maxHeartbeats 2000000 in
theorem starColumns (a : Option Addr) (n cap : Nat) (R : List (List Int)) (num den : Int) (w0 : World) (h : Mat w0 a n R) (hr : Rect R n n) (n1 : 1 ≤ n) (n2 : n ≤ 10) (hs : ∀ i j, i < n → j < n → M.Sm 1000000 (M.ent R i j)) (hab : M.Near num den) (hp : M.noPos (M.shf (M.ent R) num den) n = true) :
    Calls Tryz.prog 97 #[.slice a n cap, .agg #[.int .i64 num, .int .i64 den]] w0 (MPost n (M.stcM (M.shf (M.ent R) num den) n) w0) := by
  obtain ⟨w, hwd⟩ : ∃ w, w = w0.alloc (rbox num den) := ⟨_, rfl⟩
  have HX : Hid (Boxed w0 w num den) := by show Boxed _ _ _ _; rw [hwd]; exact boxed _ _ _
  have HA : Hid (Mat w a n R) := h.below HX.out.below
  have HR := Lib.hid hr
  have HS := Lib.hid hs
  have HN := Lib.hid hab
  have HSt := Lib.hid (M.star_shift hp)
  have HSh := Lib.hid (M.sh_sm hs hab)
  obtain ⟨p0, p1⟩ := HX.out.cells (Below.refl _ _)
  have hz := HX.out.size
  clear h hr hs hab hp
  go_enter Tryz.func97, Tryz.ntmps97
  go_wp2_with fail
  simp only [← hwd] at *
  clear hwd
  refine (shiftedBy _ _ _ R num den _ HA.out HR.out n1 n2 HS.out HN.out).mono ?_
  rintro e w2 ⟨a2, cap2, rfl, hO, hb⟩
  generalize M.shf (M.ent R) num den = S at *
  have HSq : Hid (Sq w2 a2 n (M.mk n n S)) := ⟨hO.mat, rect_mk _ _ _, fun i j hi hj => by rw [M.ent_mk _ _ _ _ _ hi hj]; exact HSh.out i j hi hj, n1, n2⟩
  have HB2 := Lib.hid (HX.out.below.trans (hb.mono HX.out.below.size))
  clear hO hb p0 p1
  go_wp2_with fail
  refine (starOf _ _ _ (M.mk n n S) _ HSq.out).mono ?_
  rintro e w3 ⟨a3, m3, c3, rfl, hO, hb⟩
  rw [HSt.out] at hO
  have hm3 : m3 = n := by have := hO.len; simpa using this
  subst hm3
  have HO3 := Lib.hid hO
  have HB3 := Lib.hid (HB2.out.trans (hb.mono HB2.out.size))
  rw [HSt.out]
  clear hO hb
  go_wp2_with fail
  refine (transposed _ _ _ m3 (M.mk m3 m3 (M.starF S m3)) _ HO3.out.mat (rect_mk _ _ _) n1 n2 n1 n2).mono ?_
  rintro e w4 ⟨a4, c4, rfl, hO, hb⟩
  have HO4 := Lib.hid (hO.mono HB3.out.size)
  have HB4 := Lib.hid (HB3.out.trans (hb.mono HB3.out.size))
  clear hO hb
  go_wp2
  go_ret
  exact ⟨_, _, rfl, HO4.out, HB4.out⟩
end V
end Go.Proofs.YtmhpgnndjagogaaGreat

namespace Go.Proofs.YtmhpgnndjagogaaGreat
namespace M
/-- From a critical node on, and towards one, all is critical. -/
theorem crN_rch {R : List (List Int)} {n r c : Nat} (hn : R.length = n) (h : Rch (ent (crM R)) n r c) (hc : crN R c = true) : crN R r = true := by
  obtain ⟨s, f, h0, hs, hlt, harc⟩ := h
  cases s with
  | zero => rw [← h0, hs]; exact hc
  | succ s =>
    have h1 := harc 0 (by omega)
    have l0 := hlt 0 (by omega)
    have l1 := hlt 1 (by omega)
    subst hn
    unfold crM at h1
    rw [ent_mk _ _ _ _ _ l1 l0] at h1
    unfold crF at h1
    unfold crN
    rw [← h0]
    refine List.any_eq_true.2 ⟨f 1, List.mem_range.2 l1, ?_⟩
    cases e : crB R (f 0) (f 1) with
    | true => rfl
    | false => rw [e] at h1; exact absurd rfl h1
theorem crComps_pos {R : List (List Int)} (h1 : sqB R = true) (h2 : hasCyc (ent R) R.length = true) : 1 ≤ (crComps R).length := by
  obtain ⟨q1, q2, q3, q4⟩ := best_cyc h1 h2
  have hcr := crit_cyc h1 h2 q1
  rw [decide_eq_true q2] at hcr
  obtain ⟨-, hnod, -, -⟩ := crCycB_t q1
  have hall := List.all_eq_true.1 hcr.symm 0 (List.mem_range.2 (by omega))
  have hc := vx_lt hnod (k := 0) (by omega)
  have ht := vx_lt hnod (k := (0 + 1) % (bestCyc R).length) (Nat.mod_lt _ (by omega))
  have hcn : crN R (vx (bestCyc R) 0) = true := List.any_eq_true.2 ⟨_, List.mem_range.2 ht, hall⟩
  generalize vx (bestCyc R) 0 = c at *
  obtain ⟨r1, r2, r3⟩ := rep_t (A := ent (crM R)) hc
  have hrc := (relB_t.1 r2).2
  have hrn := crN_rch rfl hrc hcn
  have he := compL_eq r2
  have hrr : repN (ent (crM R)) R.length (repN (ent (crM R)) R.length c) = repN (ent (crM R)) R.length c := by
    show ((compL (ent (crM R)) R.length (repN (ent (crM R)) R.length c)).getD 0 0).toNat = _
    rw [← he]; rfl
  have hm : compL (ent (crM R)) R.length (repN (ent (crM R)) R.length c) ∈ crComps R := by
    refine List.mem_filter.2 ⟨mem_compsP.2 ⟨_, r1, hrr, rfl⟩, ?_⟩
    have : vx (compL (ent (crM R)) R.length (repN (ent (crM R)) R.length c)) 0 = repN (ent (crM R)) R.length c := hrr
    rw [this]
    exact hrn
  exact List.length_pos_of_mem hm
theorem comps_up (A : Nat → Nat → Int) (n m : Nat) : (compsP A n m).Pairwise (fun x y => vx x 0 < vx y 0) ∧ ∀ l, l ∈ compsP A n m → vx l 0 < m := by
  refine ⟨?_, fun l hl => ?_⟩
  · induction m with
    | zero => exact List.Pairwise.nil
    | succ m ih =>
      rw [compsP_next]
      refine List.pairwise_append.2 ⟨ih, ?_, fun x hx y hy => ?_⟩
      · split
        · exact List.pairwise_singleton ..
        · exact List.Pairwise.nil
      · obtain ⟨v, hv, hr, rfl⟩ := mem_compsP.1 hx
        split at hy
        · next h =>
          rw [List.mem_singleton.1 hy]
          have e1 : vx (compL A n v) 0 = v := hr
          have e2 : vx (compL A n m) 0 = m := h
          omega
        · exact absurd hy List.not_mem_nil
  · obtain ⟨v, hv, hr, rfl⟩ := mem_compsP.1 hl
    have e1 : vx (compL A n v) 0 = v := hr
    omega
theorem rect_stc (S : Nat → Nat → Int) (n : Nat) : (stcM S n).length = n ∧ ∀ c, c < n → ((stcM S n).getD c []).length = n := ⟨by unfold stcM; simp, fun c hc => by unfold stcM; exact mk_rowlen _ _ _ _ hc⟩
def colIds (R : List (List Int)) : List Nat := (crComps R).map fun l => vx l 0
theorem colIds_up (R : List (List Int)) : (colIds R).Pairwise (fun x y => x < y) := by
  unfold colIds
  rw [List.pairwise_map]
  exact List.Pairwise.filter _ (comps_up _ _ _).1
theorem colIds_lt {R : List (List Int)} {i : Nat} (h : i ∈ colIds R) : i < R.length := by
  obtain ⟨l, hl, rfl⟩ := List.mem_map.1 h
  exact (comps_up _ _ _).2 l (List.mem_filter.1 hl).1
/-- The columns. -/
def colsL (R : List (List Int)) : List (List Int) := (colIds R).map fun i => (stcM (crS R) R.length).getD i []
def colsRes (R : List (List Int)) : List (List Int) × Int := if crCode R = 0 then (if (colsL R).all isVec then (colsL R, 0) else ([], 3)) else ([], crCode R)
theorem cols_row {R : List (List Int)} {i : Nat} (h : i < R.length) : ((stcM (crS R) R.length).getD i []).length = R.length := by
  unfold stcM
  exact mk_rowlen _ _ _ _ h
theorem colsL_len (R : List (List Int)) : (colsL R).length = (crComps R).length := by unfold colsL colIds; simp
theorem crComps_len (R : List (List Int)) : (crComps R).length ≤ R.length := by
  unfold crComps
  have h1 := List.length_filter_le (fun l => crN R (vx l 0)) (compsL (ent (crM R)) R.length)
  have h2 := compsP_len (ent (crM R)) R.length R.length
  unfold compsL at h1 ⊢
  omega
theorem cols_at {R : List (List Int)} {k : Nat} (h : k < (colsL R).length) : ((colsL R).getD k []).length = R.length := by
  unfold colsL at h ⊢
  rw [List.getD_eq_getElem?_getD, List.getElem?_eq_getElem h, Option.getD_some, List.getElem_map]
  exact cols_row (colIds_lt (List.getElem_mem _))
theorem cols_mat {R : List (List Int)} (h1 : sqB R = true) (h2 : hasCyc (ent R) R.length = true) : isMat (colsL R) = (colsL R).all isVec := by
  obtain ⟨n1, n2, -⟩ := sq_sm h1
  have hp := crComps_pos h1 h2
  have hl := colsL_len R
  have hm := crComps_len R
  unfold isMat
  rw [decide_eq_true (show 1 ≤ (colsL R).length by omega), decide_eq_true (show (colsL R).length ≤ 10 by omega), Bool.true_and, Bool.true_and]
  have hw : wid (colsL R) = R.length := cols_at (k := 0) (by omega)
  rw [hw]
  apply Bool.eq_iff_iff.2
  rw [List.all_eq_true, List.all_eq_true]
  refine ⟨fun h x hx => ?_, fun h x hx => ?_⟩
  · have := h x hx; rw [Bool.and_eq_true] at this; exact this.1
  · rw [Bool.and_eq_true]
    refine ⟨h x hx, ?_⟩
    obtain ⟨k, hk, e⟩ := List.mem_iff_getElem.1 hx
    have := cols_at hk
    rw [List.getD_eq_getElem?_getD, List.getElem?_eq_getElem hk, Option.getD_some, e] at this
    exact decide_eq_true this
theorem col_at {R : List (List Int)} {n k : Nat} (hn : R.length = n) (hk : k < (crComps R).length) : ∃ c : Nat, c < n ∧ 1 ≤ ((crComps R).getD k []).length ∧ ((crComps R).getD k []).getD 0 0 = (c : Int) ∧ (colsL R).getD k [] = (stcM (crS R) n).getD c [] ∧ (colIds R).take (k + 1) = (colIds R).take k ++ [c] := by
  subst hn
  have hm : (crComps R).getD k [] ∈ crComps R := by rw [List.getD_eq_getElem?_getD, List.getElem?_eq_getElem hk]; exact List.getElem_mem hk
  have hg : (crComps R).getD k [] = (crComps R)[k] := by rw [List.getD_eq_getElem?_getD, List.getElem?_eq_getElem hk]; rfl
  have hi : k < (colIds R).length := by unfold colIds; simpa using hk
  have hc : (colIds R)[k] = vx ((crComps R).getD k []) 0 := by rw [hg]; exact List.getElem_map _
  refine ⟨vx ((crComps R).getD k []) 0, (comps_up _ _ _).2 _ (List.mem_filter.1 hm).1, ?_, ?_, ?_, ?_⟩
  · obtain ⟨v, hv, -, e⟩ := mem_compsP.1 (List.mem_filter.1 hm).1
    rw [e]; exact compL_pos hv
  · obtain ⟨v, hv, -, e⟩ := mem_compsP.1 (List.mem_filter.1 hm).1
    rw [e]
    have := (rep_t (A := ent (crM R)) hv).2.2
    exact this
  · rw [← hc]
    unfold colsL
    rw [List.getD_eq_getElem?_getD, List.getElem?_map, List.getElem?_eq_getElem hi]
    rfl
  · rw [← hc, List.take_add_one, List.getElem?_eq_getElem hi]
    rfl
theorem takeL_next {L : List (List Int)} {k : Nat} (h : k < L.length) : L.take (k + 1) = L.take k ++ [L.getD k []] := by
  rw [List.take_add_one, List.getElem?_eq_getElem h, List.getD_eq_getElem?_getD, List.getElem?_eq_getElem h]
  rfl
theorem all_take {L : List (List Int)} {k : Nat} (h : k < L.length) (hv : isVec (L.getD k []) = false) : L.all isVec = false := by
  apply Bool.eq_false_iff.2
  intro e
  have := List.all_eq_true.1 e (L.getD k []) (by rw [List.getD_eq_getElem?_getD, List.getElem?_eq_getElem h]; exact List.getElem_mem h)
  rw [hv] at this
  exact Bool.false_ne_true this
theorem all_take_next {L : List (List Int)} {k : Nat} (h : k < L.length) (hv : isVec (L.getD k []) = true) (ha : (L.take k).all isVec = true) : (L.take (k + 1)).all isVec = true := by
  rw [takeL_next h, List.all_append, ha, List.all_cons, hv]
  rfl
theorem colsRes_ok (R : List (List Int)) : okM (colsRes R).1 := by
  unfold colsRes
  by_cases h : crCode R = 0
  · rw [if_pos h]
    obtain ⟨h1, h2⟩ := cr_code h
    by_cases hv : (colsL R).all isVec = true
    · rw [if_pos hv]; right; rw [cols_mat h1 h2]; exact hv
    · rw [if_neg hv]; exact .inl rfl
  · rw [if_neg h]; exact .inl rfl
end M
end Go.Proofs.YtmhpgnndjagogaaGreat

namespace Go.Proofs.YtmhpgnndjagogaaGreat
namespace M
section
variable {f : Nat → Nat → Option Int} {n : Nat} (hd : ∀ m, m < n → ole (ofw f m m m) (some 0))
include hd
/-- A node on an arc whose best way back takes off what it weighs. -/
theorem col_o {t c : Nat} (hc : c < n) (ht : t < n) (h : omul (f t c) (obm f n n c t) = some 0) {i : Nat} (hi : i < n) : osum n (fun u => omul (f i u) (obm f n n u c)) = obm f n n i c := by
  rw [osum_plus hd hi hc]
  by_cases e : i = c
  · subst e
    rw [obm_self hd hi]
    refine ole_anti (ofw_diag f n hd i hi) ?_
    by_cases e2 : t = i
    · subst e2
      rw [obm_self hd ht, omul_zero] at h
      rw [← h]
      exact ofw_ge f n t t
    · rw [obm_other hd hi ht (fun q => e2 q.symm)] at h
      rw [← h, omul_comm]
      exact ole_trans (omul_mono (ole_rfl _) (ofw_ge f n t i)) (ofw_trans f n hd t ht i i)
  · rw [obm_other hd hi hc e]
end
theorem col_eig {R : List (List Int)} {c : Nat} (h1 : sqB R = true) (h2 : hasCyc (ent R) R.length = true) (hc : c < R.length) (hcr : crN R c = true) (hr : isRat (bestR (ent R) R.length).1 (bestR (ent R) R.length).2 = true) (hv : isVec ((stcM (crS R) R.length).getD c []) = true) :
    eigB R (bestR (ent R) R.length).1 (bestR (ent R) R.length).2 ((stcM (crS R) R.length).getD c []) = true := by
  obtain ⟨n1, n2, -⟩ := sq_sm h1
  obtain ⟨-, hS, hp⟩ := cr_t h1 h2
  have hd := o_diag n2 hS hp
  obtain ⟨t, ht, hct⟩ := List.any_eq_true.1 hcr
  have ht := List.mem_range.1 ht
  have h0 := (crB_o h1 h2 ht hc).1 hct
  have hl := cols_row hc
  have hx : ∀ i, i < R.length → ((stcM (crS R) R.length).getD c []).getD i 0 = starF (crS R) R.length i c := fun i hi => by
    show ent (stcM (crS R) R.length) c i = _
    unfold stcM
    rw [ent_mk _ _ _ _ _ hc hi, ent_mk _ _ _ _ _ hi hc]
  have ho : ∀ i, i < R.length → o (starF (crS R) R.length i c) = obm (fun i j => o (crS R i j)) R.length R.length i c := fun i hi => by
    unfold starF
    rw [← clo_star n2 hS hp hi hc, o_cbm hS R.length (by omega) i c hi hc]
  generalize hxx : (stcM (crS R) R.length).getD c [] = x at *
  have hok : cmpOk R (bestR (ent R) R.length).1 (bestR (ent R) R.length).2 x = true := by
    unfold cmpOk
    rw [h1, hr, hv, decide_eq_true hl]
    rfl
  have himg : imgL R (bestR (ent R) R.length).1 (bestR (ent R) R.length).2 x = x := by
    apply List.ext_getElem
    · rw [imgL_len, hl]
    · intro i k1 k2
      have hi : i < R.length := by rw [hl] at k2; exact k2
      have e1 := imgL_at hok hi
      rw [List.getD_eq_getElem?_getD, List.getElem?_eq_getElem k1, Option.getD_some] at e1
      have e2 := hx i hi
      rw [List.getD_eq_getElem?_getD, List.getElem?_eq_getElem k2, Option.getD_some] at e2
      rw [e1, e2]
      apply o_inj
      have hsm : ∀ j, j < R.length → Sm 12001012000000 (times (crS R i j) (x.getD j 0)) := fun j hj => by
        rw [hx j hj]
        have q1 := hS i j hi hj
        have q2 := star_sm n2 hS hp hj hc
        unfold times
        split
        · exact .inl rfl
        · next hne =>
          rcases q1 with q1 | q1
          · exact absurd (.inl q1) hne
          · rcases q2 with q2 | q2
            · exact absurd (.inr q2) hne
            · right; omega
      rw [ho i hi, ← col_o hd hc ht h0 hi]
      show o (sumN R.length fun j => times (crS R i j) (x.getD j 0)) = _
      rw [o_sum hsm (by omega)]
      refine osum_congr fun j hj => ?_
      rw [hx j hj, o_times (hS i j hi hj) (star_sm n2 hS hp hj hc) (by omega) (by omega), ho j hj]
  unfold eigB
  rw [himg, imgB_cmp, hok, decide_eq_true rfl, Bool.and_true, Bool.true_and]
  refine List.any_eq_true.2 ⟨x.getD c 0, ?_, ?_⟩
  · rw [List.getD_eq_getElem?_getD, List.getElem?_eq_getElem (by omega), Option.getD_some]; exact List.getElem_mem _
  · rw [hx c hc]; unfold starF; rw [if_pos rfl]; rfl
theorem cols_eig {R : List (List Int)} (h0 : crCode R = 0) (hv : (colsL R).all isVec = true) (hc : (cycMeanRes R).2 = 0) {k : Nat} (hk : k < (colsL R).length) : eigB R (cycMeanRes R).1.1 (cycMeanRes R).1.2 ((colsL R).getD k []) = true := by
  obtain ⟨h1, h2⟩ := cr_code h0
  obtain ⟨-, -, hr, he⟩ := cyc_t hc
  have hki : k < (colIds R).length := by unfold colsL at hk; simpa using hk
  have hm : (colsL R).getD k [] ∈ colsL R := by rw [List.getD_eq_getElem?_getD, List.getElem?_eq_getElem hk]; exact List.getElem_mem hk
  have hvk := List.all_eq_true.1 hv _ hm
  have hg : (colsL R).getD k [] = (stcM (crS R) R.length).getD (colIds R)[k] [] := by
    unfold colsL
    rw [List.getD_eq_getElem?_getD, List.getElem?_map, List.getElem?_eq_getElem hki]
    rfl
  have hci : (colIds R)[k] ∈ colIds R := List.getElem_mem hki
  have hlt := colIds_lt hci
  obtain ⟨l, hl, e⟩ := List.mem_map.1 hci
  have hcr : crN R (colIds R)[k] = true := by rw [← e]; exact (List.mem_filter.1 hl).2
  rw [he, hg]
  rw [hg] at hvk
  exact col_eig h1 h2 hlt hcr hr hvk
theorem cols_t {R : List (List Int)} (h : (colsRes R).2 = 0) : crCode R = 0 ∧ (colsL R).all isVec = true ∧ colsRes R = (colsL R, 0) ∧ compRes R = (crComps R, 0) ∧ (crComps R).length = (colsL R).length ∧ (colsL R).length ≤ 10 := by
  unfold colsRes at h ⊢
  by_cases h0 : crCode R = 0
  · rw [if_pos h0] at h ⊢
    by_cases hv : (colsL R).all isVec = true
    · rw [if_pos hv]
      obtain ⟨n1, n2, -⟩ := sq_sm (cr_code h0).1
      have := crComps_len R
      have := colsL_len R
      exact ⟨h0, hv, rfl, by unfold compRes; rw [if_pos h0], by omega, by omega⟩
    · rw [if_neg hv] at h; simp at h
  · rw [if_neg h0] at h; exact absurd h h0
end M
end Go.Proofs.YtmhpgnndjagogaaGreat

namespace Go.Proofs.YtmhpgnndjagogaaGreat.V
open Go.RowKit

set_option maxRecDepth 100000 in
set_option maxHeartbeats 1000000 in
theorem mul64 (n : Nat) (w : World) (h1 : 1 ≤ n) (h2 : n ≤ 12) : Calls Tryz.prog 208 #[.int .u64 1, .int .u64 n] w fun e w' => e = .returned (.tuple #[.int .u64 0, .int .u64 n]) ∧ w = w' := by
  have hn : n = 1 ∨ n = 2 ∨ n = 3 ∨ n = 4 ∨ n = 5 ∨ n = 6 ∨ n = 7 ∨ n = 8 ∨ n = 9 ∨ n = 10 ∨ n = 11 ∨ n = 12 := by omega
  clear h1 h2
  rcases hn with rfl | rfl | rfl | rfl | rfl | rfl | rfl | rfl | rfl | rfl | rfl | rfl
  all_goals
    go_enter Tryz.func208, Tryz.ntmps208
    go_wp2
    go_ret2
    exact ⟨rfl, rfl⟩

set_option maxRecDepth 100000 in
set_option maxHeartbeats 1000000 in
theorem mulU (n : Nat) (w : World) (h1 : 1 ≤ n) (h2 : n ≤ 12) : Calls Tryz.prog 204 #[.int .u64 1, .int .u64 n] w fun e w' => e = .returned (.tuple #[.int .u64 0, .int .u64 n]) ∧ w = w' := by
  go_enter Tryz.func204, Tryz.ntmps204
  go_wp2_with (first | (go_at_call 208; refine (mul64 _ _ h1 h2).mono ?_; rintro e w' ⟨rfl, rfl⟩))
  go_ret2
  exact ⟨rfl, rfl⟩

/-- A row of n integers of which the first k are x. -/
def repL (x : Int) (k n : Nat) : List Value := List.replicate k (.int .i64 x) ++ List.replicate (n - k) (.int .i64 0)
theorem repL_splice (x : Int) (k n m : Nat) (hk : k ≤ n) (hm : k + m ≤ n) : splice (repL x k n) k (List.replicate m (.int .i64 x)) = repL x (k + m) n := by
  unfold splice repL
  rw [List.take_left' (by simp), List.drop_append, List.length_replicate, List.length_replicate]
  have e1 : List.drop (k + m) (List.replicate k (Value.int IntKind.i64 x)) = [] := by simp
  rw [e1, List.nil_append, List.drop_replicate, ← List.append_assoc, List.replicate_append_replicate]
  congr 2
  omega
theorem repL_made (x : Int) (n : Nat) : (madeCells #[.int .i64 0] n) = (repL x 0 n).toArray := by
  apply Array.ext'
  rw [toList_madeCells_one]
  simp [repL]
theorem own_repL (w : World) (B g n : Nat) (x : Int) (hg : w.heap[g]? = some (.cells (repL x n n).toArray 2 (0, 0))) (hB : B ≤ g) (hn : n ≤ maxLen) : Own w B (.slice (some ⟨g, 0, none⟩) n n) ((List.range n).map fun _ => x) := by
  refine ⟨by simp, .inr ⟨g, n, _, by simp, hB, hg, by simp, hn, by simp [repL], ?_⟩⟩
  simp [repL]
  apply List.ext_getElem
  · simp
  · intro i h1 h2; simp

theorem one_cell {w : World} {a : Addr} {u : Value} (h : w.cell? a = some u) : ∀ j v, [u][j]? = some v → w.cell? (a.add j) = some v := by
  intro j v hj
  match j, hj with
  | 0, hj =>
    simp at hj
    subst hj
    simpa [Addr.add] using h
theorem one_one {x : Int} : ∀ v ∈ [Value.int IntKind.i64 x], v.oneCell' = true := by
  intro v hv; simp at hv; subst hv; rfl

theorem one_lit (w : World) (x : Int) : (w.alloc (.cells #[.int .i64 x] 2)).cell? ⟨w.heap.size, 0, none⟩ = some (.int .i64 x) := cell_one_new w (.int .i64 x) _ 0 _ rfl
theorem rep_one {x : Int} {m : Nat} : ∀ v ∈ List.replicate m (Value.int IntKind.i64 x), v.oneCell' = true := by
  intro v hv; rw [List.mem_replicate] at hv; rw [hv.2]; rfl
theorem rep_cells {w : World} {g k n m : Nat} {x : Int} {T : TypeId} (h : w.heap[g]? = some (.cells (repL x k n).toArray T (0, 0))) (hk : k ≤ n) (hm : m ≤ k) : ∀ j v, (List.replicate m (Value.int IntKind.i64 x))[j]? = some v → w.cell? ((⟨g, 0, none⟩ : Addr).add j) = some v := by
  intro j v hj
  rw [List.getElem?_replicate] at hj
  split at hj
  · next hlt =>
    injection hj with hj
    subst hj
    have e : (⟨g, 0, none⟩ : Addr).add j = ⟨g, j, none⟩ := by cases j <;> simp [Addr.add]
    rw [e]
    simp only [World.cell?, h]
    simp [repL, List.getElem?_append, show j < k by omega]
  · cases hj

set_option maxRecDepth 100000 in
set_option maxHeartbeats 1000000 in
theorem repeat1 (g n cap : Nat) (x : Int) (w : World) (h1 : 1 ≤ n) (h2 : n ≤ 12) (hc : w.cell? ⟨g, 0, none⟩ = some (.int .i64 x)) (hg : g < w.heap.size) :
    Calls Tryz.prog 195 #[.slice (some ⟨g, 0, none⟩) 1 cap, .int .i64 n] w fun e w' => e = .returned (.slice (some ⟨w.heap.size, 0, none⟩) n n) ∧ Own w' w.heap.size (.slice (some ⟨w.heap.size, 0, none⟩) n n) ((List.range n).map fun _ => x) ∧ Below w.heap.size w w' := by
  have hmk := run_make_row' (P := Tryz.prog) 28 2 (.int .i64 0) 8 Tryz.underlying28 info64 rfl .i64 .i64 n (by omega) (by omega)
  have HC := Lib.hid hc
  have hsz : (Tryz.prog.info? 2).map (·.size) = some 1 := by kernel_rfl
  have HS := Lib.hid hsz
  clear hc hsz
  go_enter Tryz.func195, Tryz.ntmps195
  go_wp2_with fail
  refine (mulU n _ h1 h2).mono ?_
  rintro e w' ⟨rfl, rfl⟩
  have hW1 : Hid ((w.alloc (.cells (madeCells #[.int .i64 0] n) 2)).heap[w.heap.size]? = some (.cells (repL x 0 n).toArray 2 (0, 0))) := by
    show _ = _
    rw [repL_made x n]
    show (w.heap.push _)[w.heap.size]? = _
    simp
  have hcell : Hid ((w.alloc (.cells (madeCells #[.int .i64 0] n) 2)).cell? ⟨g, 0, none⟩ = some (.int .i64 x)) := by
    show _ = _
    rw [(b_alloc w _).cell (p := ⟨g, 0, none⟩) hg]; exact HC.out
  go_wp2_with (with_reducible refine wpList_copy_splice rfl (.tmp 31) (.tmp 32) 28 28 rfl 2 Tryz.underlying28 HS.out (some ⟨w.heap.size, 0, none⟩) (some ⟨g, 0, none⟩) n n 1 cap rfl rfl w.heap.size 0 (repL x 0 n) 2 hW1.out [.int .i64 x] ?hn ?hpos ?hfit ?hone w.heap.size w (b_alloc w _) (Nat.le_refl _) ?_)
  case hn => exact (Nat.min_eq_left h1).symm
  case hpos =>
    intro j v hj
    match j, hj with
    | 0, hj =>
      simp at hj
      subst hj
      exact HC.out
  case hfit => simp [repL]; omega
  case hone => exact one_one
  intro w1 hg1 hb1
  have HG1 : Hid (w1.heap[w.heap.size]? = some (.cells (repL x 1 n).toArray 2 (0, 0))) := by
    have := hg1.out
    rw [show [Value.int .i64 x] = List.replicate 1 (.int .i64 x) from rfl, repL_splice x 0 n 1 (by omega) (by omega)] at this
    exact this
  have HB1 := Lib.hid hb1
  clear hg1 hb1 hW1 hcell
  go_wp2
  go_loopw [8] (fun i wr => ∃ k : Nat, 1 ≤ k ∧ k ≤ n ∧ i = .int .i64 k ∧ Hid (wr.heap[w.heap.size]? = some (.cells (repL x k n).toArray 2 (0, 0))) ∧ Below w.heap.size w wr) (fun i _ => n - (intOf i).toNat)
  case atStart => exact ⟨1, Nat.le_refl _, h1, rfl, HG1, HB1.out⟩
  case round =>
    obtain ⟨k, hk1, hk, rfl, HG, hb⟩ := hrel
    have HB := Lib.hid hb
    clear hb
    by_cases hlt : k < n
    · have hne : ¬ n = k := by omega
      have hki : (k : Int) < (n : Int) := by omega
      have hkn : k ≤ n := by omega
      go_wp2
      obtain ⟨m, hm⟩ : ∃ m, m = min k (n - k) := ⟨_, rfl⟩
      have hm1 : 1 ≤ m := by omega
      have hm2 : m ≤ k := by omega
      have hm3 : k + m ≤ n := by omega
      have HM := Lib.hid (rep_cells (x := x) HG.out hkn hm2)
      have HMm := Lib.hid hm
      have HN := Lib.hid (repL_splice x k n m hkn hm3)
      clear hm
      have hw : IntKind.i64.wrap ((k : Int) + (m : Int)) = (k : Int) + (m : Int) := IntWalk.i64_in _ (by omega)
      go_region_law (refine step_copy_splice rfl (.tmp 41) (.tmp 44) 28 28 rfl 2 Tryz.underlying28 HS.out (some ⟨w.heap.size, k, none⟩) (some ⟨w.heap.size, 0, none⟩) (n - k) (n - k) k n (by go_simp) (by go_simp) w.heap.size k (repL x k n) 2 HG.out (List.replicate m (.int .i64 x)) (by rw [List.length_replicate]; exact HMm.out) (fun _ => ⟨rfl, _, rfl, HM.out⟩) (by simp [repL]; omega) rep_one w.heap.size w HB.out.drew (Nat.le_refl _) ?_; intro w4 hg4 hb4)
      have HG4 : Hid (w4.heap[w.heap.size]? = some (.cells (repL x (k + m) n).toArray 2 (0, 0))) := by
        have := hg4.out
        rw [HN.out] at this
        exact this
      have HB4 := Lib.hid hb4
      clear hg4 hb4 hw
      go_simp
      go_wp2
      go_roundw
      case rel => exact ⟨k + m, by omega, by omega, vi (by omega), HG4, HB4.out⟩
      case measure => simp [intOf]; omega
    · obtain rfl : k = n := by omega
      go_wp2
      go_ret
      exact ⟨rfl, own_repL _ _ _ _ _ HG.out (Nat.le_refl _) (by unfold maxLen; omega), HB.out⟩
set_option maxRecDepth 100000 in
set_option maxHeartbeats 1000000 in
theorem mul64_0 (w : World) : Calls Tryz.prog 208 #[.int .u64 1, .int .u64 0] w fun e w' => e = .returned (.tuple #[.int .u64 0, .int .u64 0]) ∧ w = w' := by
  go_enter Tryz.func208, Tryz.ntmps208
  go_wp2
  go_ret2
  exact ⟨rfl, rfl⟩
set_option maxRecDepth 100000 in
set_option maxHeartbeats 1000000 in
theorem mulU_0 (w : World) : Calls Tryz.prog 204 #[.int .u64 1, .int .u64 0] w fun e w' => e = .returned (.tuple #[.int .u64 0, .int .u64 0]) ∧ w = w' := by
  go_enter Tryz.func204, Tryz.ntmps204
  go_wp2_with (first | (go_at_call 208; refine (mul64_0 _).mono ?_; rintro e w' ⟨rfl, rfl⟩))
  go_ret2
  exact ⟨rfl, rfl⟩
set_option maxRecDepth 100000 in
set_option maxHeartbeats 1000000 in
theorem repeat0 (g cap : Nat) (x : Int) (w : World) (hc : w.cell? ⟨g, 0, none⟩ = some (.int .i64 x)) :
    Calls Tryz.prog 195 #[.slice (some ⟨g, 0, none⟩) 1 cap, .int .i64 0] w fun e w' => e = .returned (.slice (some ⟨w.heap.size, 0, none⟩) 0 0) ∧ Own w' w.heap.size (.slice (some ⟨w.heap.size, 0, none⟩) 0 0) [] ∧ Below w.heap.size w w' := by
  have hmk : ∀ w : World, Sem.run Tryz.prog (Instr.makeSlice 28 (.int .i64 0) (.int .i64 0)) w = .ok (.slice (some ⟨w.heap.size, 0, none⟩) 0 0) (w.alloc (.cells (madeCells #[.int .i64 0] 0) 2)) := run_make_row' (P := Tryz.prog) 28 2 (.int .i64 0) 8 Tryz.underlying28 info64 rfl .i64 .i64 0 (by omega) (by omega)
  have hsz : (Tryz.prog.info? 2).map (·.size) = some 1 := by kernel_rfl
  have HS := Lib.hid hsz
  have HC := Lib.hid hc
  clear hc hsz
  go_enter Tryz.func195, Tryz.ntmps195
  go_wp2_with fail
  refine (mulU_0 _).mono ?_
  rintro e w' ⟨rfl, rfl⟩
  have hW1 : Hid ((w.alloc (.cells (madeCells #[.int .i64 0] 0) 2)).heap[w.heap.size]? = some (.cells (repL x 0 0).toArray 2 (0, 0))) := by
    show _ = _
    rw [repL_made x 0]
    show (w.heap.push _)[w.heap.size]? = _
    simp
  go_wp2_with (with_reducible refine wpList_copy_splice rfl (.tmp 31) (.tmp 32) 28 28 rfl 2 Tryz.underlying28 HS.out (some ⟨w.heap.size, 0, none⟩) (some ⟨g, 0, none⟩) 0 0 1 cap rfl rfl w.heap.size 0 (repL x 0 0) 2 hW1.out [] ?hn ?hpos ?hfit ?hone w.heap.size w (b_alloc w _) (Nat.le_refl _) ?_)
  case hn => rfl
  case hfit => simp [repL]
  case hone => intro v hv; simp at hv
  intro w1 hg1 hb1
  have HG1 : Hid (w1.heap[w.heap.size]? = some (.cells (repL x 0 0).toArray 2 (0, 0))) := by
    have := hg1.out
    exact this
  have HB1 := Lib.hid hb1
  clear hg1 hb1 hW1
  go_wp2
  go_loopw [8] (fun i wr => i = .int .i64 0 ∧ wr = w1) (fun _ _ => 0)
  case atStart => exact ⟨rfl, rfl⟩
  case round =>
    obtain ⟨rfl, rfl⟩ := hrel
    go_wp2
    go_ret
    exact ⟨rfl, own_repL _ _ _ 0 x HG1.out (Nat.le_refl _) (by unfold maxLen; omega), HB1.out⟩
end Go.Proofs.YtmhpgnndjagogaaGreat.V
