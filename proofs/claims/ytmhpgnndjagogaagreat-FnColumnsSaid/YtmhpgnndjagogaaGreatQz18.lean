/- Texts laid together: IBot, Hv1, Clm, Dlf, Arc, Cpr. -/
import Derived.Test.YtmhpgnndjagogaaGreatRows
import Derived.Test.YtmhpgnndjagogaaGreatQz1
import Derived.Test.YtmhpgnndjagogaaGreatQz2
import Derived.WalkKit
import Derived.ProofKit
import Derived.WalkSmall
import Derived.Deep.QuietTactic
import Derived.BigQuiet
import Derived.BigRegion
import Derived.Deep.Draws
import Derived.Lib.Hide
import Derived.OpenShut
import Derived.Deep.OwnRows
import Derived.Test.YtmhpgnndjagogaaGreatQz17
import Derived.Test.YtmhpgnndjagogaaGreatQz16
import Derived.Test.YtmhpgnndjagogaaGreatQz9
import Derived.Test.YtmhpgnndjagogaaGreatQz3
import Derived.Test.YtmhpgnndjagogaaGreatQz4
import Derived.Test.YtmhpgnndjagogaaGreatQz6
import Derived.Test.YtmhpgnndjagogaaGreatQz11
import Derived.Test.YtmhpgnndjagogaaGreatQz14
import Derived.Lib.SliceRun
import Derived.Laws.IdiomCopy
import Derived.Test.YtmhpgnndjagogaaGreatQz15
import Derived.Maps.RangeWalk
import Derived.DeepKeys4
import Derived.Test.YtmhpgnndjagogaaGreatQz12
set_option linter.unusedSimpArgs false
set_option linter.unusedVariables false
set_option linter.unusedSectionVars false
namespace Go.Proofs.YtmhpgnndjagogaaGreat.V
open Go.RowKit

set_option maxRecDepth 100000 in
set_option maxHeartbeats 1000000 in
theorem filled (m n : Nat) (x : Int) (w : World) (m1 : 1 ≤ m) (hm : m ≤ 10) (n1 : 1 ≤ n) (hn : n ≤ 10) :
    Calls Tryz.prog 177 #[.int .i64 m, .int .i64 n, .int .i64 x] w (MPost m (M.mk m n fun _ _ => x) w) := by
  have hmk := run_make_row' (P := Tryz.prog) 24 28 (.slice none 0 0) 24 Tryz.underlying24 infoS64 rfl .i64 .i64 m (by omega) (by omega)
  have hO0 : Hid (OwnM (w.alloc (.cells (madeCells #[.slice none 0 0] m) 28)) w.heap.size (.slice (some ⟨w.heap.size, 0, none⟩) m m) (List.replicate m [])) := ownM_made w _ m (Nat.le_refl _) (by unfold maxLen; omega)
  go_enter Tryz.func177, Tryz.ntmps177
  go_wp2
  clear hmk
  go_loopw [8, 13] (fun _ i wr => ∃ k : Nat, k ≤ m ∧ i = .int .i64 k ∧ OwnM wr w.heap.size (.slice (some ⟨w.heap.size, 0, none⟩) m m) ((List.range m).map fun j => if j < k then (List.range n).map (fun _ => x) else []) ∧ Below w.heap.size w wr) (fun _ i _ => m - (intOf i).toNat)
  case atStart =>
    refine ⟨0, Nat.zero_le _, rfl, (congrArg (OwnM _ _ _) ?_).mp hO0.out, b_alloc _ _⟩
    apply List.ext_getElem
    · simp
    · intro i h1 h2; simp
  case round =>
    obtain ⟨k, hk, rfl, hO, hb⟩ := hrel
    have HO := Lib.hid hO
    have HB := Lib.hid hb
    clear hO hb hO0
    by_cases hlt : k < m
    · have hki : (k : Int) < (m : Int) := by omega
      have hg := HO.out.lt rfl
      have hlit := one_lit wr x
      go_wp2_with fail
      refine (repeat1 wr.heap.size n 1 x _ n1 (by omega) hlit (by simp)).mono ?_
      rintro e w1 ⟨rfl, ho1, hb1⟩
      have hb1' : Below wr.heap.size wr w1 := (b_alloc wr _).trans (hb1.mono (by simp))
      rw [show (wr.alloc (.cells #[.int .i64 x] 2)).heap.size = wr.heap.size + 1 by simp] at ho1
      have ho1' := ho1.mono (Nat.le_succ _)
      have hst : ∃ v, w1.cell? ⟨w.heap.size, k, none⟩ = some v := by
        obtain ⟨v, hv⟩ := HO.out.outer k hlt
        exact ⟨v, by rw [hb1'.cell (p := ⟨w.heap.size, k, none⟩) hg]; exact hv⟩
      obtain ⟨v, hst⟩ := hst
      have hfz : w1.frozen? ⟨w.heap.size, k, none⟩ = false := by rw [hb1'.frozen (p := ⟨w.heap.size, k, none⟩) hg]; exact HO.out.outerFz k
      have HN := Lib.hid (HO.out.setRow hb1' HB.out.size ho1' k hlt)
      have HB1 := Lib.hid (bnext HB.out hb1')
      clear ho1 hb1 hg hlit hb1' ho1'
      go_wp2
      go_roundw
      case rel =>
        refine ⟨k + 1, by omega, by go_num, ?_, HB1.out.setCell (Nat.le_refl _) _⟩
        refine (congrArg (OwnM _ _ _) ?_).mp HN.out
        apply List.ext_getElem
        · simp
        · intro j h1 h2
          simp only [List.length_map, List.length_range] at h2
          rw [List.getElem_set]
          simp only [List.getElem_map, List.getElem_range]
          by_cases e : k = j
          · subst e; rw [if_pos rfl, if_pos (by omega)]
          · rw [if_neg e]
            by_cases e2 : j < k
            · rw [if_pos e2, if_pos (by omega)]
            · rw [if_neg e2, if_neg (by omega)]
      case measure => simp [intOf]; omega
    · have hkn : k = m := by omega
      subst hkn
      go_wp2
      go_ret
      refine ⟨_, _, rfl, (congrArg (OwnM _ _ _) ?_).mp HO.out, HB.out⟩
      unfold M.mk
      exact List.map_congr_left fun j hj => by rw [if_pos (List.mem_range.1 hj)]

end Go.Proofs.YtmhpgnndjagogaaGreat.V

namespace Go.Proofs.YtmhpgnndjagogaaGreat.V
open Go.RowKit

theorem OwnM.caps {w : World} {B n cap : Nat} {a : Option Addr} {R : List (List Int)} (h : OwnM w B (.slice a n cap) R) : n ≤ cap ∧ cap ≤ maxLen := by
  obtain ⟨V, h1, h2, _⟩ := h
  obtain ⟨a', c', hv, k1, k2, _⟩ := own_form h2
  injection hv with e1 e2 e3
  subst e2 e3
  exact ⟨k1, k2⟩
/-- One row of an owned matrix, as a list of its own. -/
theorem OwnM.row {w : World} {B n cap : Nat} {a : Option Addr} {R : List (List Int)} (h : OwnM w B (.slice a n cap) R) (i : Nat) (hi : i < n) :
    ∃ g ra rc, a = some ⟨g, 0, none⟩ ∧ w.cell? ⟨g, i, none⟩ = some (.slice ra (R.getD i []).length rc) ∧ Own w B (.slice ra (R.getD i []).length rc) (R.getD i []) := by
  have hl := h.len
  obtain ⟨V, h1, h2, h3, h4, h5⟩ := h
  obtain ⟨a', c', hv, hc, hm, hg⟩ := own_form h2
  injection hv with e1 e2 e3
  subst e1 e2 e3
  obtain ⟨g, rfl, hB, hlt⟩ := hg (by omega)
  have hr := h3 i (by omega)
  obtain ⟨ra, rc, hrv, _⟩ := own_form hr
  rw [hrv] at hr
  refine ⟨g, ra, rc, rfl, ?_, hr⟩
  rw [World.ownsRow.cellAt h2 i (by omega), ← hrv]
  simp [show i < V.length by omega]
theorem ownM_lit1 (w : World) (B : Nat) (hB : B ≤ w.heap.size) {rv : Value} {l : List Int} (ho : Own w B rv l) : OwnM (w.alloc (.cells #[rv] 28)) B (.slice (some ⟨w.heap.size, 0, none⟩) 1 1) [l] := by
  refine ⟨[rv], rfl, World.ownsRow_lit w #[rv] 1 hB (by decide) rfl, fun i hi => ?_, fun i hi k hk => ?_, fun i j hi hj hne => ?_⟩
  · obtain rfl : i = 0 := by simp at hi; omega
    exact ho.below (b_alloc w _)
  · obtain rfl : i = 0 := by simp at hi; omega
    have := (own_lt ho hk).2
    intro e
    simp only [Value.ownBlock, Option.some.injEq] at e
    omega
  · simp at hi hj; omega
/-- A part of one row. -/
theorem mat_sub {w : World} {b off n : Nat} {R : List (List Int)} (h : Mat w (some ⟨b, off, none⟩) n R) (k : Nat) (hk : k < n) : Mat w (some ⟨b, off + k, none⟩) 1 [R.getD k []] := by
  obtain ⟨h1, h2, h3⟩ := h
  refine ⟨rfl, by decide, .inr ?_⟩
  rcases h3 with h3 | ⟨b', off', e, hlt, hc⟩
  · omega
  · injection e with e
    injection e with e1 e2
    subst e1 e2
    refine ⟨b, off + k, rfl, hlt, fun i hi => ?_⟩
    obtain rfl : i = 0 := by omega
    obtain ⟨ra, rc, hr, hI⟩ := hc k hk
    exact ⟨ra, rc, hr, hI⟩
/-- The weights to a node, one row for each number of arcs. -/
def M.wtM (A : Nat → Nat → Int) (n t k : Nat) : List (List Int) := M.mk k n fun s j => M.cpw A n s t j
theorem M.wt_row (A : Nat → Nat → Int) (n t k s : Nat) (h : s < k) : (M.wtM A n t k).getD s [] = (List.range n).map fun j => M.cpw A n s t j := M.mk_row _ _ _ _ h
theorem M.wt_next (R : List (List Int)) (n t s : Nat) : (M.mk 1 n (fun i j => M.dot [(List.range n).map fun j => M.cpw (M.ent R) n s t j] R i j n)).getD 0 [] = (List.range n).map fun j => M.cpw (M.ent R) n (s + 1) t j := by
  rw [M.mk_row _ _ _ _ (by omega)]
  refine List.map_congr_left fun j _ => ?_
  unfold M.dot
  refine M.sumN_congr fun u hu => ?_
  congr 1
  unfold M.ent
  simp [hu]


end Go.Proofs.YtmhpgnndjagogaaGreat.V

namespace Go.Proofs.YtmhpgnndjagogaaGreat
namespace V
set_option maxRecDepth 100000
open Go.RowKit
set_option maxRecDepth 100000 in
set_option maxHeartbeats 4000000 in
theorem sEigenColumns (a : Option Addr) (n cap : Nat) (R : List (List Int)) (w : World) (h : Mat w a n R) :
    Calls Tryz.prog 43 #[.slice a n cap] w (MRes (M.colsRes R) w) := by
  have HA := Lib.hid h
  by_cases hk : M.crCode R = 0
  · obtain ⟨hs, hc⟩ := M.cr_code hk
    have hRn : R.length = n := h.1
    have HRn := Lib.hid hRn
    have HS := Lib.hid hs
    have HCy := Lib.hid hc
    have HK := Lib.hid hk
    have HE : Hid (M.colsRes R = if (M.colsL R).all M.isVec then (M.colsL R, 0) else ([], 3)) := by show _ = _; unfold M.colsRes; rw [if_pos hk]
    obtain ⟨hr, n1, n2, hsm⟩ := sq_parts h hs
    have HR := Lib.hid hr
    have HSm := Lib.hid hsm
    obtain ⟨hnear, hshm, hp⟩ := M.cr_t hs hc
    have hbc := M.best_cyc hs hc
    have hC : M.mean2 R (M.best2 R) = (M.bestR (M.ent R) n, true) := by
      unfold M.best2
      rw [hc, if_pos rfl]
      unfold M.mean2
      rw [if_pos hbc.1, hbc.2.1, hRn]
    have hS : M.crS R = M.shf (M.ent R) (M.bestR (M.ent R) n).1 (M.bestR (M.ent R) n).2 := by
      funext i j; unfold M.crS; rw [hRn]
    have HCol := Lib.hid (fun k (hk : k < (M.crComps R).length) => M.col_at hRn hk)
    have HCl := Lib.hid (M.colsL_len R)
    have HCm : Hid ((M.crComps R).length ≤ n) := by show _; rw [← hRn]; exact M.crComps_len R
    have HCa : Hid (∀ k, k < (M.colsL R).length → ((M.colsL R).getD k []).length = n) := fun k hk => by rw [← hRn]; exact M.cols_at hk
    rw [hRn] at hc hnear hp hshm
    obtain ⟨r, hrr⟩ : ∃ r, r = M.bestR (M.ent R) n := ⟨_, rfl⟩
    rw [← hrr] at hnear hS hC
    have HC := Lib.hid hC
    have HSe := Lib.hid hS
    have HNear := Lib.hid hnear
    have HP := Lib.hid hp
    have HSh := Lib.hid hshm
    obtain ⟨r1, r2⟩ := r
    clear h hk hs hr hsm hc hnear hp hrr hS hRn hshm hC hbc
    go_enter Tryz.func43, Tryz.ntmps43
    go_wp2_with fail
    refine (sCode _ _ _ R _ HA.out).mono ?_
    rintro e w0 ⟨rfl, hb⟩
    rw [HK.out]
    have HB0 := Lib.hid hb
    clear hb
    go_wp2_with fail
    refine (sBest _ _ _ R _ (HA.out.below HB0.out) HS.out).mono ?_
    rintro e w1 ⟨b1, m1, c1, rfl, ho, hb⟩
    have HO1 := Lib.hid ho
    have HB1 := Lib.hid (HB0.out.trans (hb.mono HB0.out.size))
    have HCp := Lib.hid (own_caps ho)
    clear ho hb
    go_wp2_with fail
    refine (sMean _ _ _ R _ _ _ (M.best2 R) _ (HA.out.below HB1.out) HS.out HO1.out.ints' HCp.out.1 HCp.out.2).mono ?_
    rintro e w2 ⟨rfl, hb⟩
    rw [HC.out]
    have HB2 := Lib.hid (HB1.out.trans (hb.mono HB1.out.size))
    clear hb HO1 HCp
    obtain ⟨wb, hwb⟩ : ∃ x, x = w2.alloc (rbox r1 r2) := ⟨_, rfl⟩
    have HX : Hid (Boxed w2 wb r1 r2) := by show Boxed _ _ _ _; rw [hwb]; exact boxed _ _ _
    have HBx := Lib.hid (HB2.out.trans (HX.out.below.mono HB2.out.size))
    go_wp2_with fail
    change Calls _ _ _ (w2.alloc (rbox r1 r2)) _
    rw [← hwb]
    clear hwb
    refine (sShift _ _ _ R r1 r2 _ (HA.out.below HBx.out) HR.out n1 n2 HSm.out HNear.out).mono ?_
    rintro e w3 ⟨b3, c3, rfl, ho, hb⟩
    rw [← HSe.out] at ho
    have HSq3 : Hid (Sq w3 b3 n (M.mk n n (M.crS R))) := ⟨ho.mat, rect_mk _ _ _, fun i j hi hj => by rw [M.ent_mk _ _ _ _ _ hi hj]; exact HSh.out i j hi hj, n1, n2⟩
    have HB3 := Lib.hid (HBx.out.trans (hb.mono HBx.out.size))
    clear ho hb
    go_wp2_with fail
    refine (sStar _ _ _ (M.mk n n (M.crS R)) _ HSq3.out).mono ?_
    rintro e w4 ⟨b4, c4, rfl, ho, hb⟩
    have hnp : M.noPos (M.ent (M.mk n n (M.crS R))) n = true := by rw [M.noPos_mk]; exact HP.out
    rw [M.bm_star n2 HSq3.out.2.2.1 hnp, M.starM_mk] at ho
    rw [hnp]
    have HO4 := Lib.hid ho.mat
    have HB4 := Lib.hid (HB3.out.trans (hb.mono HB3.out.size))
    clear ho hb hnp HSq3
    go_wp2_with fail
    refine (sTurn _ _ _ n (M.mk n n (M.starF (M.crS R) n)) _ HO4.out (rect_mk _ _ _) n1 n2 n1 n2).mono ?_
    rintro e w5 ⟨b5, c5, rfl, ho, hb⟩
    obtain ⟨g5, ra5, rc5, rfl, -⟩ := ho.row 0 (by omega)
    have HT5 : Hid (OwnM w5 w4.heap.size (.slice (some ⟨g5, 0, none⟩) n c5) (M.stcM (M.crS R) n)) := ho
    have HB5 := Lib.hid (HB4.out.trans (hb.mono HB4.out.size))
    clear ho hb HO4
    go_wp2_with fail
    refine (sComponents6 _ _ _ R _ (HA.out.below HB5.out) HS.out HCy.out).mono ?_
    rintro e w6 ⟨b6, m6, c6, rfl, ho, hb⟩
    have hm6 := ho.len
    have HL6 := Lib.hid ho.mat
    have HT6 := Lib.hid (HT5.out.below hb)
    have HB6 := Lib.hid (HB5.out.trans (hb.mono HB5.out.size))
    have hcl := HCl.out
    have hcm := HCm.out
    clear ho hb HT5
    rw [← hm6] at hcl hcm
    generalize M.stcM (M.crS R) n = T at *
    generalize M.crComps R = LC at *
    generalize hLn : M.colsL R = LN at *
    clear hLn
    go_wp2
    go_loopw [13, 14, 15] (fun o kv _ wr => ∃ (k : Nat) (b : Option Addr) (c : Nat), k ≤ m6 ∧ kv = .int .i64 k ∧ o = .slice b k c ∧ Hid (OwnM wr w6.heap.size (.slice b k c) (LN.take k)) ∧ Hid ((LN.take k).all M.isVec = true) ∧ Hid (Below w6.heap.size w6 wr)) (fun _ kv _ _ => m6 - (intOf kv).toNat)
    case atStart => exact ⟨0, _, _, Nat.zero_le _, rfl, rfl, ownM_lit0 _ _ (Nat.le_refl _), rfl, b_alloc _ _⟩
    case round =>
      obtain ⟨k, b, c, hk, rfl, rfl, HO, HAl, HB⟩ := hrel
      obtain ⟨wo, rfl⟩ : ∃ x, x = wr := ⟨_, rfl⟩
      by_cases hkl : k < m6
      · have hki : (k : Int) < (m6 : Int) := by omega
        obtain ⟨cc, hcc, hlen, hfst, hrow, -⟩ := HCol.out k (by omega)
        obtain ⟨gb, go_, rb, ro, L7, rc7, x7, hb6, hL7, hx7, q1, q2⟩ := (HL6.out.below HB.out).ent k 0 hkl (by omega)
        subst hb6
        rw [Nat.add_zero] at q2
        have hx8 : x7 = (cc : Int) := by rw [hx7]; exact hfst
        subst hx8
        obtain ⟨g7, ra7, rc8, hgg, hcr, hro⟩ := (HT6.out.below HB.out).row cc hcc
        injection hgg with hgg
        injection hgg with hgg
        subst hgg
        have hrl : (T.getD cc []).length = n := by rw [← hrow]; exact HCa.out k (by omega)
        rw [hrl] at hcr hro
        rw [← hrow] at hro
        have hci : (cc : Int) < (n : Int) := by omega
        have hL0 : (0 : Int) < (L7 : Int) := by omega
        have hnx := M.takeL_next (L := LN) (k := k) (by omega)
        have HNx := Lib.hid hnx
        have hnl : (LN.take k).length = k := by rw [List.length_take]; omega
        have HIx := Lib.hid hro.ints'
        obtain ⟨bv, hbv⟩ : ∃ b, b = M.isVec (LN.getD k []) := ⟨_, rfl⟩
        have HV := Lib.hid hbv.symm
        clear hx7 hfst hL7 hrow hrl hro hnx hbv hlen
        cases bv with
        | false =>
          have HF := Lib.hid (M.all_take (L := LN) (k := k) (by omega) HV.out)
          go_wp2_with (go_at_call 99; refine (sVector_b _ _ _ (LN.getD k []) _ false HV.out HIx.out).mono ?_; rintro e w' ⟨rfl, rfl⟩)
          go_ret2
          exact MRes.nil (by rw [HE.out, HF.out]; rfl) (HB6.out.trans (HB.out.mono HB6.out.size))
        | true =>
          have HF := Lib.hid (M.all_take_next (L := LN) (k := k) (by omega) HV.out HAl.out)
          go_wp2_with (first | (go_at_call 99; refine (sVector_b _ _ _ (LN.getD k []) _ true HV.out HIx.out).mono ?_; rintro e w' ⟨rfl, rfl⟩) | (go_at_call 100; refine (sOwn _ _ _ (LN.getD k []) _ HIx.out (by omega) (by omega)).mono ?_; rintro e w7 ⟨b7, c7, rfl, ho7, hb7⟩; have HO7 := Lib.hid ho7; have HB7 := Lib.hid hb7; clear ho7 hb7) | (at_builtin; refine appendRow wo _ rfl (.tmp 62) (.tmp 65) rfl w6.heap.size _ _ (LN.take k) (LN.getD k []) _ hnl rfl HO.out HB7.out HO7.out rfl (by omega) HB.out.size ?_))
          intro b4 c4 w8 hO4 hb4 _
          have HO8 := Lib.hid hO4
          have HB8 := Lib.hid ((HB.out.trans (HB7.out.mono HB.out.size)).trans hb4)
          clear hO4 hb4
          go_wp2
          go_roundw
          case rel => exact ⟨k + 1, b4, c4, by omega, by go_num, rfl, by first | exact HO8.out | (show OwnM _ _ _ _; rw [HNx.out]; exact HO8.out), HF, HB8⟩
          case measure => simp [intOf]; omega
      · obtain rfl : k = m6 := by omega
        have hta : LN.take k = LN := List.take_of_length_le (by omega)
        have HF : Hid (LN.all M.isVec = true) := by show _ = _; rw [← hta]; exact HAl.out
        have HOf : Hid (OwnM wo w6.heap.size (.slice b k c) LN) := by show OwnM _ _ _ _; have := HO.out; rw [hta] at this; exact this
        clear hta
        go_wp2
        go_ret2
        rw [HE.out, HF.out]
        exact ⟨_, _, _, rfl, HOf.out.mono HB6.out.size, HB6.out.trans (HB.out.mono HB6.out.size)⟩
  · obtain ⟨k, hkk⟩ : ∃ k, k = M.crCode R := ⟨_, rfl⟩
    have HE : Hid (M.colsRes R = ([], k)) := by show _ = _; unfold M.colsRes; rw [if_neg hk, hkk]
    have HK := Lib.hid hkk
    have hk0 : (k != 0) = true := by rw [hkk]; simpa using hk
    clear h hk hkk
    go_enter Tryz.func43, Tryz.ntmps43
    go_wp2_with fail
    refine (sCode _ _ _ R _ HA.out).mono ?_
    rintro e w1 ⟨rfl, hb⟩
    rw [← HK.out]
    have HB := Lib.hid hb
    clear hb
    go_wp2
    go_ret2
    exact MRes.nil HE.out HB.out
end V
end Go.Proofs.YtmhpgnndjagogaaGreat

namespace Go.Proofs.YtmhpgnndjagogaaGreat
namespace M
def kept (p : Nat → Bool) (k : Nat) : List Nat := (List.range k).filter p
theorem kept_next (p : Nat → Bool) (k : Nat) : kept p (k + 1) = kept p k ++ (if p k then [k] else []) := by
  unfold kept
  rw [List.range_succ, List.filter_append]
  congr 1
  by_cases h : p k = true
  · rw [if_pos h]; simp [h]
  · rw [if_neg h]; simp [h]
theorem kept_len (p : Nat → Bool) (k : Nat) : (kept p k).length ≤ k := by
  unfold kept
  exact Nat.le_trans (List.length_filter_le _ _) (by simp)
theorem kept_all {p : Nat → Bool} {k : Nat} (h : ∀ x, x < k → p x = true) : kept p k = List.range k := by
  unfold kept
  exact List.filter_eq_self.2 fun x hx => h x (List.mem_range.1 hx)
end M
namespace V
set_option maxRecDepth 100000
open Go.RowKit
theorem Chg.drewN {S : Nat → Prop} {a b : World} (h : Chg S a b) (q : Nat) : Chg S a (b.drewN q) := ⟨h.os, h.tape, h.output, h.size, h.other⟩
theorem ownsRow_drewN {w : World} {B : Nat} {e : TypeId} {s n : Nat} {v : Value} {xs : List Value} (h : w.ownsRow B e s v n xs) (q : Nat) : (w.drewN q).ownsRow B e s v n xs := h
theorem ownsRow_cells {B : Nat} {e : TypeId} {g N c : Nat} : ∀ (vs : List Value) (o : Nat) (W : World) (VV : List Value), W.ownsRow B e 1 (.slice (some ⟨g, 0, none⟩) N c) N VV → 
    ∃ VV', (W.setCells g o vs).ownsRow B e 1 (.slice (some ⟨g, 0, none⟩) N c) N VV' ∧ VV'.take o = VV.take o ∧ Chg (fun k => k = g) W (W.setCells g o vs)
  | [], o, W, VV, h => ⟨VV, h, rfl, Chg.refl _ _⟩
  | v :: r, o, W, VV, h => by
    obtain ⟨VV', h1, h2, h3⟩ := ownsRow_cells r (o + 1) (W.setCell ⟨g, o, none⟩ v) (VV.set o v) (World.ownsRow.stored h o v).1
    refine ⟨VV', h1, ?_, ((Chg.refl (fun k => k = g) W).set rfl v).trans h3⟩
    have e : VV'.take o = (VV'.take (o + 1)).take o := by rw [List.take_take]; congr 1; omega
    rw [e, h2, List.take_take, show min o (o + 1) = o by omega, List.take_set_of_le (Nat.le_refl o)]
theorem ownsRow_cut {W : World} {B : Nat} {e : TypeId} {g N c i : Nat} {VV : List Value} (h : W.ownsRow B e 1 (.slice (some ⟨g, 0, none⟩) N c) N VV) (hi : i ≤ N) : W.ownsRow B e 1 (.slice (some ⟨g, 0, none⟩) i c) i (VV.take i) := by
  obtain ⟨h1, h2⟩ := h
  rcases h2 with ⟨h', -⟩ | ⟨g', cap', cur, h', hb, hg, hnc, hcm, hcs, htake⟩
  · simp at h'
  · simp only [Value.slice.injEq, Option.some.injEq, Addr.mk.injEq, and_true, true_and] at h'
    obtain ⟨rfl, rfl⟩ := h'
    refine ⟨by rw [List.length_take]; omega, .inr ⟨g, c, cur, rfl, hb, hg, by omega, hcm, hcs, ?_⟩⟩
    rw [← htake, List.take_take]
    congr 1
    omega
theorem ownsRow_at {W : World} {B N g c : Nat} {e : TypeId} {VV : List Value} (h : W.ownsRow B e 1 (.slice (some ⟨g, 0, none⟩) N c) N VV) (k : Nat) (hk : k < N) : W.cell? ⟨g, k, none⟩ = some (VV.getD k (.slice none 0 0)) := by
  have hl := h.1
  rw [World.ownsRow.cellAt h k (by omega), List.getD_eq_getElem?_getD, List.getElem?_eq_getElem (by omega), Option.getD_some]
set_option maxRecDepth 100000 in
set_option maxHeartbeats 2000000 in
theorem indexF (g N c : Nat) (fp : Value) (V : List Value) (p : Nat → Bool) (w : World) (hN : N ≤ 10) (hc : ∀ k, k < N → w.cell? ⟨g, k, none⟩ = some (V.getD k (.slice none 0 0)))
    (hp : ∀ q k, k < N → Calls Tryz.prog 155 #[V.getD k (.slice none 0 0), fp] (w.drewN q) fun e w' => e = .returned (.bool (!p k)) ∧ ∃ q', w' = (w.drewN q).drewN q') :
    Calls Tryz.prog 180 #[.slice (some ⟨g, 0, none⟩) N c, .func (.func 155) #[] #[fp]] w fun e w' => (∃ q, w' = w.drewN q) ∧
      ((e = .returned (.int .i64 (-1)) ∧ ∀ x, x < N → p x = true) ∨ ∃ j : Nat, j < N ∧ e = .returned (.int .i64 j) ∧ p j = false ∧ ∀ x, x < j → p x = true) := by
  have HP := Lib.hid hp
  have HC := Lib.hid hc
  clear hp hc
  go_enter Tryz.func180, Tryz.ntmps180
  go_wp2
  go_loopw [5, 8] (fun _ iv wr => ∃ k : Nat, k ≤ N ∧ iv = .int .i64 k ∧ Hid (∀ x, x < k → p x = true) ∧ Hid (∃ q, wr = w.drewN q)) (fun _ iv _ => N - (intOf iv).toNat)
  case atStart => exact ⟨0, Nat.zero_le _, rfl, fun x hx => absurd hx (Nat.not_lt_zero x), 0, rfl⟩
  case round =>
    obtain ⟨k, hk, rfl, HA, HW⟩ := hrel
    obtain ⟨q, hq⟩ := HW.out
    subst hq
    by_cases hkl : k < N
    · have hki : (k : Int) < (N : Int) := by omega
      have cr : (w.drewN q).cell? ⟨g, k, none⟩ = some (V.getD k (.slice none 0 0)) := HC.out k hkl
      have hcall := HP.out q k hkl
      have HV : Hid (V.getD k (.slice none 0 0) = V.getD k (.slice none 0 0)) := rfl
      generalize V.getD k (.slice none 0 0) = v at *
      clear HV
      obtain ⟨t, ht⟩ : ∃ t, t = p k := ⟨_, rfl⟩
      have HT := Lib.hid ht
      rw [← ht] at hcall
      clear ht
      cases t with
      | true =>
        have HCa := Lib.hid hcall
        clear hcall
        go_wp2_with (go_at_call 155; refine (HCa.out).mono ?_; rintro e w' ⟨rfl, q', rfl⟩)
        go_roundw
        case rel => exact ⟨k + 1, by omega, by go_num, fun x hx => by rcases Nat.lt_or_ge x k with h | h; exact HA.out x h; rw [show x = k by omega]; exact HT.out.symm, q + q', rfl⟩
        case measure => simp [intOf]; omega
      | false =>
        have HCa := Lib.hid hcall
        clear hcall
        go_wp2_with (go_at_call 155; refine (HCa.out).mono ?_; rintro e w' ⟨rfl, q', rfl⟩)
        go_ret
        exact ⟨⟨q + q', rfl⟩, .inr ⟨k, hkl, rfl, HT.out.symm, HA.out⟩⟩
    · obtain rfl : k = N := by omega
      go_wp2
      go_ret
      exact ⟨⟨q, rfl⟩, .inl ⟨rfl, HA.out⟩⟩
set_option maxRecDepth 100000 in
set_option maxHeartbeats 4000000 in
theorem deleteF (B g N c : Nat) (fp : Value) (V : List Value) (p : Nat → Bool) (w : World) (hN : N ≤ 10) (hV : w.ownsRow B 28 1 (.slice (some ⟨g, 0, none⟩) N c) N V)
    (hcap : N ≤ c) (hsl : ∀ k, k < N → ∃ ra m rc, V.getD k (.slice none 0 0) = .slice ra m rc)
    (hp : ∀ W k, k < N → Chg (fun b => b = g) w W → Calls Tryz.prog 155 #[V.getD k (.slice none 0 0), fp] W fun e w' => e = .returned (.bool (!p k)) ∧ ∃ q', w' = W.drewN q') :
    Calls Tryz.prog 152 #[.slice (some ⟨g, 0, none⟩) N c, .func (.func 155) #[] #[fp]] w fun e w' => e = .returned (.slice (some ⟨g, 0, none⟩) (M.kept p N).length c) ∧
      w'.ownsRow B 28 1 (.slice (some ⟨g, 0, none⟩) (M.kept p N).length c) (M.kept p N).length ((M.kept p N).map fun i => V.getD i (.slice none 0 0)) ∧ Chg (fun b => b = g) w w' := by
  have HP := Lib.hid hp
  have HV := Lib.hid hV
  have HS := Lib.hid hsl
  have hVl : V.length = N := by have := hV.1; omega
  have HI := Lib.hid (indexF g N c fp V p w hN (fun k hk => ownsRow_at hV k hk) fun q k hk => by
    refine (hp (w.drewN q) k hk ((Chg.refl _ _).drewN q)).mono ?_
    rintro e w' ⟨he, q', hq⟩
    exact ⟨he, q', hq⟩)
  clear hp hV hsl
  go_enter Tryz.func152, Tryz.ntmps152
  go_wp2_with fail
  refine (HI.out).mono ?_
  rintro e w1 ⟨⟨q1, rfl⟩, ⟨rfl, hall⟩ | ⟨j0, hj0, rfl, hj1, hj2⟩⟩
  · have hk := M.kept_all hall
    have HE : Hid ((M.kept p N).length = N ∧ (M.kept p N).map (fun i => V.getD i (.slice none 0 0)) = V) := by
      refine ⟨by rw [hk]; simp, ?_⟩
      rw [hk]
      apply List.ext_getElem
      · simp [hVl]
      · intro x h1 h2
        simp only [List.getElem_map, List.getElem_range]
        rw [List.getD_eq_getElem?_getD, List.getElem?_eq_getElem h2, Option.getD_some]
    clear hall hk
    go_wp2
    go_ret
    refine ⟨by rw [HE.out.1]; rfl, ?_, (Chg.refl _ _).drewN q1⟩
    rw [HE.out.2, HE.out.1]
    exact HV.out
  · have hk : M.kept p (j0 + 1) = List.range j0 := by rw [M.kept_next, hj1, M.kept_all hj2]; simp
    have HK := Lib.hid hk
    have hne : ((j0 : Int) == -1) = false := by rw [beq_eq_false_iff_ne]; omega
    clear hj1 hj2 hk
    go_wp2
    go_loopw [5, 6, 7] (fun iv jv _ wr => ∃ (k : Nat) (VV : List Value), k ≤ N ∧ jv = .int .i64 k ∧ iv = .int .i64 (M.kept p k).length ∧ (M.kept p k).length < k ∧ Hid (wr.ownsRow B 28 1 (.slice (some ⟨g, 0, none⟩) N c) N VV) ∧ Hid (∀ x, x < (M.kept p k).length → VV.getD x (.slice none 0 0) = V.getD ((M.kept p k).getD x 0) (.slice none 0 0)) ∧ Hid (∀ x, k ≤ x → x < N → VV.getD x (.slice none 0 0) = V.getD x (.slice none 0 0)) ∧ Hid (Chg (fun b => b = g) w wr)) (fun _ jv _ _ => N - (intOf jv).toNat)
    case atStart =>
      refine ⟨j0 + 1, V, by omega, by go_num, by rw [HK.out]; simp, by rw [HK.out]; simp, HV.out, fun x hx => ?_, fun x _ _ => rfl, (Chg.refl _ _).drewN q1⟩
      rw [HK.out] at hx ⊢
      have hx2 : x < j0 := by simpa using hx
      congr 1
      rw [List.getD_eq_getElem?_getD, List.getElem?_range hx2]
      rfl
    case round =>
      obtain ⟨k, VV, hk, rfl, rfl, hik, HO, HL, HH, HC⟩ := hrel
      have hVVl : VV.length = N := by have := HO.out.1; omega
      by_cases hkl : k < N
      · have hki : (k : Int) < (N : Int) := by omega
        obtain ⟨ra, m, rc, hv⟩ := HS.out k hkl
        have cr : wr.cell? ⟨g, k, none⟩ = some (.slice ra m rc) := by rw [ownsRow_at HO.out k hkl, HH.out k (Nat.le_refl _) hkl, hv]
        have hcall := HP.out wr k hkl HC.out
        rw [hv] at hcall
        have HVk := Lib.hid hv
        have ci := ownsRow_at HO.out (M.kept p k).length (by omega)
        have fi := World.ownsRow.frozenAt HO.out (M.kept p k).length
        have hii : ((M.kept p k).length : Int) < (N : Int) := by omega
        have hnx := M.kept_next p k
        obtain ⟨t, ht⟩ : ∃ t, t = p k := ⟨_, rfl⟩
        rw [← ht] at hcall hnx
        have HCa := Lib.hid hcall
        generalize VV.getD (M.kept p k).length (.slice none 0 0) = old at ci
        clear hcall ht hv
        cases t with
        | false =>
          have HN : Hid (M.kept p (k + 1) = M.kept p k) := by show _ = _; rw [hnx]; simp
          clear hnx ci fi
          generalize hgk : M.kept p k = kp at *
          clear hgk
          generalize hgl : kp.length = i at *
          have HGl := Lib.hid hgl
          clear hgl
          go_wp2_with (go_at_call 155; refine (HCa.out).mono ?_; rintro e w' ⟨rfl, q', rfl⟩)
          go_roundw
          case rel => exact ⟨k + 1, VV, by omega, by go_num, by rw [HN.out, HGl.out], by rw [HN.out, HGl.out]; omega, HO.out, by show ∀ x, _ → _; rw [HN.out, HGl.out]; exact HL.out, fun x h1 h2 => HH.out x (by omega) h2, HC.out.drewN q'⟩
          case measure => simp [intOf]; omega
        | true =>
          have HN : Hid (M.kept p (k + 1) = M.kept p k ++ [k]) := by show _ = _; rw [hnx]; simp
          clear hnx
          generalize hgk : M.kept p k = kp at *
          clear hgk
          generalize hgl : kp.length = i at *
          have HGl := Lib.hid hgl
          clear hgl
          go_wp2_with (go_at_call 155; refine (HCa.out).mono ?_; rintro e w' ⟨rfl, q', rfl⟩)
          go_roundw
          case rel =>
            refine ⟨k + 1, VV.set i (.slice ra m rc), by omega, by go_num, by rw [HN.out, List.length_append, HGl.out]; go_num, by rw [HN.out, List.length_append, HGl.out]; simp; omega, (World.ownsRow.stored (ownsRow_drewN HO.out q') i (.slice ra m rc)).1, fun x hx => ?_, fun x h1 h2 => ?_, (HC.out.drewN q').set rfl _⟩
            · rw [HN.out] at hx ⊢
              rw [List.length_append, HGl.out] at hx
              rw [getD_set _ _ _ _ _ (by omega)]
              by_cases e : x = i
              · have e1 : (kp ++ [k]).getD kp.length 0 = k := by simp
                rw [if_pos e, e, ← HGl.out, e1, HVk.out]
              · have hx2 : x < i := by simp at hx; omega
                have e0 : (kp ++ [k]).getD x 0 = kp.getD x 0 := by rw [List.getD_eq_getElem?_getD, List.getD_eq_getElem?_getD, List.getElem?_append_left (by have := HGl.out; omega)]
                rw [if_neg e, HL.out x hx2, e0]
            · rw [getD_set _ _ _ _ _ (by omega), if_neg (by omega)]
              exact HH.out x (by omega) h2
          case measure => simp [intOf]; omega
      · obtain rfl : k = N := by omega
        have hkk : ¬ (k : Int) < (k : Int) := by omega
        have hcl : ∀ ty, (Builtin.clear_ #[24] ty #[.slice (some ⟨g, (M.kept p k).length, none⟩) (k - (M.kept p k).length) (c - (M.kept p k).length)]).run Tryz.prog wr = .ok (.tuple #[]) (wr.setCells g (M.kept p k).length (List.replicate (k - (M.kept p k).length) (.slice none 0 0))) :=
          fun ty => Lib.run_clear_slice wr _ _ ty _ Tryz.underlying24 Tryz.zeroValue28 rfl rfl g _ _ _ (by omega) (fun t ht => by rw [ownsRow_at HO.out _ (by omega)]; rfl) (fun t ht => World.ownsRow.frozenAt HO.out _)
        obtain ⟨VV', h1, h2, h3⟩ := ownsRow_cells (List.replicate (k - (M.kept p k).length) (.slice none 0 0)) (M.kept p k).length wr VV HO.out
        have hcut := ownsRow_cut h1 (i := (M.kept p k).length) (by omega)
        have e : VV'.take (M.kept p k).length = (M.kept p k).map (fun i => V.getD i (.slice none 0 0)) := by
          rw [h2]
          apply List.ext_getElem
          · simp; omega
          · intro x k1 k2
            have hx : x < (M.kept p k).length := by simpa using k2
            have := HL.out x hx
            rw [List.getD_eq_getElem?_getD, List.getElem?_eq_getElem (by omega), Option.getD_some] at this
            rw [List.getElem_take, this, List.getElem_map]
            congr 1
            rw [List.getD_eq_getElem?_getD, List.getElem?_eq_getElem hx, Option.getD_some]
        rw [e] at hcut
        have HCut := Lib.hid hcut
        have HCg := Lib.hid (HC.out.trans h3)
        clear hcut e h1 h2 h3
        generalize hgi : (M.kept p k).length = i at *
        have HGi := Lib.hid hgi
        clear hgi
        go_wp2
        go_ret
        have hgi := HGi.out
        subst hgi
        exact ⟨rfl, HCut.out, HCg.out⟩
end V
end Go.Proofs.YtmhpgnndjagogaaGreat

namespace Go.Proofs.YtmhpgnndjagogaaGreat.V
set_option maxRecDepth 100000
open Go.RowKit Go.Maps
abbrev arcV (f t : Nat) : Value := .agg #[.int .i64 (f : Int), .int .i64 (t : Int)]
def akey (f t : Nat) : Lit := .string (keyBytes [.int .i64 (f : Int), .int .i64 (t : Int)])
theorem arcLaid : laidOutB Tryz.prog = true := by kernel_rfl
theorem arcRowLt : (133 : TypeId) < Tryz.prog.types.size := of_decide_eq_true (by kernel_rfl)
theorem arcWide : (match Tryz.prog.underlying 133 with | some (.array _ _) | some (.struct _) => true | _ => false) = true := by rw [Tryz.underlying133]
theorem keyA : Keyed Tryz.prog 133 := Keyed.of_law (deep_law_laid arcLaid (m := 2) (by omega) arcRowLt (by kernel_rfl) arcWide)
theorem arcKeyType : Tryz.prog.keyType 133 = true := by kernel_rfl
theorem arcCells : Tryz.prog.cellsOf 133 = 2 := by kernel_rfl
theorem arcCells1 : Tryz.prog.cellsOf 2 = 1 := by kernel_rfl
theorem typesPos : ∃ m, Tryz.prog.types.size = m + 1 := ⟨_, (Nat.succ_pred_eq_of_pos (Nat.lt_of_le_of_lt (Nat.zero_le _) arcRowLt)).symm⟩
theorem akeyAt (f t : Nat) (hf : f < 1000) (ht : t < 1000) : keyOf Tryz.prog 133 (arcV f t) = some (akey f t) := by
  obtain ⟨m, hm⟩ := typesPos
  have w1 : (Lit.int .i64 (f : Int)).wf = true := WalkArith.wf_i64 (by omega)
  have w2 : (Lit.int .i64 (t : Int)).wf = true := WalkArith.wf_i64 (by omega)
  unfold keyOf
  rw [Tryz.underlying133]
  have hfm : (arcV f t).formed Tryz.prog 133 = true := by simp [Value.formed, Tryz.underlying133, arcCells]
  simp only [arcKeyType, hfm, Bool.and_self, if_true]
  rw [hm]
  simp [Program.keyLits, Tryz.underlying133, Tryz.underlying2, arcCells, arcCells1, Value.cells, w1, w2, akey]
theorem akey_inj {f t f' t' : Nat} (h1 : f < 1000) (h2 : t < 1000) (h3 : f' < 1000) (h4 : t' < 1000) (h : akey f t = akey f' t') : f = f' ∧ t = t' := by
  have e := keyA.inj (akeyAt f t h1 h2) (by rw [h]; exact akeyAt f' t' h3 h4)
  injection e with e
  simp at e
  exact ⟨by omega, by omega⟩
theorem akeyKey (f t : Nat) : WideAt.IsKeyLit (akey f t) := trivial
/-- The datum holds the set S of pairs of nodes. -/
def IsArcD (D : DataW Unit) (n : Nat) (S : Nat → Nat → Bool) : Prop :=
  IsMap D ∧ (∀ f t, f < n → t < n → D.atKey (akey f t) (.lit (.bool false)) = .lit (.bool (S f t))) ∧ (∀ f t, f < n → t < n → Maps.has D (akey f t) = S f t) ∧ (∀ kl, Maps.has D kl = true → ∃ f t, f < n ∧ t < n ∧ kl = akey f t)
/-- Block b is a map of at most m arcs. -/
def IsArcs (w : World) (b n m : Nat) (S : Nat → Nat → Bool) : Prop :=
  ∃ D : DataW Unit, w.ownsMap Tryz.prog 133 (plainElem Tryz.prog 4) b m D ∧ IsArcD D n S
theorem IsArcs.lt {w : World} {b n m : Nat} {S : Nat → Nat → Bool} (h : IsArcs w b n m S) : b < w.heap.size := by
  obtain ⟨D, h, -⟩ := h
  exact h.lt
theorem IsArcs.block {w w' : World} {b n m : Nat} {S : Nat → Nat → Bool} (h : IsArcs w b n m S) (e : w'.heap[b]? = w.heap[b]?) : IsArcs w' b n m S := by
  obtain ⟨D, ⟨es, clock, hb, F, hs, hD⟩, h2⟩ := h
  exact ⟨D, ⟨es, clock, e.trans hb, F, hs, hD⟩, h2⟩
theorem IsArcs.below {w w' : World} {B b n m : Nat} {S : Nat → Nat → Bool} (h : IsArcs w b n m S) (hb : Below B w w') (hB : b < B) : IsArcs w' b n m S := h.block (hb.block b hB)
theorem IsArcs.mono {w : World} {b n m m' : Nat} {S : Nat → Nat → Bool} (h : IsArcs w b n m S) (hm : m ≤ m') : IsArcs w b n m' S := by
  obtain ⟨D, h1, h2⟩ := h
  exact ⟨D, h1.mono hm, h2⟩
theorem IsArcD.congr {D : DataW Unit} {n : Nat} {S S' : Nat → Nat → Bool} (h : IsArcD D n S) (e : ∀ f t, f < n → t < n → S f t = S' f t) : IsArcD D n S' := by
  obtain ⟨h1, h2, h3, h4⟩ := h
  exact ⟨h1, fun f t hf ht => by rw [h2 f t hf ht, e f t hf ht], fun f t hf ht => by rw [h3 f t hf ht, e f t hf ht], h4⟩
theorem IsArcs.congr {w : World} {b n m : Nat} {S S' : Nat → Nat → Bool} (h : IsArcs w b n m S) (e : ∀ f t, f < n → t < n → S f t = S' f t) : IsArcs w b n m S' := by
  obtain ⟨D, h1, h2⟩ := h
  exact ⟨D, h1, h2.congr e⟩
theorem isArcs_made (w : World) (n : Nat) : IsArcs (w.alloc (.map #[] 0)) w.heap.size n 0 (fun _ _ => false) :=
  ⟨.map [], World.ownsMap_made _ _ _ _, ⟨[], rfl⟩, fun _ _ _ _ => rfl, fun _ _ _ _ => rfl, fun kl h => by cases h⟩
theorem IsArcs.look {w : World} {b n m : Nat} {S : Nat → Nat → Bool} (h : IsArcs w b n m S) (hn : n ≤ 10) (f t : Nat) (hf : f < n) (ht : t < n) : (Instr.lookup 87 (.map (some b)) (arcV f t) false).run Tryz.prog w = .ok (.bool (S f t)) w := by
  obtain ⟨D, h1, -, h3, -⟩ := h
  obtain ⟨v, ps, hr, hv⟩ := h1.lookup keyA Tryz.underlying87 (zeroB w) (plainElem_bool Tryz.underlying4 false) (akeyAt f t (by omega) (by omega))
  rw [h3 f t hf ht] at hv
  obtain ⟨x, rfl, hz⟩ := plainElem_bool_inv hv
  simp only [Prod.mk.injEq, DataW.lit.injEq, Lit.bool.injEq] at hz
  rw [hr, hz.1]
theorem IsArcD.put {D : DataW Unit} {n : Nat} {S : Nat → Nat → Bool} (h : IsArcD D n S) (hn : n ≤ 10) {f t : Nat} (hf : f < n) (ht : t < n) : IsArcD (D.put (akey f t) (.lit (.bool true))) n (M.upd2 S f t) := by
  obtain ⟨h1, h2, h3, h4⟩ := h
  have hne : ∀ f' t', f' < n → t' < n → ¬ (f' = f ∧ t' = t) → akey f' t' ≠ akey f t := fun f' t' a b c e => c (akey_inj (by omega) (by omega) (by omega) (by omega) e)
  have hu : ∀ f' t', ¬ (f' = f ∧ t' = t) → M.upd2 S f t f' t' = S f' t' := fun f' t' c => by
    unfold M.upd2
    by_cases a : f' = f
    · by_cases b : t' = t
      · exact absurd ⟨a, b⟩ c
      · simp [b]
    · simp [a]
  refine ⟨h1.put _ _, fun f' t' a b => ?_, fun f' t' a b => ?_, fun kl hk => ?_⟩
  · by_cases c : f' = f ∧ t' = t
    · obtain ⟨rfl, rfl⟩ := c
      rw [atKey_put_same h1 (akeyKey _ _)]
      unfold M.upd2; simp
    · rw [atKey_put_other (hne f' t' a b c), h2 f' t' a b, hu f' t' c]
  · by_cases c : f' = f ∧ t' = t
    · obtain ⟨rfl, rfl⟩ := c
      rw [has_put_same h1 (akeyKey _ _)]
      unfold M.upd2; simp
    · rw [has_put_other (hne f' t' a b c), h3 f' t' a b, hu f' t' c]
  · by_cases c : kl = akey f t
    · exact ⟨f, t, hf, ht, c⟩
    · rw [has_put_other c] at hk
      exact h4 kl hk
theorem wpList_putA (w : World) {ops : Array Oper} {rest : List Oper} {o : Oper} {a : Act} {Q : Exit → Act → World → Prop}
    (hg : o.guard = none) (m x v : Operand) (hop : o.op = Op.mapUpdate 87 m x v) (b n M0 : Nat) (S : Nat → Nat → Bool) (f t : Nat)
    (hm : a.eval m = .map (some b)) (hown : IsArcs w b n M0 S) (hn : n ≤ 10) (hM : M0 < 1000) (hf : f < n) (ht : t < n) (hx : a.eval x = arcV f t) (hv : a.eval v = .bool true)
    (hK : ∀ w', IsArcs w' b n (M0 + 1) (M.upd2 S f t) → w.grownBy w' (some b) → wpList Tryz.prog ops Q rest (a.put o.dst undef) w') :
    wpList Tryz.prog ops Q (o :: rest) a w := by
  obtain ⟨D, h1, h2⟩ := hown
  exact wpList_mapUpdate_own w hg m x v 87 hop 133 4 keyA Tryz.underlying87 _ b M0 D hm h1 (by unfold maxLen; omega) _ _ _ hx hv (akeyAt f t (by omega) (by omega)) _ [] (plainElem_bool Tryz.underlying4 true) fun w' h' hg' => hK w' ⟨_, h', h2.put hn hf ht⟩ hg'
/-- A range over the arcs of block b, by the iterator r: L tells which of the arcs S are still to come. -/
def RngA (w : World) (b r n m : Nat) (S L : Nat → Nat → Bool) (cnt : Nat) : Prop :=
  ∃ (D : DataW Unit) (left : Lit → Bool), w.ranges Tryz.prog 133 (plainElem Tryz.prog 4) b r m D left cnt ∧ IsArcD D n S ∧ (∀ kl, left kl = true → Maps.has D kl = true) ∧ ∀ f t, f < n → t < n → left (akey f t) = L f t
theorem RngA.owns {w : World} {b r n m cnt : Nat} {S L : Nat → Nat → Bool} (h : RngA w b r n m S L cnt) : IsArcs w b n m S := by
  obtain ⟨D, left, h1, h2, -⟩ := h
  exact ⟨D, h1.owns, h2⟩
theorem RngA.lt {w : World} {b r n m cnt : Nat} {S L : Nat → Nat → Bool} (h : RngA w b r n m S L cnt) : r < w.heap.size := by
  obtain ⟨D, left, h1, -⟩ := h
  exact h1.lt
theorem RngA.left_eq {w : World} {b r n m cnt : Nat} {S L : Nat → Nat → Bool} (h : RngA w b r n m S L cnt) : w.rangeLeft b r = cnt := by
  obtain ⟨D, left, h1, -⟩ := h
  exact h1.left_eq
theorem RngA.blocks {w w' : World} {b r n m cnt : Nat} {S L : Nat → Nat → Bool} (h : RngA w b r n m S L cnt) (e1 : w'.heap[b]? = w.heap[b]?) (e2 : w'.heap[r]? = w.heap[r]?) : RngA w' b r n m S L cnt := by
  obtain ⟨D, left, ⟨es, clock, since, seen, c0, hb, F, hs, hD, hr, rest⟩, h2⟩ := h
  exact ⟨D, left, ⟨es, clock, since, seen, c0, e1.trans hb, F, hs, hD, e2.trans hr, rest⟩, h2⟩
theorem wpList_rangeA (w : World) {ops : Array Oper} {rest : List Oper} {o : Oper} {a : Act} {Q : Exit → Act → World → Prop}
    (hg : o.guard = none) (m : Operand) (hop : o.op = Op.range 87 m) (b n M0 : Nat) (S : Nat → Nat → Bool)
    (hm : a.eval m = .map (some b)) (hown : IsArcs w b n M0 S)
    (hK : ∀ w' cnt, RngA w' b w.heap.size n M0 S S cnt → cnt ≤ M0 → w.grownBy w' none → w'.heap.size = w.heap.size + 1 → wpList Tryz.prog ops Q rest (a.put o.dst (.pointer (some ⟨w.heap.size, 0, none⟩))) w') :
    wpList Tryz.prog ops Q (o :: rest) a w := by
  obtain ⟨D, h1, h2⟩ := hown
  have hsz : Maps.size D ≤ M0 := by
    obtain ⟨es, clock, -, -, hle, rfl⟩ := h1
    simp only [Maps.size, length_sorted, List.length_map]
    simpa using hle
  exact wpList_range_own w hg m 87 hop 133 4 keyA Tryz.underlying87 _ b M0 D hm h1 fun w' hr hgr hz => hK w' _ ⟨D, _, hr, h2, fun _ h => h, h2.2.2.1⟩ hsz hgr hz
def strike (L : Nat → Nat → Bool) (f t a b : Nat) : Bool := L a b && !(decide (a = f) && decide (b = t))
theorem wpList_nextA (w : World) {ops : Array Oper} {rest : List Oper} {o : Oper} {a : Act} {Q : Exit → Act → World → Prop}
    (hg : o.guard = none) (it : Operand) (hop : o.op = Op.next it false) (b r n M0 : Nat) (S L : Nat → Nat → Bool) (cnt : Nat) (hn : n ≤ 10)
    (hit : a.eval it = .pointer (some ⟨r, 0, none⟩)) (h : RngA w b r n M0 S L cnt)
    (hDone : (∀ f t, f < n → t < n → L f t = false) → wpList Tryz.prog ops Q rest (a.put o.dst (.tuple #[.bool false])) w)
    (hMore : ∀ (f t : Nat) (w' : World) (cnt' : Nat), f < n → t < n → L f t = true → S f t = true → RngA w' b r n M0 S (strike L f t) cnt' → cnt' < cnt → w.grownBy w' (some r) → w'.heap.size = w.heap.size →
      (Instr.entry (.pointer (some ⟨r, 0, none⟩))).run Tryz.prog w' = .ok (.tuple #[arcV f t, .bool true]) w' → wpList Tryz.prog ops Q rest (a.put o.dst (.tuple #[.bool true, arcV f t, .bool true])) w') :
    wpList Tryz.prog ops Q (o :: rest) a w := by
  obtain ⟨D, left, h1, h2, h3, h4⟩ := h
  refine wpList_plain hg fun K' hK' => ?_
  unfold Oper.wp
  rcases h1.next keyA o.type with ⟨h0, hl, hrun⟩ | ⟨key, v, kl, y, w', cnt', hkey, hlk, hv, hat, hrun, hrg, hlt, hgr, hsz, hen⟩
  · simp [execOp, hop, hit, hrun, Result.andThen]
    exact hK' _ _ (hDone fun f t hf ht => by rw [← h4 f t hf ht, hl])
  · obtain ⟨f, t, hf, ht, rfl⟩ := h2.2.2.2 kl (h3 kl hlk)
    obtain rfl := keyA.inj hkey (akeyAt f t (by omega) (by omega))
    obtain ⟨x, rfl, hz⟩ := plainElem_bool_inv hv
    have hS : S f t = true := by rw [← h2.2.2.1 f t hf ht]; exact h3 _ hlk
    have hx : x = true := by
      have e := hat (.lit (.bool false))
      rw [h2.2.1 f t hf ht, hS, hz] at e
      injection e with e
      injection e with e
      exact e.symm
    subst hx
    simp [execOp, hop, hit, hrun, Result.andThen]
    refine hK' _ _ (hMore f t w' cnt' hf ht (by rw [← h4 f t hf ht]; exact hlk) hS ⟨D, _, hrg, h2, fun kl hk => h3 kl (by simp at hk; exact hk.1), fun f' t' a b => ?_⟩ hlt hgr hsz hen)
    show (left (akey f' t') && !(akey f' t').sameKey (akey f t)) = strike L f t f' t'
    unfold strike
    rw [h4 f' t' a b]
    congr 1
    by_cases c : f' = f ∧ t' = t
    · obtain ⟨rfl, rfl⟩ := c
      rw [WideAt.sameKey_self (akeyKey _ _)]; simp
    · have hne : akey f' t' ≠ akey f t := fun e => c (akey_inj (by omega) (by omega) (by omega) (by omega) e)
      rw [sameKey_ne hne]
      by_cases p : f' = f
      · by_cases q : t' = t
        · exact absurd ⟨p, q⟩ c
        · simp [q]
      · simp [p]
end Go.Proofs.YtmhpgnndjagogaaGreat.V

namespace Go.Proofs.YtmhpgnndjagogaaGreat.V
set_option maxRecDepth 100000
open Go.RowKit Go.Maps
set_option maxRecDepth 100000 in
set_option maxHeartbeats 4000000 in
theorem criticalArcs (a : Option Addr) (n cap : Nat) (R : List (List Int)) (w : World) (h : Mat w a n R) (hs : M.sqB R = true) (hc : M.hasCyc (M.ent R) R.length = true) :
    Calls Tryz.prog 85 #[.slice a n cap] w fun e w' => ∃ b m, e = .returned (.tuple #[.map (some b), .int .i64 0]) ∧ w.heap.size ≤ b ∧ m ≤ 100 ∧ IsArcs w' b n m (M.crB R) ∧ Below w.heap.size w w' := by
  have HA := Lib.hid h
  have hRn : R.length = n := h.1
  have HRn := Lib.hid hRn
  have HS := Lib.hid hs
  obtain ⟨hr, n1, n2, hsm⟩ := sq_parts h hs
  have HR := Lib.hid hr
  have HSm := Lib.hid hsm
  have HQ := Lib.hid (sq_of h hs)
  obtain ⟨hnear, hshm, hp⟩ := M.cr_t hs hc
  have HBc : Hid (∀ i j, i < n → j < n → (decide (M.bestF (M.crS R) n i j ≠ -1000000000000000)) = M.crB R j i) := fun i j _ _ => by
    have := M.best_crit R i j
    rw [hRn] at this
    exact this
  have hS : M.crS R = M.shf (M.ent R) (M.bestR (M.ent R) n).1 (M.bestR (M.ent R) n).2 := by
    funext i j; unfold M.crS; rw [hRn]
  rw [hRn] at hc hnear hp
  have HNo := Lib.hid hc
  obtain ⟨r, hrr⟩ : ∃ r, r = M.bestR (M.ent R) n := ⟨_, rfl⟩
  rw [← hrr] at hnear hS
  rw [hS] at hp
  have HSe := Lib.hid hS
  have HNear := Lib.hid hnear
  have HP := Lib.hid hp
  have HRr := Lib.hid hrr
  obtain ⟨r1, r2⟩ := r
  have hmm := @run_makeMap Tryz.prog
  clear h hs hr hsm hc hnear hp hrr hS hRn hshm
  go_enter Tryz.func85, Tryz.ntmps85
  go_wp2_with fail
  refine (isSquare_b _ _ _ R _ true HS.out HA.out).mono ?_
  rintro e w' ⟨rfl, rfl⟩
  go_wp2_with fail
  refine (hasCycle _ _ _ R _ HQ.out HSm.out).mono ?_
  rintro e w1 ⟨rfl, hb⟩
  rw [HNo.out]
  have HB1 := Lib.hid hb
  clear hb
  go_wp2_with fail
  obtain ⟨wm, hwm⟩ : ∃ x, x = w1.alloc (.map #[] 0) := ⟨_, rfl⟩
  have HI0 : Hid (IsArcs wm w1.heap.size n 0 (fun _ _ => false)) := by show IsArcs _ _ _ _ _; rw [hwm]; exact isArcs_made _ _
  have HBm : Hid (Below w.heap.size w wm) := by show Below _ _ _; rw [hwm]; exact HB1.out.alloc HB1.out.size _
  simp only [← hwm]
  clear hwm hmm
  refine (powerMean _ _ _ R _ (HQ.out.below HBm.out) HSm.out HNo.out).mono ?_
  rintro e w2 ⟨rfl, hb⟩
  rw [← HRr.out]
  have HI2 := Lib.hid (HI0.out.below hb HI0.out.lt)
  have HB2 := Lib.hid (HBm.out.trans (hb.mono HBm.out.size))
  clear hb
  go_wp2_with fail
  refine (bestArcs _ _ _ R r1 r2 _ (HA.out.below HB2.out) HR.out n1 n2 HSm.out HNear.out HP.out).mono ?_
  rintro e w3 ⟨b3, c3, rfl, ho, hb⟩
  rw [← HSe.out] at ho
  have HI3 := Lib.hid (HI2.out.below hb HI2.out.lt)
  have HB3 := Lib.hid (HB2.out.trans (hb.mono HB2.out.size))
  have hbs : w1.heap.size < w2.heap.size := HI2.out.lt
  have hb1 : w.heap.size ≤ w1.heap.size := HB1.out.size
  have hz3 : w2.heap.size ≤ w3.heap.size := hb.size
  obtain ⟨g, q0, L0, c0, x0, hgg, hgB, -⟩ := ho.at 0 0 (by omega) (by rw [(rect_mk n n _).2 0 (by omega)]; omega)
  subst hgg
  have HO3 := Lib.hid ho
  generalize w1.heap.size = bm at *
  clear ho hb HI0 HI2 HBm HB1
  go_wp2
  go_loopw [5, 6, 22] (fun _ _ i wr => ∃ s : Nat, s ≤ n ∧ i = .int .i64 s ∧ Hid (IsArcs wr bm n (s * n) (M.crP R s 0)) ∧ Hid (Below w.heap.size w wr) ∧ Hid (Same w2.heap.size w3.heap.size w3 wr) ∧ Hid (w3.heap.size ≤ wr.heap.size)) (fun _ _ i _ => n - (intOf i).toNat)
  case atStart => exact ⟨0, Nat.zero_le _, rfl, (HI3.out.congr fun f i _ _ => (M.crP_zero R f i).symm).mono (Nat.zero_le _), HB3, Same.refl _ _ _, Nat.le_refl _⟩
  case round =>
    obtain ⟨s, hs, rfl, HI, HB, HSa, HZ⟩ := hrel
    obtain ⟨wp, rfl⟩ : ∃ x, x = wr := ⟨_, rfl⟩
    clear HI3
    by_cases hsl : s < n
    · have hsi : (s : Int) < (n : Int) := by omega
      obtain ⟨g2, q, c, -, -, hgg, -, hrow, -⟩ := (HO3.out.keep HSa.out).tri (rect_mk _ _ _) s 0 0 hsl (by omega) (by omega)
      injection hgg with hgg
      injection hgg with hgg
      subst hgg
      have HRw0 := Lib.hid hrow
      go_wp2
      clear hrow
      go_loopw [7, 8, 29] (fun _ _ j wr => ∃ t : Nat, t ≤ n ∧ j = .int .i64 t ∧ Hid (IsArcs wr bm n (s * n + t) (M.crP R s t)) ∧ Hid (Below w.heap.size w wr) ∧ Hid (Same w2.heap.size w3.heap.size w3 wr) ∧ Hid (w3.heap.size ≤ wr.heap.size) ∧ Hid (wr.cell? ⟨g, s, none⟩ = some (.slice (some ⟨q, 0, none⟩) n c))) (fun _ _ j _ => n - (intOf j).toNat)
      case atStart => exact ⟨0, Nat.zero_le _, rfl, HI, HB, HSa, HZ, HRw0⟩
      case round =>
        clear HI HB HSa HZ HRw0
        obtain ⟨t, ht, rfl, HI, HB, HSa, HZ, HRw⟩ := hrel
        by_cases htl : t < n
        · have hti : (t : Int) < (n : Int) := by omega
          obtain ⟨g2, q2, c2, -, -, hgg, -, h1, h2, -⟩ := (HO3.out.keep HSa.out).tri (rect_mk _ _ _) s t t hsl htl htl
          injection hgg with hgg
          injection hgg with hgg
          subst hgg
          rw [HRw.out] at h1
          injection h1 with h1
          injection h1 with h1 _ h1c
          injection h1 with h1
          injection h1 with h1
          subst h1
          clear h1c
          rw [M.ent_mk _ _ _ _ _ hsl htl] at h2
          have hcr := HBc.out s t hsl htl
          obtain ⟨x, hx⟩ : ∃ x, x = M.bestF (M.crS R) n s t := ⟨_, rfl⟩
          rw [← hx] at h2 hcr
          clear hx
          by_cases hxb : x = -1000000000000000
          · have HN : Hid (IsArcs wr bm n (s * n + (t + 1)) (M.crP R s (t + 1))) := (HI.out.congr fun f i _ _ => M.crP_skip (by rw [← hcr, hxb]; simp) f i).mono (by omega)
            have hxn : (x != -1000000000000000) = false := by simp [hxb]
            clear hxb hcr
            go_wp2
            go_roundw
            case rel => exact ⟨t + 1, by omega, by go_num, HN, HB, HSa, HZ, HRw⟩
            case measure => simp [intOf]; omega
          · have hcb : M.crB R t s = true := by rw [← hcr]; simp [hxb]
            have HCb := Lib.hid hcb
            have hxn : (x != -1000000000000000) = true := by simp [hxb]
            have hM : s * n + t < 1000 := by have := Nat.mul_le_mul (show s ≤ 10 by omega) n2; omega
            clear hxb hcr hcb
            go_wp2_with (at_mapUpdate; refine wpList_putA _ rfl _ _ _ rfl bm n (s * n + t) _ t s rfl HI.out n2 hM htl hsl rfl rfl ?_; intro w1 hi1 hg1)
            have HN : Hid (IsArcs w1 bm n (s * n + (t + 1)) (M.crP R s (t + 1))) := hi1.congr fun f i _ _ => M.crP_put HCb.out f i
            have HBn : Hid (Below w.heap.size w w1) := HB.out.grown hg1 HB.out.size (fun j hj => by cases hj; exact hb1)
            have hb3 := HZ.out
            have HZn : Hid (w3.heap.size ≤ w1.heap.size) := Nat.le_trans HZ.out hg1.size
            have HSn : Hid (Same w2.heap.size w3.heap.size w3 w1) := fun k k1 k2 => (hg1.block k (by omega) (by intro e; injection e with e; omega)).trans (HSa.out k k1 k2)
            have HRn : Hid (w1.cell? ⟨g, s, none⟩ = some (.slice (some ⟨q, 0, none⟩) n c)) := (World.cell?_of_block (w := wr) (a := ⟨g, s, none⟩) (hg1.block g (cell_lt HRw.out) (by intro e; injection e with e; omega))).trans HRw.out
            clear hi1 hg1 hb3
            go_wp2
            go_roundw
            case rel => exact ⟨t + 1, by omega, by go_num, HN, HBn, HSn, HZn, HRn⟩
            case measure => simp [intOf]; omega
        · obtain rfl : t = n := by omega
          have HN : Hid (IsArcs wr bm t ((s + 1) * t) (M.crP R (s + 1) 0)) := (HI.out.congr fun f i hf _ => M.crP_row hf).mono (by rw [Nat.succ_mul]; omega)
          go_wp2
          go_roundw
          case rel => exact ⟨s + 1, by omega, by go_num, HN, HB, HSa, HZ⟩
          case measure => simp [intOf]; omega
    · obtain rfl : s = n := by omega
      go_wp2
      go_ret2
      exact ⟨bm, s * s, rfl, hb1, by have := Nat.mul_le_mul n2 n2; omega, HI.out.congr fun f i _ hi => M.crP_end hi, HB.out⟩
end Go.Proofs.YtmhpgnndjagogaaGreat.V
