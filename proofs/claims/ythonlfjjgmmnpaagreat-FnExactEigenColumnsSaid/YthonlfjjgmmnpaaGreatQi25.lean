/- Texts laid together: Hv1, Clp, Clm, OpenM. -/
import Derived.Test.YthonlfjjgmmnpaaGreatQi17
import Derived.Test.YthonlfjjgmmnpaaGreatQi14
import Derived.Test.YthonlfjjgmmnpaaGreatQi7
import Derived.Test.YthonlfjjgmmnpaaGreatQi10
import Derived.Test.YthonlfjjgmmnpaaGreatQi24
import Derived.Test.YthonlfjjgmmnpaaGreatQi22
import Derived.Test.YthonlfjjgmmnpaaGreatQi21
import Derived.Test.YthonlfjjgmmnpaaGreatQi19
import Derived.Test.YthonlfjjgmmnpaaGreatQi8
import Derived.Test.YthonlfjjgmmnpaaGreatRows
import Derived.Test.YthonlfjjgmmnpaaGreatQi1
import Derived.Test.YthonlfjjgmmnpaaGreatQi2
import Derived.WalkKit
import Derived.ProofKit
import Derived.WalkSmall
import Derived.Deep.QuietTactic
import Derived.BigQuiet
import Derived.BigRegion
import Derived.Deep.Draws
import Derived.Deep.OwnRows
import Derived.Maps.AppendAt
import Derived.Deep.Onto
import Derived.Lib.Hide
import Derived.Deep.Matrix
namespace Go.Proofs.YthonlfjjgmmnpaaGreat.V
open Go.RowKit

theorem OwnM.caps {w : World} {B n cap : Nat} {a : Option Addr} {R : List (List Int)} (h : OwnM w B (.slice a n cap) R) : n ≤ cap ∧ cap ≤ maxLen := by
  obtain ⟨V, h1, h2, _⟩ := h
  obtain ⟨a', c', hv, k1, k2, _⟩ := own_form h2
  injection hv with e1 e2 e3
  subst e2 e3
  exact ⟨k1, k2⟩
/-- One row of an owned matrix, as a list of its own. -/
theorem OwnM.row {w : World} {B n cap : Nat} {a : Option Addr} {R : List (List Int)} (h : OwnM w B (.slice a n cap) R) (i : Nat) (hi : i < n) :
    ∃ g ra rc, a = some ⟨g, 0, none⟩ ∧ w.cell? ⟨g, i, none⟩ = some (.slice ra (R.getD i []).length rc) ∧ Own w B (.slice ra (R.getD i []).length rc) (R.getD i []) := by
  have hl := h.len
  obtain ⟨V, h1, h2, h3, h4, h5⟩ := h
  obtain ⟨a', c', hv, hc, hm, hg⟩ := own_form h2
  injection hv with e1 e2 e3
  subst e1 e2 e3
  obtain ⟨g, rfl, hB, hlt⟩ := hg (by omega)
  have hr := h3 i (by omega)
  obtain ⟨ra, rc, hrv, _⟩ := own_form hr
  rw [hrv] at hr
  refine ⟨g, ra, rc, rfl, ?_, hr⟩
  rw [World.ownsRow.cellAt h2 i (by omega), ← hrv]
  simp [show i < V.length by omega]
theorem ownM_lit1 (w : World) (B : Nat) (hB : B ≤ w.heap.size) {rv : Value} {l : List Int} (ho : Own w B rv l) : OwnM (w.alloc (.cells #[rv] 28)) B (.slice (some ⟨w.heap.size, 0, none⟩) 1 1) [l] := by
  refine ⟨[rv], rfl, World.ownsRow_lit w #[rv] 1 hB (by decide) rfl, fun i hi => ?_, fun i hi k hk => ?_, fun i j hi hj hne => ?_⟩
  · obtain rfl : i = 0 := by simp at hi; omega
    exact ho.below (b_alloc w _)
  · obtain rfl : i = 0 := by simp at hi; omega
    have := (own_lt ho hk).2
    intro e
    simp only [Value.ownBlock, Option.some.injEq] at e
    omega
  · simp at hi hj; omega
/-- A part of one row. -/
theorem mat_sub {w : World} {b off n : Nat} {R : List (List Int)} (h : Mat w (some ⟨b, off, none⟩) n R) (k : Nat) (hk : k < n) : Mat w (some ⟨b, off + k, none⟩) 1 [R.getD k []] := by
  obtain ⟨h1, h2, h3⟩ := h
  refine ⟨rfl, by decide, .inr ?_⟩
  rcases h3 with h3 | ⟨b', off', e, hlt, hc⟩
  · omega
  · injection e with e
    injection e with e1 e2
    subst e1 e2
    refine ⟨b, off + k, rfl, hlt, fun i hi => ?_⟩
    obtain rfl : i = 0 := by omega
    obtain ⟨ra, rc, hr, hI⟩ := hc k hk
    exact ⟨ra, rc, hr, hI⟩
/-- The weights to a node, one row for each number of arcs. -/
def M.wtM (A : Nat → Nat → Int) (n t k : Nat) : List (List Int) := M.mk k n fun s j => M.cpw A n s t j
theorem M.wt_row (A : Nat → Nat → Int) (n t k s : Nat) (h : s < k) : (M.wtM A n t k).getD s [] = (List.range n).map fun j => M.cpw A n s t j := M.mk_row _ _ _ _ h
theorem M.wt_next (R : List (List Int)) (n t s : Nat) : (M.mk 1 n (fun i j => M.dot [(List.range n).map fun j => M.cpw (M.ent R) n s t j] R i j n)).getD 0 [] = (List.range n).map fun j => M.cpw (M.ent R) n (s + 1) t j := by
  rw [M.mk_row _ _ _ _ (by omega)]
  refine List.map_congr_left fun j _ => ?_
  unfold M.dot
  refine M.sumN_congr fun u hu => ?_
  congr 1
  unfold M.ent
  simp [hu]


end Go.Proofs.YthonlfjjgmmnpaaGreat.V

namespace Go.Proofs.YthonlfjjgmmnpaaGreat
namespace V
set_option maxRecDepth 100000
open Go.RowKit
theorem row_nil (w : World) (B : Nat) : w.ownsRow B 28 1 (.slice none 0 0) 0 [] := ⟨rfl, .inl ⟨rfl, rfl⟩⟩
set_option maxRecDepth 100000 in
set_option maxHeartbeats 1000000 in
theorem eigenColumns (a : Option Addr) (n cap : Nat) (R : List (List Int)) (w : World) (h : Mat w a n R) :
    Calls Tryz.prog 35 #[.slice a n cap] w (MRes (M.colsRes R) w) := by
  have HA := Lib.hid h
  by_cases hk : M.crCode R = 0
  · obtain ⟨hs, hc⟩ := M.cr_code hk
    have hRn : R.length = n := h.1
    have HRn := Lib.hid hRn
    have HQ := Lib.hid (sq_of h hs)
    have HCr : Hid (M.compRes R = (M.crComps R, 0)) := by show _ = _; unfold M.compRes; rw [if_pos hk]
    have HE : Hid (M.colsRes R = if (M.colsL R).all M.isVec then (M.colsL R, 0) else ([], 3)) := by show _ = _; unfold M.colsRes; rw [if_pos hk]
    obtain ⟨hr, n1, n2, hsm⟩ := sq_parts h hs
    have HR := Lib.hid hr
    have HSm := Lib.hid hsm
    obtain ⟨hnear, -, hp⟩ := M.cr_t hs hc
    have hS : M.crS R = M.shf (M.ent R) (M.bestR (M.ent R) n).1 (M.bestR (M.ent R) n).2 := by
      funext i j; unfold M.crS; rw [hRn]
    have HCol := Lib.hid (fun k (hk : k < (M.crComps R).length) => M.col_at hRn hk)
    have HCl := Lib.hid (M.colsL_len R)
    have HCm : Hid ((M.crComps R).length ≤ n) := by show _; rw [← hRn]; exact M.crComps_len R
    have HMt := Lib.hid (M.cols_mat hs hc)
    have HUp := Lib.hid (M.colIds_up R)
    have HLt : Hid (∀ i, i ∈ M.colIds R → i < n) := fun i hi => by rw [← hRn]; exact M.colIds_lt hi
    have HCd : Hid (M.colsL R = (M.colIds R).map fun i => (M.stcM (M.crS R) n).getD i []) := by show _ = _; unfold M.colsL; rw [hRn]
    have HIl : Hid ((M.colIds R).length = (M.crComps R).length) := by show _ = _; unfold M.colIds; simp
    rw [hRn] at hc hnear hp
    obtain ⟨r, hrr⟩ : ∃ r, r = M.bestR (M.ent R) n := ⟨_, rfl⟩
    rw [← hrr] at hnear hS
    rw [hS] at hp
    have HSe := Lib.hid hS
    have HNear := Lib.hid hnear
    have HP := Lib.hid hp
    have HRr := Lib.hid hrr
    have HCy := Lib.hid hc
    obtain ⟨r1, r2⟩ := r
    clear h hk hs hr hsm hc hnear hp hrr hS hRn
    go_enter Tryz.func35, Tryz.ntmps35
    go_wp2_with fail
    refine (criticalComponentsX _ _ _ R _ HA.out).mono ?_
    rintro e w1 ⟨b1, m1, c1, rfl, ho, hb⟩
    rw [HCr.out] at ho ⊢
    have HM1 : Hid (m1 = (M.crComps R).length) := ho.len
    have HL1 : Hid (Mat w1 b1 m1 (M.crComps R)) := ho.mat
    have HB1 := Lib.hid hb
    clear ho hb
    go_wp2_with fail
    refine (powerMean _ _ _ R _ ⟨HA.out.below HB1.out, HQ.out.2.1, HQ.out.2.2.1, n1, n2⟩ HSm.out HCy.out).mono ?_
    rintro e w2 ⟨rfl, hb⟩
    rw [← HRr.out]
    have HL2 := Lib.hid (HL1.out.below hb)
    have HB2 := Lib.hid (HB1.out.trans (hb.mono HB1.out.size))
    clear hb HL1
    go_wp2_with fail
    refine (starColumns _ _ _ R r1 r2 _ (HA.out.below HB2.out) HR.out n1 n2 HSm.out HNear.out HP.out).mono ?_
    rintro e w3 ⟨b3, c3, rfl, ho, hb⟩
    rw [← HSe.out] at ho
    obtain ⟨g3, ra3, rc3, rfl, -⟩ := ho.row 0 (by omega)
    obtain ⟨V, hV⟩ := ho
    have hVl : (M.stcM (M.crS R) n).length = n := (M.rect_stc _ _).1
    have HTl : Hid (∀ c, c < n → ((M.stcM (M.crS R) n).getD c []).length = n) := fun c hc => (M.rect_stc _ _).2 c hc
    have HV3 := Lib.hid hV
    have HL3 := Lib.hid (HL2.out.below hb)
    have HB3 := Lib.hid (HB2.out.trans (hb.mono HB2.out.size))
    have hz2 := HB2.out.size
    have hcl := HCl.out
    have hcm := HCm.out
    have hil := HIl.out
    clear hb hV HL2
    rw [← HM1.out] at hcl hcm hil
    have HIm := Lib.hid hil
    clear hcl hil
    generalize M.stcM (M.crS R) n = T at *
    generalize M.crComps R = LC at *
    generalize hLn : M.colsL R = LN at *
    clear hLn
    generalize hids : M.colIds R = ids at *
    clear hids
    go_wp2
    go_loopw [7, 9, 25] (fun o _ kv wr => ∃ (k : Nat) (b : Option Addr) (c : Nat), k ≤ m1 ∧ kv = .int .i64 k ∧ o = .slice b k c ∧ Hid (wr.ownsRow w3.heap.size 28 1 (.slice b k c) k ((ids.take k).map fun i => V.getD i (.slice none 0 0))) ∧ Hid (Below w3.heap.size w3 wr)) (fun _ _ kv _ => m1 - (intOf kv).toNat)
    case atStart => exact ⟨0, none, 0, Nat.zero_le _, rfl, rfl, row_nil _ _, Below.refl _ _⟩
    case round =>
      obtain ⟨k, b, c, hk, rfl, rfl, HO, HB⟩ := hrel
      obtain ⟨wo, rfl⟩ : ∃ x, x = wr := ⟨_, rfl⟩
      by_cases hkl : k < m1
      · have hki : (k : Int) < (m1 : Int) := by omega
        obtain ⟨cc, hcc, hlen, hfst, -, hids⟩ := HCol.out k (by have := HM1.out; omega)
        obtain ⟨gb, go_, rb, ro, L7, rc7, x7, hb6, hL7, hx7, q1, q2⟩ := (HL3.out.below HB.out).ent k 0 hkl (by omega)
        subst hb6
        rw [Nat.add_zero] at q2
        have hx8 : x7 = (cc : Int) := by rw [hx7]; exact hfst
        subst hx8
        obtain ⟨g7, ra7, rc8, hgg, hvv, hcr, -⟩ := (HV3.out.below HB.out).cell cc hcc
        injection hgg with hgg
        injection hgg with hgg
        subst hgg
        rw [HTl.out cc hcc] at hvv hcr
        have HVv := Lib.hid hvv
        have HIx := Lib.hid hids
        have hci : (cc : Int) < (n : Int) := by omega
        have hL0 : (0 : Int) < (L7 : Int) := by omega
        clear hx7 hfst hL7 hids hvv hlen
        go_wp2_with (at_builtin; refine appendVal wo rfl (.tmp 29) (.tmp 36) rfl w3.heap.size _ _ ra7 n rc8 _ rfl HO.out rfl (by omega) HB.out.size ?_)
        intro b4 c4 w8 hO4 hb4 _
        have HO8 := Lib.hid hO4
        have HB8 := Lib.hid (HB.out.trans hb4)
        clear hO4 hb4
        go_wp2
        go_roundw
        case rel => exact ⟨k + 1, b4, c4, by omega, by go_num, rfl, by show World.ownsRow _ _ _ _ _ _ _; rw [HIx.out, List.map_append]; have := HO8.out; rw [← HVv.out] at this; (try rw [← List.map_take] at this); exact this, HB8⟩
        case measure => simp [intOf]; omega
      · obtain rfl : k = m1 := by omega
        have hta : ids.take k = ids := List.take_of_length_le (by have := HIm.out; omega)
        have HOf : Hid (OwnM wo w2.heap.size (.slice b k c) LN) := by
          show OwnM _ _ _ _
          rw [HCd.out]
          have ho := HO.out
          rw [hta] at ho
          refine ⟨_, OwnV.pick HV3.out _ HUp.out (fun i hi => by rw [hVl]; exact HLt.out i hi) (by rw [HIm.out]; exact World.ownsRow.mono ho (by have h1 := own_lt HV3.out.2.1 (k := g3) rfl; omega)) fun i kk hi e => ?_⟩
          have hlt := own_lt (HV3.out.2.2.1 i hi) e
          refine ⟨HB.out.block kk (by omega), by omega, fun e2 => ?_⟩
          have := own_lt ho e2
          omega
        obtain ⟨bv, hbv⟩ : ∃ x, x = LN.all M.isVec := ⟨_, rfl⟩
        have HBv := Lib.hid hbv
        have HMb : Hid (M.isMat LN = bv) := HMt.out.trans hbv.symm
        clear hta hbv HO
        have HBf := Lib.hid (HB3.out.trans (HB.out.mono HB3.out.size))
        cases bv with
        | false =>
          have HCi : Hid (Calls Tryz.prog 81 #[.slice b k c] wo fun e w' => e = .returned (.bool false) ∧ wo = w') := isMatrix_b _ _ _ LN _ false HMb.out HOf.out.mat
          go_wp2_with fail
          refine (HCi.out).mono ?_
          rintro e w' ⟨rfl, rfl⟩
          go_wp2
          go_ret2
          exact MRes.nil (by rw [HE.out, ← HBv.out]; rfl) HBf.out
        | true =>
          have HCi : Hid (Calls Tryz.prog 81 #[.slice b k c] wo fun e w' => e = .returned (.bool true) ∧ wo = w') := isMatrix_b _ _ _ LN _ true HMb.out HOf.out.mat
          go_wp2_with fail
          refine (HCi.out).mono ?_
          rintro e w' ⟨rfl, rfl⟩
          go_wp2
          go_ret2
          rw [HE.out, ← HBv.out]
          exact ⟨_, _, _, rfl, HOf.out.mono hz2, HBf.out⟩
  · obtain ⟨k, hkk⟩ : ∃ k, k = M.crCode R := ⟨_, rfl⟩
    have HE : Hid (M.colsRes R = ([], k)) := by show _ = _; unfold M.colsRes; rw [if_neg hk, hkk]
    have HCr : Hid (M.compRes R = ([], k)) := by show _ = _; unfold M.compRes; rw [if_neg hk, hkk]
    have hk0 : (k != 0) = true := by rw [hkk]; simpa using hk
    clear h hk hkk
    go_enter Tryz.func35, Tryz.ntmps35
    go_wp2_with fail
    refine (criticalComponentsX _ _ _ R _ HA.out).mono ?_
    rintro e w1 ⟨b1, m1, c1, rfl, ho, hb⟩
    rw [HCr.out]
    have HB := Lib.hid hb
    clear ho hb
    go_wp2
    go_ret2
    exact MRes.nil HE.out HB.out
end V
end Go.Proofs.YthonlfjjgmmnpaaGreat

namespace Go.Proofs.YthonlfjjgmmnpaaGreat
namespace V
set_option maxRecDepth 100000
open Go.RowKit
set_option maxRecDepth 100000 in
set_option maxHeartbeats 4000000 in
theorem sEigenColumns (a : Option Addr) (n cap : Nat) (R : List (List Int)) (w : World) (h : Mat w a n R) :
    Calls Tryz.prog 36 #[.slice a n cap] w (MRes (M.colsRes R) w) := by
  have HA := Lib.hid h
  by_cases hk : M.crCode R = 0
  · obtain ⟨hs, hc⟩ := M.cr_code hk
    have hRn : R.length = n := h.1
    have HRn := Lib.hid hRn
    have HS := Lib.hid hs
    have HCy := Lib.hid hc
    have HK := Lib.hid hk
    have HE : Hid (M.colsRes R = if (M.colsL R).all M.isVec then (M.colsL R, 0) else ([], 3)) := by show _ = _; unfold M.colsRes; rw [if_pos hk]
    obtain ⟨hr, n1, n2, hsm⟩ := sq_parts h hs
    have HR := Lib.hid hr
    have HSm := Lib.hid hsm
    obtain ⟨hnear, hshm, hp⟩ := M.cr_t hs hc
    have hbc := M.best_cyc hs hc
    have hC : M.mean2 R (M.best2 R) = (M.bestR (M.ent R) n, true) := by
      unfold M.best2
      rw [hc, if_pos rfl]
      unfold M.mean2
      rw [if_pos hbc.1, hbc.2.1, hRn]
    have hS : M.crS R = M.shf (M.ent R) (M.bestR (M.ent R) n).1 (M.bestR (M.ent R) n).2 := by
      funext i j; unfold M.crS; rw [hRn]
    have HCol := Lib.hid (fun k (hk : k < (M.crComps R).length) => M.col_at hRn hk)
    have HCl := Lib.hid (M.colsL_len R)
    have HCm : Hid ((M.crComps R).length ≤ n) := by show _; rw [← hRn]; exact M.crComps_len R
    have HCa : Hid (∀ k, k < (M.colsL R).length → ((M.colsL R).getD k []).length = n) := fun k hk => by rw [← hRn]; exact M.cols_at hk
    rw [hRn] at hc hnear hp hshm
    obtain ⟨r, hrr⟩ : ∃ r, r = M.bestR (M.ent R) n := ⟨_, rfl⟩
    rw [← hrr] at hnear hS hC
    have HC := Lib.hid hC
    have HSe := Lib.hid hS
    have HNear := Lib.hid hnear
    have HP := Lib.hid hp
    have HSh := Lib.hid hshm
    obtain ⟨r1, r2⟩ := r
    clear h hk hs hr hsm hc hnear hp hrr hS hRn hshm hC hbc
    go_enter Tryz.func36, Tryz.ntmps36
    go_wp2_with fail
    refine (sCode _ _ _ R _ HA.out).mono ?_
    rintro e w0 ⟨rfl, hb⟩
    rw [HK.out]
    have HB0 := Lib.hid hb
    clear hb
    go_wp2_with fail
    refine (sBest _ _ _ R _ (HA.out.below HB0.out) HS.out).mono ?_
    rintro e w1 ⟨b1, m1, c1, rfl, ho, hb⟩
    have HO1 := Lib.hid ho
    have HB1 := Lib.hid (HB0.out.trans (hb.mono HB0.out.size))
    have HCp := Lib.hid (own_caps ho)
    clear ho hb
    go_wp2_with fail
    refine (sMean _ _ _ R _ _ _ (M.best2 R) _ (HA.out.below HB1.out) HS.out HO1.out.ints' HCp.out.1 HCp.out.2).mono ?_
    rintro e w2 ⟨rfl, hb⟩
    rw [HC.out]
    have HB2 := Lib.hid (HB1.out.trans (hb.mono HB1.out.size))
    clear hb HO1 HCp
    obtain ⟨wb, hwb⟩ : ∃ x, x = w2.alloc (rbox r1 r2) := ⟨_, rfl⟩
    have HX : Hid (Boxed w2 wb r1 r2) := by show Boxed _ _ _ _; rw [hwb]; exact boxed _ _ _
    have HBx := Lib.hid (HB2.out.trans (HX.out.below.mono HB2.out.size))
    go_wp2_with fail
    change Calls _ _ _ (w2.alloc (rbox r1 r2)) _
    rw [← hwb]
    clear hwb
    refine (sShift _ _ _ R r1 r2 _ (HA.out.below HBx.out) HR.out n1 n2 HSm.out HNear.out).mono ?_
    rintro e w3 ⟨b3, c3, rfl, ho, hb⟩
    rw [← HSe.out] at ho
    have HSq3 : Hid (Sq w3 b3 n (M.mk n n (M.crS R))) := ⟨ho.mat, rect_mk _ _ _, fun i j hi hj => by rw [M.ent_mk _ _ _ _ _ hi hj]; exact HSh.out i j hi hj, n1, n2⟩
    have HB3 := Lib.hid (HBx.out.trans (hb.mono HBx.out.size))
    clear ho hb
    go_wp2_with fail
    refine (sStar _ _ _ (M.mk n n (M.crS R)) _ HSq3.out).mono ?_
    rintro e w4 ⟨b4, c4, rfl, ho, hb⟩
    have hnp : M.noPos (M.ent (M.mk n n (M.crS R))) n = true := by rw [M.noPos_mk]; exact HP.out
    rw [M.bm_star n2 HSq3.out.2.2.1 hnp, M.starM_mk] at ho
    rw [hnp]
    have HO4 := Lib.hid ho.mat
    have HB4 := Lib.hid (HB3.out.trans (hb.mono HB3.out.size))
    clear ho hb hnp HSq3
    go_wp2_with fail
    refine (sTurn _ _ _ n (M.mk n n (M.starF (M.crS R) n)) _ HO4.out (rect_mk _ _ _) n1 n2 n1 n2).mono ?_
    rintro e w5 ⟨b5, c5, rfl, ho, hb⟩
    obtain ⟨g5, ra5, rc5, rfl, -⟩ := ho.row 0 (by omega)
    have HT5 : Hid (OwnM w5 w4.heap.size (.slice (some ⟨g5, 0, none⟩) n c5) (M.stcM (M.crS R) n)) := ho
    have HB5 := Lib.hid (HB4.out.trans (hb.mono HB4.out.size))
    clear ho hb HO4
    go_wp2_with fail
    refine (sComponents6 _ _ _ R _ (HA.out.below HB5.out) HS.out HCy.out).mono ?_
    rintro e w6 ⟨b6, m6, c6, rfl, ho, hb⟩
    have hm6 := ho.len
    have HL6 := Lib.hid ho.mat
    have HT6 := Lib.hid (HT5.out.below hb)
    have HB6 := Lib.hid (HB5.out.trans (hb.mono HB5.out.size))
    have hcl := HCl.out
    have hcm := HCm.out
    clear ho hb HT5
    rw [← hm6] at hcl hcm
    generalize M.stcM (M.crS R) n = T at *
    generalize M.crComps R = LC at *
    generalize hLn : M.colsL R = LN at *
    clear hLn
    go_wp2
    go_loopw [13, 14, 15] (fun o kv _ wr => ∃ (k : Nat) (b : Option Addr) (c : Nat), k ≤ m6 ∧ kv = .int .i64 k ∧ o = .slice b k c ∧ Hid (OwnM wr w6.heap.size (.slice b k c) (LN.take k)) ∧ Hid ((LN.take k).all M.isVec = true) ∧ Hid (Below w6.heap.size w6 wr)) (fun _ kv _ _ => m6 - (intOf kv).toNat)
    case atStart => exact ⟨0, _, _, Nat.zero_le _, rfl, rfl, ownM_lit0 _ _ (Nat.le_refl _), rfl, b_alloc _ _⟩
    case round =>
      obtain ⟨k, b, c, hk, rfl, rfl, HO, HAl, HB⟩ := hrel
      obtain ⟨wo, rfl⟩ : ∃ x, x = wr := ⟨_, rfl⟩
      by_cases hkl : k < m6
      · have hki : (k : Int) < (m6 : Int) := by omega
        obtain ⟨cc, hcc, hlen, hfst, hrow, -⟩ := HCol.out k (by omega)
        obtain ⟨gb, go_, rb, ro, L7, rc7, x7, hb6, hL7, hx7, q1, q2⟩ := (HL6.out.below HB.out).ent k 0 hkl (by omega)
        subst hb6
        rw [Nat.add_zero] at q2
        have hx8 : x7 = (cc : Int) := by rw [hx7]; exact hfst
        subst hx8
        obtain ⟨g7, ra7, rc8, hgg, hcr, hro⟩ := (HT6.out.below HB.out).row cc hcc
        injection hgg with hgg
        injection hgg with hgg
        subst hgg
        have hrl : (T.getD cc []).length = n := by rw [← hrow]; exact HCa.out k (by omega)
        rw [hrl] at hcr hro
        rw [← hrow] at hro
        have hci : (cc : Int) < (n : Int) := by omega
        have hL0 : (0 : Int) < (L7 : Int) := by omega
        have hnx := M.takeL_next (L := LN) (k := k) (by omega)
        have HNx := Lib.hid hnx
        have hnl : (LN.take k).length = k := by rw [List.length_take]; omega
        have HIx := Lib.hid hro.ints'
        obtain ⟨bv, hbv⟩ : ∃ b, b = M.isVec (LN.getD k []) := ⟨_, rfl⟩
        have HV := Lib.hid hbv.symm
        clear hx7 hfst hL7 hrow hrl hro hnx hbv hlen
        cases bv with
        | false =>
          have HF := Lib.hid (M.all_take (L := LN) (k := k) (by omega) HV.out)
          go_wp2_with (go_at_call 85; refine (sVector_b _ _ _ (LN.getD k []) _ false HV.out HIx.out).mono ?_; rintro e w' ⟨rfl, rfl⟩)
          go_ret2
          exact MRes.nil (by rw [HE.out, HF.out]; rfl) (HB6.out.trans (HB.out.mono HB6.out.size))
        | true =>
          have HF := Lib.hid (M.all_take_next (L := LN) (k := k) (by omega) HV.out HAl.out)
          go_wp2_with (first | (go_at_call 85; refine (sVector_b _ _ _ (LN.getD k []) _ true HV.out HIx.out).mono ?_; rintro e w' ⟨rfl, rfl⟩) | (go_at_call 59; refine (sOwn _ _ _ (LN.getD k []) _ HIx.out (by omega) (by omega)).mono ?_; rintro e w7 ⟨b7, c7, rfl, ho7, hb7⟩; have HO7 := Lib.hid ho7; have HB7 := Lib.hid hb7; clear ho7 hb7) | (at_builtin; refine appendRow wo _ rfl (.tmp 62) (.tmp 65) rfl w6.heap.size _ _ (LN.take k) (LN.getD k []) _ hnl rfl HO.out HB7.out HO7.out rfl (by omega) HB.out.size ?_))
          intro b4 c4 w8 hO4 hb4 _
          have HO8 := Lib.hid hO4
          have HB8 := Lib.hid ((HB.out.trans (HB7.out.mono HB.out.size)).trans hb4)
          clear hO4 hb4
          go_wp2
          go_roundw
          case rel => exact ⟨k + 1, b4, c4, by omega, by go_num, rfl, by first | exact HO8.out | (show OwnM _ _ _ _; rw [HNx.out]; exact HO8.out), HF, HB8⟩
          case measure => simp [intOf]; omega
      · obtain rfl : k = m6 := by omega
        have hta : LN.take k = LN := List.take_of_length_le (by omega)
        have HF : Hid (LN.all M.isVec = true) := by show _ = _; rw [← hta]; exact HAl.out
        have HOf : Hid (OwnM wo w6.heap.size (.slice b k c) LN) := by show OwnM _ _ _ _; have := HO.out; rw [hta] at this; exact this
        clear hta
        go_wp2
        go_ret2
        rw [HE.out, HF.out]
        exact ⟨_, _, _, rfl, HOf.out.mono HB6.out.size, HB6.out.trans (HB.out.mono HB6.out.size)⟩
  · obtain ⟨k, hkk⟩ : ∃ k, k = M.crCode R := ⟨_, rfl⟩
    have HE : Hid (M.colsRes R = ([], k)) := by show _ = _; unfold M.colsRes; rw [if_neg hk, hkk]
    have HK := Lib.hid hkk
    have hk0 : (k != 0) = true := by rw [hkk]; simpa using hk
    clear h hk hkk
    go_enter Tryz.func36, Tryz.ntmps36
    go_wp2_with fail
    refine (sCode _ _ _ R _ HA.out).mono ?_
    rintro e w1 ⟨rfl, hb⟩
    rw [← HK.out]
    have HB := Lib.hid hb
    clear hb
    go_wp2
    go_ret2
    exact MRes.nil HE.out HB.out
end V
end Go.Proofs.YthonlfjjgmmnpaaGreat

namespace Go.Proofs.YthonlfjjgmmnpaaGreat.V
open Go.RowKit Go.ChangeShapes Go.WideShapes Go.Deep

theorem mat_open {H : Type} {enc : TypeId × Value → H} {P : Program} {w : World} {base : Nat} {held : Bool} {t e q : TypeId} {fuel : Nat} {cs : List Value} {x : DataW H × List MemPlace} (ht : P.underlying t = some (.slice e)) (he : P.underlying e = some (.slice q)) (hq : P.underlying q = some (.int .i64))
    (ce : P.cellsOf e = 1) (cq : P.cellsOf q = 1) (h : DataW.trod enc P w base (fun _ => true) held fuel t cs = some x) :
    ∃ a len cap R, cs = [.slice a len cap] ∧ Mat w a len R := by
  rcases open_int_rows ht he hq ce cq h with ⟨rfl, -⟩ | ⟨a, len, cap, A, L, C, Z, rfl, hb, hl, hm, -, hr⟩
  · exact ⟨none, 0, 0, [], rfl, rfl, Nat.zero_le _, .inl rfl⟩
  · refine ⟨some a, len, cap, (List.range len).map fun r => (Z r).take (L r), rfl, by simp, by omega, ?_⟩
    by_cases h0 : len = 0
    · exact .inl h0
    · have hsp : a.spot = none := by
        have := (hr 0 (by omega)).1
        simpa [Addr.add] using World.cell?_spot this
      obtain ⟨b, off, spot⟩ := a
      simp only at hsp
      subst hsp
      refine .inr ⟨b, off, rfl, ?_, fun i hi => ?_⟩
      · have := cell_lt (hr 0 (by omega)).1
        simpa [Addr.add] using this
      · obtain ⟨h1, h2, h3, h4, h5, h6, h7⟩ := hr i (by omega)
        have eR : ((List.range len).map fun r => (Z r).take (L r)).getD i [] = (Z i).take (L i) := by simp [hi]
        rw [eR]
        have eL : ((Z i).take (L i)).length = L i := by rw [List.length_take]; omega
        rw [eL]
        refine ⟨A i, C i, by rw [← Go.WideShapes.add_plain]; exact h1, eL, by omega, ?_⟩
        by_cases hL : L i = 0
        · exact .inl hL
        · cases hA : A i with
          | none => have := h6 hA; omega
          | some a' =>
            obtain ⟨-, hc⟩ := h7 a' hA
            obtain ⟨b', off', rfl, hc'⟩ := ints_at (k := .i64) (zs := Z i) (fun j hj => hc j (by omega)) (by omega)
            refine .inr ⟨b', off', rfl, cell_lt (hc' 0 (by omega)), fun j hj => ?_⟩
            rw [hc' j (by omega)]
            simp [List.getD_eq_getElem?_getD, hj]
end Go.Proofs.YthonlfjjgmmnpaaGreat.V
