/- Texts laid together: Hv1, Clp, Clm, Eig, Cle, Shp, Sqp, Evq, Evp, Egv. -/
import Derived.Test.YtihpbgjiohnekabGreatQz11
import Derived.Test.YtihpbgjiohnekabGreatQz9
import Derived.Test.YtihpbgjiohnekabGreatQz5
import Derived.Test.YtihpbgjiohnekabGreatQz7
import Derived.Test.YtihpbgjiohnekabGreatQz15
import Derived.Test.YtihpbgjiohnekabGreatQz14
import Derived.Test.YtihpbgjiohnekabGreatQz12
import Derived.Test.YtihpbgjiohnekabGreatQz6
import Derived.Test.YtihpbgjiohnekabGreatQz3
import Derived.Test.YtihpbgjiohnekabGreatQz1
import Derived.Test.YtihpbgjiohnekabGreatQz10
set_option linter.unusedSimpArgs false
set_option linter.unusedVariables false
set_option linter.unusedSectionVars false
namespace Go.Proofs.YtihpbgjiohnekabGreat.V
open Go.RowKit

theorem OwnM.caps {w : World} {B n cap : Nat} {a : Option Addr} {R : List (List Int)} (h : OwnM w B (.slice a n cap) R) : n ≤ cap ∧ cap ≤ maxLen := by
  obtain ⟨V, h1, h2, _⟩ := h
  obtain ⟨a', c', hv, k1, k2, _⟩ := own_form h2
  injection hv with e1 e2 e3
  subst e2 e3
  exact ⟨k1, k2⟩
/-- One row of an owned matrix, as a list of its own. -/
theorem OwnM.row {w : World} {B n cap : Nat} {a : Option Addr} {R : List (List Int)} (h : OwnM w B (.slice a n cap) R) (i : Nat) (hi : i < n) :
    ∃ g ra rc, a = some ⟨g, 0, none⟩ ∧ w.cell? ⟨g, i, none⟩ = some (.slice ra (R.getD i []).length rc) ∧ Own w B (.slice ra (R.getD i []).length rc) (R.getD i []) := by
  have hl := h.len
  obtain ⟨V, h1, h2, h3, h4, h5⟩ := h
  obtain ⟨a', c', hv, hc, hm, hg⟩ := own_form h2
  injection hv with e1 e2 e3
  subst e1 e2 e3
  obtain ⟨g, rfl, hB, hlt⟩ := hg (by omega)
  have hr := h3 i (by omega)
  obtain ⟨ra, rc, hrv, _⟩ := own_form hr
  rw [hrv] at hr
  refine ⟨g, ra, rc, rfl, ?_, hr⟩
  rw [World.ownsRow.cellAt h2 i (by omega), ← hrv]
  simp [show i < V.length by omega]
theorem ownM_lit1 (w : World) (B : Nat) (hB : B ≤ w.heap.size) {rv : Value} {l : List Int} (ho : Own w B rv l) : OwnM (w.alloc (.cells #[rv] 29)) B (.slice (some ⟨w.heap.size, 0, none⟩) 1 1) [l] := by
  refine ⟨[rv], rfl, World.ownsRow_lit w #[rv] 1 hB (by decide) rfl, fun i hi => ?_, fun i hi k hk => ?_, fun i j hi hj hne => ?_⟩
  · obtain rfl : i = 0 := by simp at hi; omega
    exact ho.below (b_alloc w _)
  · obtain rfl : i = 0 := by simp at hi; omega
    have := (own_lt ho hk).2
    intro e
    simp only [Value.ownBlock, Option.some.injEq] at e
    omega
  · simp at hi hj; omega
/-- A part of one row. -/
theorem mat_sub {w : World} {b off n : Nat} {R : List (List Int)} (h : Mat w (some ⟨b, off, none⟩) n R) (k : Nat) (hk : k < n) : Mat w (some ⟨b, off + k, none⟩) 1 [R.getD k []] := by
  obtain ⟨h1, h2, h3⟩ := h
  refine ⟨rfl, by decide, .inr ?_⟩
  rcases h3 with h3 | ⟨b', off', e, hlt, hc⟩
  · omega
  · injection e with e
    injection e with e1 e2
    subst e1 e2
    refine ⟨b, off + k, rfl, hlt, fun i hi => ?_⟩
    obtain rfl : i = 0 := by omega
    obtain ⟨ra, rc, hr, hI⟩ := hc k hk
    exact ⟨ra, rc, hr, hI⟩
/-- The weights to a node, one row for each number of arcs. -/
def M.wtM (A : Nat → Nat → Int) (n t k : Nat) : List (List Int) := M.mk k n fun s j => M.cpw A n s t j
theorem M.wt_row (A : Nat → Nat → Int) (n t k s : Nat) (h : s < k) : (M.wtM A n t k).getD s [] = (List.range n).map fun j => M.cpw A n s t j := M.mk_row _ _ _ _ h
theorem M.wt_next (R : List (List Int)) (n t s : Nat) : (M.mk 1 n (fun i j => M.dot [(List.range n).map fun j => M.cpw (M.ent R) n s t j] R i j n)).getD 0 [] = (List.range n).map fun j => M.cpw (M.ent R) n (s + 1) t j := by
  rw [M.mk_row _ _ _ _ (by omega)]
  refine List.map_congr_left fun j _ => ?_
  unfold M.dot
  refine M.sumN_congr fun u hu => ?_
  congr 1
  unfold M.ent
  simp [hu]


end Go.Proofs.YtihpbgjiohnekabGreat.V

namespace Go.Proofs.YtihpbgjiohnekabGreat
namespace V
set_option maxRecDepth 100000
open Go.RowKit
theorem row_nil (w : World) (B : Nat) : w.ownsRow B 29 1 (.slice none 0 0) 0 [] := ⟨rfl, .inl ⟨rfl, rfl⟩⟩
set_option maxRecDepth 100000 in
set_option maxHeartbeats 1000000 in
theorem eigenColumns (a : Option Addr) (n cap : Nat) (R : List (List Int)) (w : World) (h : Mat w a n R) :
    Calls Tryz.prog 65 #[.slice a n cap] w (MRes (M.colsRes R) w) := by
  have HA := Lib.hid h
  by_cases hk : M.crCode R = 0
  · obtain ⟨hs, hc⟩ := M.cr_code hk
    have hRn : R.length = n := h.1
    have HRn := Lib.hid hRn
    have HQ := Lib.hid (sq_of h hs)
    have HCr : Hid (M.compRes R = (M.crComps R, 0)) := by show _ = _; unfold M.compRes; rw [if_pos hk]
    have HE : Hid (M.colsRes R = if (M.colsL R).all M.isVec then (M.colsL R, 0) else ([], 3)) := by show _ = _; unfold M.colsRes; rw [if_pos hk]
    obtain ⟨hr, n1, n2, hsm⟩ := sq_parts h hs
    have HR := Lib.hid hr
    have HSm := Lib.hid hsm
    obtain ⟨hnear, -, hp⟩ := M.cr_t hs hc
    have hS : M.crS R = M.shf (M.ent R) (M.bestR (M.ent R) n).1 (M.bestR (M.ent R) n).2 := by
      funext i j; unfold M.crS; rw [hRn]
    have HCol := Lib.hid (fun k (hk : k < (M.crComps R).length) => M.col_at hRn hk)
    have HCl := Lib.hid (M.colsL_len R)
    have HCm : Hid ((M.crComps R).length ≤ n) := by show _; rw [← hRn]; exact M.crComps_len R
    have HMt := Lib.hid (M.cols_mat hs hc)
    have HUp := Lib.hid (M.colIds_up R)
    have HLt : Hid (∀ i, i ∈ M.colIds R → i < n) := fun i hi => by rw [← hRn]; exact M.colIds_lt hi
    have HCd : Hid (M.colsL R = (M.colIds R).map fun i => (M.stcM (M.crS R) n).getD i []) := by show _ = _; unfold M.colsL; rw [hRn]
    have HIl : Hid ((M.colIds R).length = (M.crComps R).length) := by show _ = _; unfold M.colIds; simp
    rw [hRn] at hc hnear hp
    obtain ⟨r, hrr⟩ : ∃ r, r = M.bestR (M.ent R) n := ⟨_, rfl⟩
    rw [← hrr] at hnear hS
    rw [hS] at hp
    have HSe := Lib.hid hS
    have HNear := Lib.hid hnear
    have HP := Lib.hid hp
    have HRr := Lib.hid hrr
    have HCy := Lib.hid hc
    obtain ⟨r1, r2⟩ := r
    clear h hk hs hr hsm hc hnear hp hrr hS hRn
    go_enter Tryz.func65, Tryz.ntmps65
    go_wp2_with fail
    refine (criticalComponentsX _ _ _ R _ HA.out).mono ?_
    rintro e w1 ⟨b1, m1, c1, rfl, ho, hb⟩
    rw [HCr.out] at ho ⊢
    have HM1 : Hid (m1 = (M.crComps R).length) := ho.len
    have HL1 : Hid (Mat w1 b1 m1 (M.crComps R)) := ho.mat
    have HB1 := Lib.hid hb
    clear ho hb
    go_wp2_with fail
    refine (powerMean _ _ _ R _ ⟨HA.out.below HB1.out, HQ.out.2.1, HQ.out.2.2.1, n1, n2⟩ HSm.out HCy.out).mono ?_
    rintro e w2 ⟨rfl, hb⟩
    rw [← HRr.out]
    have HL2 := Lib.hid (HL1.out.below hb)
    have HB2 := Lib.hid (HB1.out.trans (hb.mono HB1.out.size))
    clear hb HL1
    go_wp2_with fail
    refine (starColumns _ _ _ R r1 r2 _ (HA.out.below HB2.out) HR.out n1 n2 HSm.out HNear.out HP.out).mono ?_
    rintro e w3 ⟨b3, c3, rfl, ho, hb⟩
    rw [← HSe.out] at ho
    obtain ⟨g3, ra3, rc3, rfl, -⟩ := ho.row 0 (by omega)
    obtain ⟨V, hV⟩ := ho
    have hVl : (M.stcM (M.crS R) n).length = n := (M.rect_stc _ _).1
    have HTl : Hid (∀ c, c < n → ((M.stcM (M.crS R) n).getD c []).length = n) := fun c hc => (M.rect_stc _ _).2 c hc
    have HV3 := Lib.hid hV
    have HL3 := Lib.hid (HL2.out.below hb)
    have HB3 := Lib.hid (HB2.out.trans (hb.mono HB2.out.size))
    have hz2 := HB2.out.size
    have hcl := HCl.out
    have hcm := HCm.out
    have hil := HIl.out
    clear hb hV HL2
    rw [← HM1.out] at hcl hcm hil
    have HIm := Lib.hid hil
    clear hcl hil
    generalize M.stcM (M.crS R) n = T at *
    generalize M.crComps R = LC at *
    generalize hLn : M.colsL R = LN at *
    clear hLn
    generalize hids : M.colIds R = ids at *
    clear hids
    go_wp2
    go_loopw [7, 9, 25] (fun o _ kv wr => ∃ (k : Nat) (b : Option Addr) (c : Nat), k ≤ m1 ∧ kv = .int .i64 k ∧ o = .slice b k c ∧ Hid (wr.ownsRow w3.heap.size 29 1 (.slice b k c) k ((ids.take k).map fun i => V.getD i (.slice none 0 0))) ∧ Hid (Below w3.heap.size w3 wr)) (fun _ _ kv _ => m1 - (intOf kv).toNat)
    case atStart => exact ⟨0, none, 0, Nat.zero_le _, rfl, rfl, row_nil _ _, Below.refl _ _⟩
    case round =>
      obtain ⟨k, b, c, hk, rfl, rfl, HO, HB⟩ := hrel
      obtain ⟨wo, rfl⟩ : ∃ x, x = wr := ⟨_, rfl⟩
      by_cases hkl : k < m1
      · have hki : (k : Int) < (m1 : Int) := by omega
        obtain ⟨cc, hcc, hlen, hfst, -, hids⟩ := HCol.out k (by have := HM1.out; omega)
        obtain ⟨gb, go_, rb, ro, L7, rc7, x7, hb6, hL7, hx7, q1, q2⟩ := (HL3.out.below HB.out).ent k 0 hkl (by omega)
        subst hb6
        rw [Nat.add_zero] at q2
        have hx8 : x7 = (cc : Int) := by rw [hx7]; exact hfst
        subst hx8
        obtain ⟨g7, ra7, rc8, hgg, hvv, hcr, -⟩ := (HV3.out.below HB.out).cell cc hcc
        injection hgg with hgg
        injection hgg with hgg
        subst hgg
        rw [HTl.out cc hcc] at hvv hcr
        have HVv := Lib.hid hvv
        have HIx := Lib.hid hids
        have hci : (cc : Int) < (n : Int) := by omega
        have hL0 : (0 : Int) < (L7 : Int) := by omega
        clear hx7 hfst hL7 hids hvv hlen
        go_wp2_with (at_builtin; refine appendVal wo rfl (.tmp 29) (.tmp 36) rfl w3.heap.size _ _ ra7 n rc8 _ rfl HO.out rfl (by omega) HB.out.size ?_)
        intro b4 c4 w8 hO4 hb4 _
        have HO8 := Lib.hid hO4
        have HB8 := Lib.hid (HB.out.trans hb4)
        clear hO4 hb4
        go_wp2
        go_roundw
        case rel => exact ⟨k + 1, b4, c4, by omega, by go_num, rfl, by show World.ownsRow _ _ _ _ _ _ _; rw [HIx.out, List.map_append]; have := HO8.out; rw [← HVv.out] at this; (try rw [← List.map_take] at this); exact this, HB8⟩
        case measure => simp [intOf]; omega
      · obtain rfl : k = m1 := by omega
        have hta : ids.take k = ids := List.take_of_length_le (by have := HIm.out; omega)
        have HOf : Hid (OwnM wo w2.heap.size (.slice b k c) LN) := by
          show OwnM _ _ _ _
          rw [HCd.out]
          have ho := HO.out
          rw [hta] at ho
          refine ⟨_, OwnV.pick HV3.out _ HUp.out (fun i hi => by rw [hVl]; exact HLt.out i hi) (by rw [HIm.out]; exact World.ownsRow.mono ho (by have h1 := own_lt HV3.out.2.1 (k := g3) rfl; omega)) fun i kk hi e => ?_⟩
          have hlt := own_lt (HV3.out.2.2.1 i hi) e
          refine ⟨HB.out.block kk (by omega), by omega, fun e2 => ?_⟩
          have := own_lt ho e2
          omega
        obtain ⟨bv, hbv⟩ : ∃ x, x = LN.all M.isVec := ⟨_, rfl⟩
        have HBv := Lib.hid hbv
        have HMb : Hid (M.isMat LN = bv) := HMt.out.trans hbv.symm
        clear hta hbv HO
        have HBf := Lib.hid (HB3.out.trans (HB.out.mono HB3.out.size))
        cases bv with
        | false =>
          have HCi : Hid (Calls Tryz.prog 81 #[.slice b k c] wo fun e w' => e = .returned (.tuple #[.slice none 0 0, .int .i64 3]) ∧ wo = w') := checkedMatrix_f _ _ _ LN _ HMb.out HOf.out.mat
          go_wp2_with fail
          refine (HCi.out).mono ?_
          rintro e w' ⟨rfl, rfl⟩
          go_wp2
          go_ret2
          exact MRes.nil (by rw [HE.out, ← HBv.out]; rfl) HBf.out
        | true =>
          have HCi : Hid (Calls Tryz.prog 81 #[.slice b k c] wo fun e w' => e = .returned (.tuple #[.slice b k c, .int .i64 0]) ∧ wo = w') := checkedMatrix_t _ _ _ LN _ HMb.out HOf.out.mat
          go_wp2_with fail
          refine (HCi.out).mono ?_
          rintro e w' ⟨rfl, rfl⟩
          go_wp2
          go_ret2
          rw [HE.out, ← HBv.out]
          exact ⟨_, _, _, rfl, HOf.out.mono hz2, HBf.out⟩
  · obtain ⟨k, hkk⟩ : ∃ k, k = M.crCode R := ⟨_, rfl⟩
    have HE : Hid (M.colsRes R = ([], k)) := by show _ = _; unfold M.colsRes; rw [if_neg hk, hkk]
    have HCr : Hid (M.compRes R = ([], k)) := by show _ = _; unfold M.compRes; rw [if_neg hk, hkk]
    have hk0 : (k != 0) = true := by rw [hkk]; simpa using hk
    clear h hk hkk
    go_enter Tryz.func65, Tryz.ntmps65
    go_wp2_with fail
    refine (criticalComponentsX _ _ _ R _ HA.out).mono ?_
    rintro e w1 ⟨b1, m1, c1, rfl, ho, hb⟩
    rw [HCr.out]
    have HB := Lib.hid hb
    clear ho hb
    go_wp2
    go_ret2
    exact MRes.nil HE.out HB.out
end V
end Go.Proofs.YtihpbgjiohnekabGreat

namespace Go.Proofs.YtihpbgjiohnekabGreat
namespace V
set_option maxRecDepth 100000
open Go.RowKit
set_option maxRecDepth 100000 in
set_option maxHeartbeats 4000000 in
theorem sEigenColumns (a : Option Addr) (n cap : Nat) (R : List (List Int)) (w : World) (h : Mat w a n R) :
    Calls Tryz.prog 66 #[.slice a n cap] w (MRes (M.colsRes R) w) := by
  have HA := Lib.hid h
  by_cases hk : M.crCode R = 0
  · obtain ⟨hs, hc⟩ := M.cr_code hk
    have hRn : R.length = n := h.1
    have HRn := Lib.hid hRn
    have HS := Lib.hid hs
    have HCy := Lib.hid hc
    have HK := Lib.hid hk
    have HE : Hid (M.colsRes R = if (M.colsL R).all M.isVec then (M.colsL R, 0) else ([], 3)) := by show _ = _; unfold M.colsRes; rw [if_pos hk]
    obtain ⟨hr, n1, n2, hsm⟩ := sq_parts h hs
    have HR := Lib.hid hr
    have HSm := Lib.hid hsm
    obtain ⟨hnear, hshm, hp⟩ := M.cr_t hs hc
    have hbc := M.best_cyc hs hc
    have hC : M.mean2 R (M.best2 R) = (M.bestR (M.ent R) n, true) := by
      unfold M.best2
      rw [hc, if_pos rfl]
      unfold M.mean2
      rw [if_pos hbc.1, hbc.2.1, hRn]
    have hS : M.crS R = M.shf (M.ent R) (M.bestR (M.ent R) n).1 (M.bestR (M.ent R) n).2 := by
      funext i j; unfold M.crS; rw [hRn]
    have HCol := Lib.hid (fun k (hk : k < (M.crComps R).length) => M.col_at hRn hk)
    have HCl := Lib.hid (M.colsL_len R)
    have HCm : Hid ((M.crComps R).length ≤ n) := by show _; rw [← hRn]; exact M.crComps_len R
    have HCa : Hid (∀ k, k < (M.colsL R).length → ((M.colsL R).getD k []).length = n) := fun k hk => by rw [← hRn]; exact M.cols_at hk
    rw [hRn] at hc hnear hp hshm
    obtain ⟨r, hrr⟩ : ∃ r, r = M.bestR (M.ent R) n := ⟨_, rfl⟩
    rw [← hrr] at hnear hS hC
    have HC := Lib.hid hC
    have HSe := Lib.hid hS
    have HNear := Lib.hid hnear
    have HP := Lib.hid hp
    have HSh := Lib.hid hshm
    obtain ⟨r1, r2⟩ := r
    clear h hk hs hr hsm hc hnear hp hrr hS hRn hshm hC hbc
    go_enter Tryz.func66, Tryz.ntmps66
    go_wp2_with fail
    refine (sCode _ _ _ R _ HA.out).mono ?_
    rintro e w0 ⟨rfl, hb⟩
    rw [HK.out]
    have HB0 := Lib.hid hb
    clear hb
    go_wp2_with fail
    refine (sBest _ _ _ R _ (HA.out.below HB0.out) HS.out).mono ?_
    rintro e w1 ⟨b1, m1, c1, rfl, ho, hb⟩
    have HO1 := Lib.hid ho
    have HB1 := Lib.hid (HB0.out.trans (hb.mono HB0.out.size))
    have HCp := Lib.hid (own_caps ho)
    clear ho hb
    go_wp2_with fail
    refine (sMean _ _ _ R _ _ _ (M.best2 R) _ (HA.out.below HB1.out) HS.out HO1.out.ints' HCp.out.1 HCp.out.2).mono ?_
    rintro e w2 ⟨rfl, hb⟩
    rw [HC.out]
    have HB2 := Lib.hid (HB1.out.trans (hb.mono HB1.out.size))
    clear hb HO1 HCp
    obtain ⟨wb, hwb⟩ : ∃ x, x = w2.alloc (rbox r1 r2) := ⟨_, rfl⟩
    have HX : Hid (Boxed w2 wb r1 r2) := by show Boxed _ _ _ _; rw [hwb]; exact boxed _ _ _
    have HBx := Lib.hid (HB2.out.trans (HX.out.below.mono HB2.out.size))
    go_wp2_with fail
    change Calls _ _ _ (w2.alloc (rbox r1 r2)) _
    rw [← hwb]
    clear hwb
    refine (sShift _ _ _ R r1 r2 _ (HA.out.below HBx.out) HR.out n1 n2 HSm.out HNear.out).mono ?_
    rintro e w3 ⟨b3, c3, rfl, ho, hb⟩
    rw [← HSe.out] at ho
    have HSq3 : Hid (Sq w3 b3 n (M.mk n n (M.crS R))) := ⟨ho.mat, rect_mk _ _ _, fun i j hi hj => by rw [M.ent_mk _ _ _ _ _ hi hj]; exact HSh.out i j hi hj, n1, n2⟩
    have HB3 := Lib.hid (HBx.out.trans (hb.mono HBx.out.size))
    clear ho hb
    go_wp2_with fail
    refine (sStar _ _ _ (M.mk n n (M.crS R)) _ HSq3.out).mono ?_
    rintro e w4 ⟨b4, c4, rfl, ho, hb⟩
    have hnp : M.noPos (M.ent (M.mk n n (M.crS R))) n = true := by rw [M.noPos_mk]; exact HP.out
    rw [M.bm_star n2 HSq3.out.2.2.1 hnp, M.starM_mk] at ho
    rw [hnp]
    have HO4 := Lib.hid ho.mat
    have HB4 := Lib.hid (HB3.out.trans (hb.mono HB3.out.size))
    clear ho hb hnp HSq3
    go_wp2_with fail
    refine (sTurn _ _ _ n (M.mk n n (M.starF (M.crS R) n)) _ HO4.out (rect_mk _ _ _) n1 n2 n1 n2).mono ?_
    rintro e w5 ⟨b5, c5, rfl, ho, hb⟩
    obtain ⟨g5, ra5, rc5, rfl, -⟩ := ho.row 0 (by omega)
    have HT5 : Hid (OwnM w5 w4.heap.size (.slice (some ⟨g5, 0, none⟩) n c5) (M.stcM (M.crS R) n)) := ho
    have HB5 := Lib.hid (HB4.out.trans (hb.mono HB4.out.size))
    clear ho hb HO4
    go_wp2_with fail
    refine (sComponents6 _ _ _ R _ (HA.out.below HB5.out) HS.out HCy.out).mono ?_
    rintro e w6 ⟨b6, m6, c6, rfl, ho, hb⟩
    have hm6 := ho.len
    have HL6 := Lib.hid ho.mat
    have HT6 := Lib.hid (HT5.out.below hb)
    have HB6 := Lib.hid (HB5.out.trans (hb.mono HB5.out.size))
    have hcl := HCl.out
    have hcm := HCm.out
    clear ho hb HT5
    rw [← hm6] at hcl hcm
    generalize M.stcM (M.crS R) n = T at *
    generalize M.crComps R = LC at *
    generalize hLn : M.colsL R = LN at *
    clear hLn
    go_wp2
    go_loopw [13, 14, 15] (fun o kv _ wr => ∃ (k : Nat) (b : Option Addr) (c : Nat), k ≤ m6 ∧ kv = .int .i64 k ∧ o = .slice b k c ∧ Hid (OwnM wr w6.heap.size (.slice b k c) (LN.take k)) ∧ Hid ((LN.take k).all M.isVec = true) ∧ Hid (Below w6.heap.size w6 wr)) (fun _ kv _ _ => m6 - (intOf kv).toNat)
    case atStart => exact ⟨0, _, _, Nat.zero_le _, rfl, rfl, ownM_lit0 _ _ (Nat.le_refl _), rfl, b_alloc _ _⟩
    case round =>
      obtain ⟨k, b, c, hk, rfl, rfl, HO, HAl, HB⟩ := hrel
      obtain ⟨wo, rfl⟩ : ∃ x, x = wr := ⟨_, rfl⟩
      by_cases hkl : k < m6
      · have hki : (k : Int) < (m6 : Int) := by omega
        obtain ⟨cc, hcc, hlen, hfst, hrow, -⟩ := HCol.out k (by omega)
        obtain ⟨gb, go_, rb, ro, L7, rc7, x7, hb6, hL7, hx7, q1, q2⟩ := (HL6.out.below HB.out).ent k 0 hkl (by omega)
        subst hb6
        rw [Nat.add_zero] at q2
        have hx8 : x7 = (cc : Int) := by rw [hx7]; exact hfst
        subst hx8
        obtain ⟨g7, ra7, rc8, hgg, hcr, hro⟩ := (HT6.out.below HB.out).row cc hcc
        injection hgg with hgg
        injection hgg with hgg
        subst hgg
        have hrl : (T.getD cc []).length = n := by rw [← hrow]; exact HCa.out k (by omega)
        rw [hrl] at hcr hro
        rw [← hrow] at hro
        have hci : (cc : Int) < (n : Int) := by omega
        have hL0 : (0 : Int) < (L7 : Int) := by omega
        have hnx := M.takeL_next (L := LN) (k := k) (by omega)
        have HNx := Lib.hid hnx
        have hnl : (LN.take k).length = k := by rw [List.length_take]; omega
        have HIx := Lib.hid hro.ints'
        obtain ⟨bv, hbv⟩ : ∃ b, b = M.isVec (LN.getD k []) := ⟨_, rfl⟩
        have HV := Lib.hid hbv.symm
        clear hx7 hfst hL7 hrow hrl hro hnx hbv hlen
        cases bv with
        | false =>
          have HF := Lib.hid (M.all_take (L := LN) (k := k) (by omega) HV.out)
          go_wp2_with (go_at_call 124; refine (sVector_b _ _ _ (LN.getD k []) _ false HV.out HIx.out).mono ?_; rintro e w' ⟨rfl, rfl⟩)
          go_ret2
          exact MRes.nil (by rw [HE.out, HF.out]; rfl) (HB6.out.trans (HB.out.mono HB6.out.size))
        | true =>
          have HF := Lib.hid (M.all_take_next (L := LN) (k := k) (by omega) HV.out HAl.out)
          go_wp2_with (first | (go_at_call 124; refine (sVector_b _ _ _ (LN.getD k []) _ true HV.out HIx.out).mono ?_; rintro e w' ⟨rfl, rfl⟩) | (go_at_call 117; refine (sOwn _ _ _ (LN.getD k []) _ HIx.out (by omega) (by omega)).mono ?_; rintro e w7 ⟨b7, c7, rfl, ho7, hb7⟩; have HO7 := Lib.hid ho7; have HB7 := Lib.hid hb7; clear ho7 hb7) | (at_builtin; refine appendRow wo _ rfl (.tmp 62) (.tmp 65) rfl w6.heap.size _ _ (LN.take k) (LN.getD k []) _ hnl rfl HO.out HB7.out HO7.out rfl (by omega) HB.out.size ?_))
          intro b4 c4 w8 hO4 hb4 _
          have HO8 := Lib.hid hO4
          have HB8 := Lib.hid ((HB.out.trans (HB7.out.mono HB.out.size)).trans hb4)
          clear hO4 hb4
          go_wp2
          go_roundw
          case rel => exact ⟨k + 1, b4, c4, by omega, by go_num, rfl, by first | exact HO8.out | (show OwnM _ _ _ _; rw [HNx.out]; exact HO8.out), HF, HB8⟩
          case measure => simp [intOf]; omega
      · obtain rfl : k = m6 := by omega
        have hta : LN.take k = LN := List.take_of_length_le (by omega)
        have HF : Hid (LN.all M.isVec = true) := by show _ = _; rw [← hta]; exact HAl.out
        have HOf : Hid (OwnM wo w6.heap.size (.slice b k c) LN) := by show OwnM _ _ _ _; have := HO.out; rw [hta] at this; exact this
        clear hta
        go_wp2
        go_ret2
        rw [HE.out, HF.out]
        exact ⟨_, _, _, rfl, HOf.out.mono HB6.out.size, HB6.out.trans (HB.out.mono HB6.out.size)⟩
  · obtain ⟨k, hkk⟩ : ∃ k, k = M.crCode R := ⟨_, rfl⟩
    have HE : Hid (M.colsRes R = ([], k)) := by show _ = _; unfold M.colsRes; rw [if_neg hk, hkk]
    have HK := Lib.hid hkk
    have hk0 : (k != 0) = true := by rw [hkk]; simpa using hk
    clear h hk hkk
    go_enter Tryz.func66, Tryz.ntmps66
    go_wp2_with fail
    refine (sCode _ _ _ R _ HA.out).mono ?_
    rintro e w1 ⟨rfl, hb⟩
    rw [← HK.out]
    have HB := Lib.hid hb
    clear hb
    go_wp2
    go_ret2
    exact MRes.nil HE.out HB.out
end V
end Go.Proofs.YtihpbgjiohnekabGreat

namespace Go.Proofs.YtihpbgjiohnekabGreat
namespace M
def imgB (R : List (List Int)) (a b : Int) (x : List Int) : Bool := sqB R && isRat a b && isVec x && decide (x.length = R.length) && x.any fun v => decide (v ≠ -1000000000000000)
def imgL (R : List (List Int)) (a b : Int) (x : List Int) : List Int := applyM (shM R a b) x
def atMostB (y x : List Int) : Bool := (List.range y.length).all fun i => decide (y.getD i 0 ≤ x.getD i 0)
def eigB (R : List (List Int)) (a b : Int) (x : List Int) : Bool := imgB R a b x && decide (imgL R a b x = x)
def subB (R : List (List Int)) (a b : Int) (x : List Int) : Bool := imgB R a b x && atMostB (imgL R a b x) x
def eigY (R : List (List Int)) (b : Int) (x : List Int) (i : Nat) : Int := sumN R.length fun j => times (shf (ent R) 0 b i j) (x.getD j 0)
def eigZ (a : Int) (x : List Int) (i : Nat) : Int := times a (x.getD i 0)
/-- What the model's comparison has found after i nodes. -/
def cmpUp (R : List (List Int)) (a b : Int) (x : List Int) (i : Nat) : Bool := (List.range i).any fun k => decide (eigZ a x k < eigY R b x k)
def cmpLo (R : List (List Int)) (a b : Int) (x : List Int) (i : Nat) : Bool := (List.range i).any fun k => decide (eigY R b x k < eigZ a x k)
def cmpSome (x : List Int) (i : Nat) : Bool := (List.range i).any fun k => decide (x.getD k 0 ≠ -1000000000000000)
def cmpOk (R : List (List Int)) (a b : Int) (x : List Int) : Bool := sqB R && isRat a b && isVec x && decide (x.length = R.length)
def cmpE (R : List (List Int)) (a b : Int) (x : List Int) : Int :=
  if cmpOk R a b x then (if cmpUp R a b x x.length then 1 else if cmpSome x x.length then (if cmpLo R a b x x.length then -1 else 0) else 1) else 1
theorem any_next (i : Nat) (p : Nat → Bool) : (List.range (i + 1)).any p = ((List.range i).any p || p i) := by
  rw [List.range_succ, List.any_append]; simp
theorem sum_move {k : Nat} {f g : Nat → Int} {a : Int} (h : ∀ j, j < k → (f j = -1000000000000000 ∧ g j = -1000000000000000) ∨ (f j = g j + a ∧ -10000000000000 ≤ g j ∧ g j ≤ 10000000000000)) (ha : -1000000 ≤ a) (hb : a ≤ 1000000) :
    (sumN k f = -1000000000000000 ∧ sumN k g = -1000000000000000) ∨ (sumN k f = sumN k g + a ∧ -10000000000000 ≤ sumN k g ∧ sumN k g ≤ 10000000000000) := by
  induction k with
  | zero => exact .inl ⟨rfl, rfl⟩
  | succ k ih =>
    have ih := ih fun j hj => h j (by omega)
    have hk := h k (by omega)
    show (max (sumN k f) (f k) = _ ∧ max (sumN k g) (g k) = _) ∨ (max (sumN k f) (f k) = max (sumN k g) (g k) + a ∧ _ ≤ max (sumN k g) (g k) ∧ max (sumN k g) (g k) ≤ _)
    omega
section
variable {R : List (List Int)} {a b : Int} {x : List Int}
theorem cmpOk_t (h : cmpOk R a b x = true) : sqB R = true ∧ isRat a b = true ∧ isVec x = true ∧ x.length = R.length := by
  unfold cmpOk at h
  rw [Bool.and_eq_true, Bool.and_eq_true, Bool.and_eq_true, decide_eq_true_eq] at h
  exact ⟨h.1.1.1, h.1.1.2, h.1.2, h.2⟩
theorem imgB_cmp : imgB R a b x = (cmpOk R a b x && x.any fun v => decide (v ≠ -1000000000000000)) := rfl
theorem imgL_at (h : cmpOk R a b x = true) {i : Nat} (hi : i < R.length) : (imgL R a b x).getD i 0 = sumN R.length fun j => times (shf (ent R) a b i j) (x.getD j 0) := by
  obtain ⟨h1, h2, h3, h4⟩ := cmpOk_t h
  unfold imgL applyM
  rw [List.getD_eq_getElem?_getD, List.getElem?_map, sh_len, List.getElem?_range hi]
  show dotV _ _ i _ = _
  unfold dotV
  rw [h4]
  refine sumN_congr fun j hj => ?_
  rw [sh_ent R a b hi hj]
theorem imgL_len : (imgL R a b x).length = R.length := by unfold imgL applyM; rw [List.length_map, List.length_range, sh_len]
theorem cmp_at (h : cmpOk R a b x = true) {i : Nat} (hi : i < R.length) : (eigZ a x i < eigY R b x i ↔ x.getD i 0 < (imgL R a b x).getD i 0) ∧ (eigY R b x i < eigZ a x i ↔ (imgL R a b x).getD i 0 < x.getD i 0) := by
  rw [imgL_at h hi]
  obtain ⟨h1, h2, h3, h4⟩ := cmpOk_t h
  obtain ⟨n1, n2, hA⟩ := sq_sm h1
  obtain ⟨r1, r2, r3, r4, -⟩ := isRat_t h2
  have hx : ∀ j, j < R.length → x.getD j 0 = -1000000000000000 ∨ (-1000000 ≤ x.getD j 0 ∧ x.getD j 0 ≤ 1000000) := fun j hj => isVal_t ((isVec_t h3).2.2 j (by omega))
  have hn := near_rat h2
  have hn0 : Near 0 b := by unfold Near; omega
  have hm := sum_move (k := R.length) (f := fun j => times (shf (ent R) 0 b i j) (x.getD j 0)) (g := fun j => times (shf (ent R) a b i j) (x.getD j 0)) (a := a) (fun j hj => by
    show (times _ _ = _ ∧ times _ _ = _) ∨ (times _ _ = times _ _ + a ∧ _ ≤ times _ _ ∧ times _ _ ≤ _)
    by_cases e : ent R i j = -1000000000000000
    · left
      unfold shf times
      rw [if_pos e, if_pos e, if_pos (.inl rfl)]
      exact ⟨rfl, rfl⟩
    · rcases hx j hj with q | q
      · left
        unfold times
        rw [if_pos (.inr q), if_pos (.inr q)]
        exact ⟨rfl, rfl⟩
      · right
        obtain ⟨f1, f2, f3⟩ := shf_fin hn (hA i j hi hj) e
        obtain ⟨g1, g2, g3⟩ := shf_fin hn0 (hA i j hi hj) e
        unfold times
        rw [f1, g1, if_neg (by omega), if_neg (by omega)]
        omega) r1 r2
  have hxi := hx i hi
  unfold eigZ
  show (times a (x.getD i 0) < sumN R.length (fun j => times (shf (ent R) 0 b i j) (x.getD j 0)) ↔ _) ∧ (sumN R.length (fun j => times (shf (ent R) 0 b i j) (x.getD j 0)) < _ ↔ _)
  generalize sumN R.length (fun j => times (shf (ent R) 0 b i j) (x.getD j 0)) = s at *
  generalize sumN R.length (fun j => times (shf (ent R) a b i j) (x.getD j 0)) = t at *
  generalize x.getD i 0 = y at *
  unfold times
  by_cases e : y = -1000000000000000
  · rw [if_pos (.inr e)]; omega
  · rw [if_neg (by omega)]; omega
theorem some_eq : cmpSome x x.length = x.any fun v => decide (v ≠ -1000000000000000) := by
  unfold cmpSome
  rw [Bool.eq_iff_iff, List.any_eq_true, List.any_eq_true]
  constructor
  · rintro ⟨k, hk, h⟩
    have hk := List.mem_range.1 hk
    refine ⟨x[k], List.getElem_mem hk, ?_⟩
    simpa [hk] using h
  · rintro ⟨v, hv, h⟩
    obtain ⟨k, hk, rfl⟩ := List.mem_iff_getElem.1 hv
    exact ⟨k, List.mem_range.2 hk, by simpa [hk] using h⟩
theorem atMost_eq (h : cmpOk R a b x = true) : atMostB (imgL R a b x) x = !cmpUp R a b x x.length := by
  obtain ⟨-, -, -, h4⟩ := cmpOk_t h
  rw [Bool.eq_iff_iff, Bool.not_eq_true']
  unfold atMostB cmpUp
  rw [List.all_eq_true, List.any_eq_false, imgL_len]
  constructor
  · intro hh k hk
    have hk := List.mem_range.1 hk
    have := hh k (List.mem_range.2 (by omega))
    rw [decide_eq_true_eq] at this ⊢
    rw [(cmp_at h (i := k) (by omega)).1]; omega
  · intro hh k hk
    have hk := List.mem_range.1 hk
    have := hh k (List.mem_range.2 (by omega))
    rw [decide_eq_true_eq] at this ⊢
    rw [(cmp_at h (i := k) (by omega)).1] at this; omega
theorem same_eq (h : cmpOk R a b x = true) : decide (imgL R a b x = x) = (!cmpUp R a b x x.length && !cmpLo R a b x x.length) := by
  rw [← atMost_eq h]
  obtain ⟨-, -, -, h4⟩ := cmpOk_t h
  have hl := imgL_len (R := R) (a := a) (b := b) (x := x)
  rw [Bool.eq_iff_iff, Bool.and_eq_true, decide_eq_true_eq, Bool.not_eq_true']
  unfold cmpLo
  rw [List.any_eq_false]
  constructor
  · intro e
    refine ⟨?_, fun k hk => ?_⟩
    · unfold atMostB
      rw [List.all_eq_true]
      intro k hk
      rw [e]; simp
    · have hk := List.mem_range.1 hk
      rw [decide_eq_true_eq, (cmp_at h (i := k) (by omega)).2, e]; omega
  · rintro ⟨h1, h2⟩
    unfold atMostB at h1
    rw [List.all_eq_true, hl] at h1
    apply List.ext_getElem (by omega)
    intro k k1 k2
    have e1 := h1 k (List.mem_range.2 (by omega))
    have e2 := h2 k (List.mem_range.2 (by omega))
    rw [decide_eq_true_eq] at e1 e2
    rw [(cmp_at h (i := k) (by omega)).2] at e2
    have p1 : (imgL R a b x).getD k 0 = (imgL R a b x)[k] := by simp [k1]
    have p2 : x.getD k 0 = x[k] := by simp [k2]
    omega
theorem eig_cmp : eigB R a b x = decide (cmpE R a b x = 0) := by
  unfold eigB cmpE
  rw [imgB_cmp]
  by_cases h : cmpOk R a b x = true
  · rw [if_pos h, h, ← some_eq, same_eq h]
    cases cmpUp R a b x x.length <;> cases cmpSome x x.length <;> cases cmpLo R a b x x.length <;> rfl
  · rw [if_neg h]
    simp only [Bool.not_eq_true] at h
    rw [h]; rfl
theorem sub_cmp : subB R a b x = decide (cmpE R a b x ≤ 0) := by
  unfold subB cmpE
  rw [imgB_cmp]
  by_cases h : cmpOk R a b x = true
  · rw [if_pos h, h, ← some_eq, atMost_eq h]
    cases cmpUp R a b x x.length <;> cases cmpSome x x.length <;> cases cmpLo R a b x x.length <;> rfl
  · rw [if_neg h]
    simp only [Bool.not_eq_true] at h
    rw [h]; rfl
/-- A potential is a vector without Bottom that the image does not exceed. -/
theorem pot_img : isPotB R a b x = (imgB R a b x && (!(x.any fun v => decide (v = -1000000000000000)) && atMostB (imgL R a b x) x)) := by
  unfold isPotB holdsB
  rw [imgB_cmp]
  cases h1 : sqB R with
  | false => simp [cmpOk, h1]
  | true =>
    cases h2 : isRat a b with
    | false => simp [cmpOk, h1, h2]
    | true =>
      obtain ⟨n1, n2, -⟩ := sq_sm h1
      by_cases h4 : x.length = R.length
      · rw [decide_eq_true h4]
        have hl := imgL_len (R := R) (a := a) (b := b) (x := x)
        cases h3 : x.all isFin with
        | true =>
          have hf := List.all_eq_true.1 h3
          have hv : isVec x = true := by
            rw [isVec_all (by omega) (by omega)]
            exact List.all_eq_true.2 fun v hv => by unfold isVal; rw [hf v hv, Bool.or_true]
          have hok : cmpOk R a b x = true := by unfold cmpOk; rw [h1, h2, hv, decide_eq_true h4]; rfl
          have hne : ∀ v, v ∈ x → v ≠ -1000000000000000 := fun v hv e => by
            have := hf v hv
            simp [isFin] at this
            omega
          have e1 : (x.any fun v => decide (v ≠ -1000000000000000)) = true := by
            rw [List.any_eq_true]
            exact ⟨x[0]'(by omega), List.getElem_mem _, by rw [decide_eq_true_eq]; exact hne _ (List.getElem_mem _)⟩
          have e2 : (x.any fun v => decide (v = -1000000000000000)) = false := by
            rw [List.any_eq_false]
            intro v hv
            rw [decide_eq_true_eq]; exact hne v hv
          rw [hok, e1, e2]
          simp only [Bool.and_true, Bool.not_false, Bool.true_and]
          unfold atMostB
          rw [hl, Bool.eq_iff_iff, List.all_eq_true, List.all_eq_true]
          constructor
          · intro h i hi
            have hi' := List.mem_range.1 hi
            rw [imgL_at hok hi']; exact h i hi
          · intro h i hi
            have hi' := List.mem_range.1 hi
            rw [← imgL_at hok hi']; exact h i hi
        | false =>
          have : (isVec x && !(x.any fun v => decide (v = -1000000000000000))) = false := by
            cases hv : isVec x with
            | false => rfl
            | true =>
              rw [Bool.true_and, Bool.not_eq_false']
              rw [List.all_eq_false] at h3
              obtain ⟨v, hv1, hv2⟩ := h3
              rw [isVec_all (by omega) (by omega)] at hv
              have := List.all_eq_true.1 hv v hv1
              unfold isVal at this
              rw [Bool.or_eq_true, decide_eq_true_eq] at this
              rw [List.any_eq_true]
              exact ⟨v, hv1, by rw [decide_eq_true_eq]; rcases this with q | q
                                · exact q
                                · exact absurd q hv2⟩
          unfold cmpOk
          rw [h1, h2]
          cases h5 : isVec x with
          | false => simp
          | true =>
            rw [h5, Bool.true_and] at this
            rw [this]; simp
      · unfold cmpOk
        rw [decide_eq_false h4]; simp
end
end M
end Go.Proofs.YtihpbgjiohnekabGreat

namespace Go.Proofs.YtihpbgjiohnekabGreat
namespace M
section
variable {f : Nat → Nat → Option Int} {n : Nat} (hd : ∀ m, m < n → ole (ofw f m m m) (some 0))
include hd
/-- A node on an arc whose best way back takes off what it weighs. -/
theorem col_o {t c : Nat} (hc : c < n) (ht : t < n) (h : omul (f t c) (obm f n n c t) = some 0) {i : Nat} (hi : i < n) : osum n (fun u => omul (f i u) (obm f n n u c)) = obm f n n i c := by
  rw [osum_plus hd hi hc]
  by_cases e : i = c
  · subst e
    rw [obm_self hd hi]
    refine ole_anti (ofw_diag f n hd i hi) ?_
    by_cases e2 : t = i
    · subst e2
      rw [obm_self hd ht, omul_zero] at h
      rw [← h]
      exact ofw_ge f n t t
    · rw [obm_other hd hi ht (fun q => e2 q.symm)] at h
      rw [← h, omul_comm]
      exact ole_trans (omul_mono (ole_rfl _) (ofw_ge f n t i)) (ofw_trans f n hd t ht i i)
  · rw [obm_other hd hi hc e]
end
theorem col_eig {R : List (List Int)} {c : Nat} (h1 : sqB R = true) (h2 : hasCyc (ent R) R.length = true) (hc : c < R.length) (hcr : crN R c = true) (hr : isRat (bestR (ent R) R.length).1 (bestR (ent R) R.length).2 = true) (hv : isVec ((stcM (crS R) R.length).getD c []) = true) :
    eigB R (bestR (ent R) R.length).1 (bestR (ent R) R.length).2 ((stcM (crS R) R.length).getD c []) = true := by
  obtain ⟨n1, n2, -⟩ := sq_sm h1
  obtain ⟨-, hS, hp⟩ := cr_t h1 h2
  have hd := o_diag n2 hS hp
  obtain ⟨t, ht, hct⟩ := List.any_eq_true.1 hcr
  have ht := List.mem_range.1 ht
  have h0 := (crB_o h1 h2 ht hc).1 hct
  have hl := cols_row hc
  have hx : ∀ i, i < R.length → ((stcM (crS R) R.length).getD c []).getD i 0 = starF (crS R) R.length i c := fun i hi => by
    show ent (stcM (crS R) R.length) c i = _
    unfold stcM
    rw [ent_mk _ _ _ _ _ hc hi, ent_mk _ _ _ _ _ hi hc]
  have ho : ∀ i, i < R.length → o (starF (crS R) R.length i c) = obm (fun i j => o (crS R i j)) R.length R.length i c := fun i hi => by
    unfold starF
    rw [← clo_star n2 hS hp hi hc, o_cbm hS R.length (by omega) i c hi hc]
  generalize hxx : (stcM (crS R) R.length).getD c [] = x at *
  have hok : cmpOk R (bestR (ent R) R.length).1 (bestR (ent R) R.length).2 x = true := by
    unfold cmpOk
    rw [h1, hr, hv, decide_eq_true hl]
    rfl
  have himg : imgL R (bestR (ent R) R.length).1 (bestR (ent R) R.length).2 x = x := by
    apply List.ext_getElem
    · rw [imgL_len, hl]
    · intro i k1 k2
      have hi : i < R.length := by rw [hl] at k2; exact k2
      have e1 := imgL_at hok hi
      rw [List.getD_eq_getElem?_getD, List.getElem?_eq_getElem k1, Option.getD_some] at e1
      have e2 := hx i hi
      rw [List.getD_eq_getElem?_getD, List.getElem?_eq_getElem k2, Option.getD_some] at e2
      rw [e1, e2]
      apply o_inj
      have hsm : ∀ j, j < R.length → Sm 12001012000000 (times (crS R i j) (x.getD j 0)) := fun j hj => by
        rw [hx j hj]
        have q1 := hS i j hi hj
        have q2 := star_sm n2 hS hp hj hc
        unfold times
        split
        · exact .inl rfl
        · next hne =>
          rcases q1 with q1 | q1
          · exact absurd (.inl q1) hne
          · rcases q2 with q2 | q2
            · exact absurd (.inr q2) hne
            · right; omega
      rw [ho i hi, ← col_o hd hc ht h0 hi]
      show o (sumN R.length fun j => times (crS R i j) (x.getD j 0)) = _
      rw [o_sum hsm (by omega)]
      refine osum_congr fun j hj => ?_
      rw [hx j hj, o_times (hS i j hi hj) (star_sm n2 hS hp hj hc) (by omega) (by omega), ho j hj]
  unfold eigB
  rw [himg, imgB_cmp, hok, decide_eq_true rfl, Bool.and_true, Bool.true_and]
  refine List.any_eq_true.2 ⟨x.getD c 0, ?_, ?_⟩
  · rw [List.getD_eq_getElem?_getD, List.getElem?_eq_getElem (by omega), Option.getD_some]; exact List.getElem_mem _
  · rw [hx c hc]; unfold starF; rw [if_pos rfl]; rfl
theorem cols_eig {R : List (List Int)} (h0 : crCode R = 0) (hv : (colsL R).all isVec = true) (hc : (cycMeanRes R).2 = 0) {k : Nat} (hk : k < (colsL R).length) : eigB R (cycMeanRes R).1.1 (cycMeanRes R).1.2 ((colsL R).getD k []) = true := by
  obtain ⟨h1, h2⟩ := cr_code h0
  obtain ⟨-, -, hr, he⟩ := cyc_t hc
  have hki : k < (colIds R).length := by unfold colsL at hk; simpa using hk
  have hm : (colsL R).getD k [] ∈ colsL R := by rw [List.getD_eq_getElem?_getD, List.getElem?_eq_getElem hk]; exact List.getElem_mem hk
  have hvk := List.all_eq_true.1 hv _ hm
  have hg : (colsL R).getD k [] = (stcM (crS R) R.length).getD (colIds R)[k] [] := by
    unfold colsL
    rw [List.getD_eq_getElem?_getD, List.getElem?_map, List.getElem?_eq_getElem hki]
    rfl
  have hci : (colIds R)[k] ∈ colIds R := List.getElem_mem hki
  have hlt := colIds_lt hci
  obtain ⟨l, hl, e⟩ := List.mem_map.1 hci
  have hcr : crN R (colIds R)[k] = true := by rw [← e]; exact (List.mem_filter.1 hl).2
  rw [he, hg]
  rw [hg] at hvk
  exact col_eig h1 h2 hlt hcr hr hvk
theorem cols_t {R : List (List Int)} (h : (colsRes R).2 = 0) : crCode R = 0 ∧ (colsL R).all isVec = true ∧ colsRes R = (colsL R, 0) ∧ compRes R = (crComps R, 0) ∧ (crComps R).length = (colsL R).length ∧ (colsL R).length ≤ 10 := by
  unfold colsRes at h ⊢
  by_cases h0 : crCode R = 0
  · rw [if_pos h0] at h ⊢
    by_cases hv : (colsL R).all isVec = true
    · rw [if_pos hv]
      obtain ⟨n1, n2, -⟩ := sq_sm (cr_code h0).1
      have := crComps_len R
      have := colsL_len R
      exact ⟨h0, hv, rfl, by unfold compRes; rw [if_pos h0], by omega, by omega⟩
    · rw [if_neg hv] at h; simp at h
  · rw [if_neg h0] at h; exact absurd h h0
end M
end Go.Proofs.YtihpbgjiohnekabGreat

namespace Go.Proofs.YtihpbgjiohnekabGreat
namespace M
def shvL (l : List Int) (g : Int) : List Int := l.map fun x => times x g
def shvRes (l : List Int) (g : Int) : List Int × Int := if isVec l then (if isFin g then (if isVec (shvL l g) then (shvL l g, 0) else ([], 3)) else ([], 2)) else ([], 1)
theorem shv_len (l : List Int) (g : Int) : (shvL l g).length = l.length := by simp [shvL]
theorem shv_get {l : List Int} {g : Int} {i : Nat} (hi : i < l.length) : (shvL l g).getD i 0 = times (l.getD i 0) g := by
  simp [shvL, hi]
theorem shv_take {l : List Int} {g : Int} {k : Nat} (hk : k < l.length) : (shvL l g).take (k + 1) = (shvL l g).take k ++ [times (l.getD k 0) g] := by
  have h := List.take_succ_eq_append_getElem (l := shvL l g) (i := k) (by rw [shv_len]; exact hk)
  rw [h]
  congr 2
  simp [shvL, hk]
theorem shvRes_len (l : List Int) (g : Int) : (shvRes l g).1.length ≤ 10 := by
  unfold shvRes
  split
  · split
    · split
      · rename_i h
        have := (isVec_t h).2.1
        exact this
      · exact Nat.zero_le _
    · exact Nat.zero_le _
  · exact Nat.zero_le _
/-- The element with the index k of the orbit of x. -/
def orb (R : List (List Int)) (x : List Int) : Nat → List Int
  | 0 => x
  | k + 1 => applyM R (orb R x k)
def orbL (R : List (List Int)) (x : List Int) (k : Nat) : List (List Int) := (List.range k).map (orb R x)
def orbCode (R : List (List Int)) (x : List Int) : Int := if sqB R && isVec x then (if x.length = R.length then 0 else 5) else 1
def orbRes (R : List (List Int)) (x : List Int) (n : Int) : List (List Int) × Int :=
  if orbCode R x = 0 then (if 0 ≤ n ∧ n ≤ 100 then (if (orbL R x (n.toNat + 1)).all isVec then (orbL R x (n.toNat + 1), 0) else ([], 3)) else ([], 2)) else ([], orbCode R x)
theorem orbCode_t {R : List (List Int)} {x : List Int} (h : orbCode R x = 0) : sqB R = true ∧ isVec x = true ∧ x.length = R.length := by
  unfold orbCode at h
  by_cases h1 : (sqB R && isVec x) = true
  · rw [if_pos h1] at h
    by_cases h2 : x.length = R.length
    · rw [Bool.and_eq_true] at h1
      exact ⟨h1.1, h1.2, h2⟩
    · rw [if_neg h2] at h; exact absurd h (by decide)
  · rw [if_neg h1] at h; exact absurd h (by decide)
theorem orbL_len (R : List (List Int)) (x : List Int) (k : Nat) : (orbL R x k).length = k := by simp [orbL]
theorem orbL_next (R : List (List Int)) (x : List Int) (k : Nat) : orbL R x (k + 1) = orbL R x k ++ [orb R x k] := by
  simp [orbL, List.range_succ]
theorem orbL_get {R : List (List Int)} {x : List Int} {k i : Nat} (h : i < k) : (orbL R x k).getD i [] = orb R x i := by
  simp [orbL, h]
theorem orb_len {R : List (List Int)} {x : List Int} (h : x.length = R.length) : ∀ k, (orb R x k).length = R.length
  | 0 => h
  | _ + 1 => apply_len' _ _
theorem orb_all {R : List (List Int)} {x : List Int} {k : Nat} (h : (orbL R x k).all isVec = true) {i : Nat} (hi : i < k) : isVec (orb R x i) = true := by
  rw [List.all_eq_true] at h
  exact h _ (List.mem_map.2 ⟨i, List.mem_range.2 hi, rfl⟩)
theorem orb_all_next {R : List (List Int)} {x : List Int} {k : Nat} (h : (orbL R x k).all isVec = true) (h2 : isVec (orb R x k) = true) : (orbL R x (k + 1)).all isVec = true := by
  rw [orbL_next, List.all_append, h]
  simp [h2]
theorem orb_all_not {R : List (List Int)} {x : List Int} {k m : Nat} (hk : k < m) (h2 : isVec (orb R x k) = false) : (orbL R x m).all isVec = false := by
  cases e : (orbL R x m).all isVec with
  | false => rfl
  | true => rw [orb_all e hk] at h2; exact absurd h2 (by decide)
end M
end Go.Proofs.YtihpbgjiohnekabGreat

namespace Go.Proofs.YtihpbgjiohnekabGreat
namespace M
/-- The list shifted such that its greatest element is 0 if it is finite. -/
def nrm (x : List Int) : List Int := shvL x (-(maxL x))
/-- The difference at the first index at which both have a finite element. -/
def gapI : List Int → List Int → Int
  | a :: x, b :: y => if a ≠ -1000000000000000 ∧ b ≠ -1000000000000000 then b - a else gapI x y
  | _, _ => 0
def gapB (x y : List Int) : Bool := decide (shvL x (gapI x y) = y)
theorem gapI_spec : ∀ (x y : List Int), x.length = y.length → (∃ i, i < x.length ∧ x.getD i 0 ≠ -1000000000000000 ∧ y.getD i 0 ≠ -1000000000000000 ∧ gapI x y = y.getD i 0 - x.getD i 0) ∨ ((∀ i, i < x.length → x.getD i 0 = -1000000000000000 ∨ y.getD i 0 = -1000000000000000) ∧ gapI x y = 0)
  | [], [], _ => .inr ⟨fun i hi => absurd hi (Nat.not_lt_zero i), rfl⟩
  | [], b :: y, h => absurd h (by simp)
  | a :: x, [], h => absurd h (by simp)
  | a :: x, b :: y, h => by
    by_cases e : a ≠ -1000000000000000 ∧ b ≠ -1000000000000000
    · exact .inl ⟨0, by simp, e.1, e.2, by simp [gapI, e]⟩
    · have hg : gapI (a :: x) (b :: y) = gapI x y := by rw [gapI, if_neg e]
      rcases gapI_spec x y (by simpa using h) with ⟨i, hi, h1, h2, h3⟩ | ⟨h1, h2⟩
      · exact .inl ⟨i + 1, by simpa using hi, by simpa using h1, by simpa using h2, by rw [hg, h3]; simp⟩
      · refine .inr ⟨fun i hi => ?_, by rw [hg, h2]⟩
        cases i with
        | zero => simp only [List.getD_cons_zero]; omega
        | succ i => simpa using h1 i (by simpa using hi)
theorem maxL_foldl : ∀ (l : List Int) (m : Int), m ≤ l.foldl max m ∧ (∀ i, i < l.length → l.getD i 0 ≤ l.foldl max m) ∧ (l.foldl max m = m ∨ ∃ i, i < l.length ∧ l.getD i 0 = l.foldl max m)
  | [], m => ⟨Int.le_refl _, fun i hi => absurd hi (Nat.not_lt_zero i), .inl rfl⟩
  | a :: l, m => by
    obtain ⟨h1, h2, h3⟩ := maxL_foldl l (max m a)
    refine ⟨by rw [List.foldl_cons]; omega, fun i hi => ?_, ?_⟩
    · rw [List.foldl_cons]
      cases i with
      | zero => simp only [List.getD_cons_zero]; omega
      | succ i => simpa using h2 i (by simpa using hi)
    · rw [List.foldl_cons]
      rcases h3 with h3 | ⟨i, hi, h3⟩
      · rw [h3]
        rcases Int.le_total m a with e | e
        · exact .inr ⟨0, by simp, by rw [List.getD_cons_zero]; omega⟩
        · exact .inl (by omega)
      · exact .inr ⟨i + 1, by simpa using hi, by simpa using h3⟩
theorem maxL_ge {x : List Int} {i : Nat} (hi : i < x.length) : x.getD i 0 ≤ maxL x := (maxL_foldl x _).2.1 i hi
theorem maxL_low (x : List Int) : -1000000000000000 ≤ maxL x := (maxL_foldl x _).1
theorem maxL_mem (x : List Int) : maxL x = -1000000000000000 ∨ ∃ i, i < x.length ∧ x.getD i 0 = maxL x := (maxL_foldl x _).2.2
theorem list_ext0 {x y : List Int} (h : x.length = y.length) (h2 : ∀ i, i < x.length → x.getD i 0 = y.getD i 0) : x = y := by
  refine List.ext_getElem h fun i h1 h3 => ?_
  have := h2 i h1
  simpa [h1, h3] using this
theorem shv_eq {x y : List Int} {g d : Int} (h : x.length = y.length) : shvL x g = shvL y d ↔ ∀ i, i < x.length → times (x.getD i 0) g = times (y.getD i 0) d := by
  constructor
  · intro e i hi
    rw [← shv_get hi, e, shv_get (by omega)]
  · intro e
    exact list_ext0 (by rw [shv_len, shv_len, h]) fun i hi => by
      rw [shv_len] at hi
      rw [shv_get hi, shv_get (by omega)]; exact e i hi
theorem shv_is {x y : List Int} {g : Int} (h : x.length = y.length) : shvL x g = y ↔ ∀ i, i < x.length → times (x.getD i 0) g = y.getD i 0 := by
  constructor
  · intro e i hi
    rw [← shv_get hi, e]
  · intro e
    exact list_ext0 (by rw [shv_len, h]) fun i hi => by
      rw [shv_len] at hi
      rw [shv_get hi]; exact e i hi
def Vals (x : List Int) : Prop := ∀ i, i < x.length → isVal (x.getD i 0) = true
theorem maxL_vals {x : List Int} (h : Vals x) : isVal (maxL x) = true := by
  rcases maxL_mem x with e | ⟨i, hi, e⟩
  · rw [e]; rfl
  · rw [← e]; exact h i hi
/-- A list that is y shifted by g has the same pattern, and a greatest element shifted by g. -/
theorem nrm_of {x y : List Int} {g : Int} (hl : x.length = y.length) (hx : Vals x) (hy : Vals y) (hg : -10000000 ≤ g) (hg2 : g ≤ 10000000) (h : shvL x g = y) : nrm x = nrm y ∧ times (maxL x) g = maxL y := by
  rw [shv_is hl] at h
  have hm : times (maxL x) g = maxL y := by
    have v := isVal_t (maxL_vals hx)
    have v2 := isVal_t (maxL_vals hy)
    rcases maxL_mem x with e | ⟨i, hi, e⟩
    · rcases maxL_mem y with e2 | ⟨j, hj, e2⟩
      · rw [e, e2]; rfl
      · have h3 := h j (by omega)
        have h4 := maxL_ge (x := x) (i := j) (by omega)
        have h5 := isVal_t (hx j (by omega))
        have h6 : x.getD j 0 = -1000000000000000 := by omega
        rw [h6] at h3
        rw [e, ← e2, ← h3]
    · have h3 := h i hi
      rw [e] at h3
      have h4 := maxL_ge (x := y) (i := i) (by omega)
      rw [← h3] at h4
      rcases maxL_mem y with e2 | ⟨j, hj, e2⟩
      · have h5 := maxL_low y
        unfold times at h4 ⊢
        split
        · exact e2.symm
        · rename_i hn
          rw [if_neg hn, e2] at h4
          omega
      · have h5 := h j (by omega)
        have h6 := maxL_ge (x := x) (i := j) (by omega)
        have h7 := isVal_t (hx j (by omega))
        rw [e2] at h5
        unfold times at h5 h4 ⊢
        split at h5 <;> split at h4 <;> split <;> omega
  refine ⟨?_, hm⟩
  unfold nrm
  rw [shv_eq hl]
  intro i hi
  have h3 := h i hi
  have v := isVal_t (maxL_vals hx)
  have v2 := isVal_t (maxL_vals hy)
  have v3 := isVal_t (hx i hi)
  have v4 := isVal_t (hy i (by omega))
  have v5 := maxL_ge hi
  rw [← hm] at v2 ⊢
  rw [← h3] at v4 ⊢
  unfold times at *
  split <;> split <;> split at * <;> omega
theorem gapI_bd {x y : List Int} (hl : x.length = y.length) (hx : Vals x) (hy : Vals y) : -2000000 ≤ gapI x y ∧ gapI x y ≤ 2000000 := by
  rcases gapI_spec x y hl with ⟨i, hi, h1, h2, h3⟩ | ⟨h1, h2⟩
  · have v3 := isVal_t (hx i hi)
    have v4 := isVal_t (hy i (by omega))
    omega
  · omega
theorem nrm_gap {x y : List Int} (hl : x.length = y.length) (hx : Vals x) (hy : Vals y) (h : nrm x = nrm y) : gapI x y = maxL y - maxL x ∧ shvL x (gapI x y) = y := by
  unfold nrm at h
  rw [shv_eq hl] at h
  have v := isVal_t (maxL_vals hx)
  have v2 := isVal_t (maxL_vals hy)
  have hb : ∀ i, i < x.length → (x.getD i 0 = -1000000000000000 ↔ y.getD i 0 = -1000000000000000) := fun i hi => by
    have h3 := h i hi
    have v3 := isVal_t (hx i hi)
    have v4 := isVal_t (hy i (by omega))
    unfold times at h3
    split at h3 <;> split at h3 <;> omega
  have hd : ∀ i, i < x.length → x.getD i 0 ≠ -1000000000000000 → y.getD i 0 - x.getD i 0 = maxL y - maxL x := fun i hi hne => by
    have h3 := h i hi
    have v3 := isVal_t (hx i hi)
    have v4 := isVal_t (hy i (by omega))
    have v5 := maxL_ge hi
    have v6 := maxL_ge (x := y) (i := i) (by omega)
    have := hb i hi
    unfold times at h3
    split at h3 <;> split at h3 <;> omega
  have hG : gapI x y = maxL y - maxL x := by
    rcases gapI_spec x y hl with ⟨i, hi, h1, h2, h3⟩ | ⟨h1, h2⟩
    · rw [h3]; exact hd i hi h1
    · rw [h2]
      rcases maxL_mem x with e | ⟨i, hi, e⟩
      · rcases maxL_mem y with e2 | ⟨j, hj, e2⟩
        · omega
        · have h4 := h1 j (by omega)
          have h5 := hb j (by omega)
          omega
      · have h4 := h1 i hi
        have h5 := hb i hi
        have h6 : x.getD i 0 = -1000000000000000 := by omega
        rcases maxL_mem y with e2 | ⟨j, hj, e2⟩
        · omega
        · have h7 := h1 j (by omega)
          have h8 := hb j (by omega)
          omega
  refine ⟨hG, ?_⟩
  rw [shv_is hl]
  intro i hi
  have h1 := hb i hi
  have h2 := hd i hi
  rw [← hG] at h2
  obtain ⟨b1, b2⟩ := gapI_bd hl hx hy
  unfold times
  split <;> omega
theorem gapB_iff {x y : List Int} (hl : x.length = y.length) (hx : Vals x) (hy : Vals y) : gapB x y = true ↔ nrm x = nrm y := by
  unfold gapB
  rw [decide_eq_true_iff]
  constructor
  · intro h
    obtain ⟨b1, b2⟩ := gapI_bd hl hx hy
    exact (nrm_of hl hx hy (by omega) (by omega) h).1
  · intro h
    exact (nrm_gap hl hx hy h).2
/-- IsRepeat's test, both ways. -/
theorem shv_iff {x y : List Int} {g : Int} (hl : x.length = y.length) (hx : Vals x) (hy : Vals y) (hg : -10000000 ≤ g) (hg2 : g ≤ 10000000) : shvL x g = y ↔ (nrm x = nrm y ∧ times (maxL x) g = maxL y) := by
  constructor
  · exact nrm_of hl hx hy hg hg2
  · rintro ⟨h1, h2⟩
    obtain ⟨h3, h4⟩ := nrm_gap hl hx hy h1
    rw [shv_is hl] at h4 ⊢
    intro i hi
    have h5 := h4 i hi
    have v3 := isVal_t (hx i hi)
    have v5 := maxL_ge hi
    have v := isVal_t (maxL_vals hx)
    have v2 := isVal_t (maxL_vals hy)
    rw [h3] at h5
    unfold times at h5 h2 ⊢
    split at h5 <;> split at h2 <;> split <;> omega
end M
end Go.Proofs.YtihpbgjiohnekabGreat

namespace Go.Proofs.YtihpbgjiohnekabGreat
namespace M
theorem eig_sub {R : List (List Int)} {a b : Int} {x : List Int} (h : eigB R a b x = true) : subB R a b x = true := by
  unfold eigB at h
  rw [Bool.and_eq_true, decide_eq_true_eq] at h
  unfold subB
  rw [h.1, h.2]
  unfold atMostB
  rw [Bool.true_and, List.all_eq_true]
  intro i _
  exact decide_eq_true (Int.le_refl _)
theorem sm_sumB {L : Int} {k : Nat} {f : Nat → Int} (h : ∀ t, t < k → Sm L (f t)) (hL : 0 ≤ L) (hL2 : L ≤ 100000000000000) : Sm L (sumN k f) := by
  induction k with
  | zero => exact .inl rfl
  | succ k ih =>
    have h1 := ih fun t ht => h t (by omega)
    have h2 := h k (by omega)
    show Sm L (max (sumN k f) (f k))
    unfold Sm at *
    omega
theorem times_sumB {k : Nat} {f : Nat → Int} {g : Int} (h : ∀ t, t < k → Sm 10000000000000 (f t)) (hg : -10000000 ≤ g ∧ g ≤ 10000000) : times (sumN k f) g = sumN k fun t => times (f t) g := by
  induction k with
  | zero => simp [sumN, times]
  | succ k ih =>
    have h1 := sm_sumB (k := k) (f := f) (L := 10000000000000) (fun t ht => h t (by omega)) (by omega) (by omega)
    have h2 := h k (by omega)
    show times (max (sumN k f) (f k)) g = max (sumN k fun t => times (f t) g) (times (f k) g)
    rw [← ih fun t ht => h t (by omega)]
    unfold Sm at h1 h2
    unfold times
    split <;> split <;> split <;> omega
/-- An eigenvector that is shifted is one as long as it is a vector. -/
theorem eig_shift {R : List (List Int)} {a b g : Int} {x : List Int} (h : eigB R a b x = true) (hg : isFin g = true) (hv : isVec (shvL x g) = true) : eigB R a b (shvL x g) = true := by
  have hgb : -10000000 ≤ g ∧ g ≤ 10000000 := by
    unfold isFin at hg
    simp at hg
    omega
  unfold eigB at h
  rw [Bool.and_eq_true, decide_eq_true_eq] at h
  obtain ⟨h1, h2⟩ := h
  have hok : cmpOk R a b x = true := by rw [imgB_cmp, Bool.and_eq_true] at h1; exact h1.1
  obtain ⟨c1, c2, c3, c4⟩ := cmpOk_t hok
  obtain ⟨n1, n2, hA⟩ := sq_sm c1
  have hok2 : cmpOk R a b (shvL x g) = true := by
    unfold cmpOk
    rw [c1, c2, hv, decide_eq_true (show (shvL x g).length = R.length by rw [shv_len, c4])]
    rfl
  have hS := sh_sm hA (near_rat c2)
  have vx' := (isVec_t c3).2.2
  have himg : imgL R a b (shvL x g) = shvL x g := by
    refine list_ext0 (by rw [imgL_len, shv_len, c4]) fun i hi => ?_
    rw [imgL_len] at hi
    have e1 := imgL_at hok hi
    rw [h2] at e1
    rw [imgL_at hok2 hi, shv_get (by omega), e1]
    have hs : ∀ j, j < R.length → Sm 10000000000000 (times (shf (ent R) a b i j) (x.getD j 0)) := fun j hj => by
      have e1 := hS i j hi hj
      have e2 := isVal_t (vx' j (by omega))
      unfold Sm at *
      unfold times
      split <;> omega
    rw [times_sumB hs hgb]
    refine sumN_congr fun j hj => ?_
    rw [shv_get (by omega)]
    have e1 := hS i j hi hj
    have e2 := isVal_t (vx' j (by omega))
    unfold Sm at e1
    generalize shf (ent R) a b i j = u at *
    generalize x.getD j 0 = v at *
    unfold times
    split <;> split <;> split <;> split <;> omega
  unfold eigB
  rw [himg, imgB_cmp, hok2, decide_eq_true rfl, Bool.and_true, Bool.true_and]
  rw [imgB_cmp, Bool.and_eq_true] at h1
  obtain ⟨v, hv1, hv2⟩ := List.any_eq_true.1 h1.2
  refine List.any_eq_true.2 ⟨times v g, List.mem_map.2 ⟨v, hv1, rfl⟩, ?_⟩
  rw [decide_eq_true_eq] at hv2 ⊢
  obtain ⟨j, hj, e⟩ := List.mem_iff_getElem.1 hv1
  have := isVal_t (vx' j hj)
  rw [List.getD_eq_getElem?_getD, List.getElem?_eq_getElem hj, Option.getD_some, e] at this
  unfold times
  split <;> omega
end M
end Go.Proofs.YtihpbgjiohnekabGreat

namespace Go.Proofs.YtihpbgjiohnekabGreat
namespace M
/-- The eigenvector that is told: the column of the star at a node of the best cycle. -/
theorem eig_self {R : List (List Int)} (hc : (cycMeanRes R).2 = 0) (hv : isVec ((List.range R.length).map fun i => starF (crS R) R.length i (vx (bestCyc R) 0)) = true) :
    eigB R (bestR (ent R) R.length).1 (bestR (ent R) R.length).2 ((List.range R.length).map fun i => starF (crS R) R.length i (vx (bestCyc R) 0)) = true := by
  obtain ⟨h1, h2, hr, -⟩ := cyc_t hc
  obtain ⟨q1, q2, q3, q4⟩ := best_cyc h1 h2
  obtain ⟨l1, hn, -, -⟩ := crCycB_t q1
  have hlt := vx_lt hn (k := 0) (by omega)
  have hcr : crN R (vx (bestCyc R) 0) = true := by
    have h3 : crAll R (bestCyc R) = true := by rw [← crit_cyc h1 h2 q1, q2]; exact decide_eq_true rfl
    have h4 := List.all_eq_true.1 h3 0 (List.mem_range.2 (by omega))
    exact List.any_eq_true.2 ⟨_, List.mem_range.2 (vx_lt hn (Nat.mod_lt _ (by omega))), h4⟩
  have e : ((List.range R.length).map fun i => starF (crS R) R.length i (vx (bestCyc R) 0)) = (stcM (crS R) R.length).getD (vx (bestCyc R) 0) [] := by
    unfold stcM
    rw [mk_row _ _ _ _ hlt]
    refine List.map_congr_left fun i hi => ?_
    rw [ent_mk _ _ _ _ _ (List.mem_range.1 hi) hlt]
  rw [e] at hv ⊢
  exact col_eig h1 h2 hlt hcr hr hv
end M
end Go.Proofs.YtihpbgjiohnekabGreat

namespace Go.Proofs.YtihpbgjiohnekabGreat
namespace M
def eigL (R : List (List Int)) : List Int := (List.range R.length).map fun i => starF (shf (ent R) (bestR (ent R) R.length).1 (bestR (ent R) R.length).2) R.length i (vx (bestCyc R) 0)
def eigOk (R : List (List Int)) : List Int × (Int × Int) × Int := if isVec (eigL R) then (eigL R, bestR (ent R) R.length, 0) else ([], (0, 0), 3)
def eigRes (R : List (List Int)) : List Int × (Int × Int) × Int := if (cycMeanRes R).2 = 0 then eigOk R else ([], (0, 0), (cycMeanRes R).2)
/-- What is at hand where there is a cycle mean. -/
theorem eig_t {R : List (List Int)} (h : (cycMeanRes R).2 = 0) : ∃ (c : Nat) (L : List Int), sqB R = true ∧ hasCyc (ent R) R.length = true ∧ Near (bestR (ent R) R.length).1 (bestR (ent R) R.length).2 ∧ noPos (shf (ent R) (bestR (ent R) R.length).1 (bestR (ent R) R.length).2) R.length = true ∧ bestCyc R = (c : Int) :: L ∧ c < R.length ∧ vx (bestCyc R) 0 = c ∧
    overL (bestF (shf (ent R) (bestR (ent R) R.length).1 (bestR (ent R) R.length).2) R.length) R.length (-1) = bestCyc R := by
  obtain ⟨h1, h2, h3, h4⟩ := cyc_t h
  obtain ⟨n1, n2, hA⟩ := sq_sm h1
  obtain ⟨hbest, hnear, -⟩ := bestR_best n2 hA h2
  have hp := noPos_of_walk n2 hA hnear fun v s w _ _ h3 h4 _ h6 => hbest.2.2.1 v s w h3 h4 h6
  obtain ⟨q1, -, q3, q4⟩ := best_cyc h1 h2
  have hn : nodesB R.length (bestCyc R) = true := by
    unfold cycB at q1
    rw [Bool.and_eq_true, Bool.and_eq_true, Bool.and_eq_true] at q1
    exact q1.1.1.2
  have hlt := vx_lt hn (k := 0) (by omega)
  have hat := nodesB_at hn (k := 0) (by omega)
  cases e : bestCyc R with
  | nil => rw [e] at q3; simp at q3
  | cons y L =>
    rw [e] at hlt hat
    have hy : vx (y :: L) 0 = y.toNat := rfl
    have hy0 : (y :: L).getD 0 0 = y := rfl
    refine ⟨y.toNat, L, h1, h2, hnear, hp, ?_, by rw [hy] at hlt; exact hlt, hy, by rw [best_over n2 (sh_sm hA hnear) hp, ← e]; rfl⟩
    have : (0 : Int) ≤ y := by rw [hy0] at hat; omega
    congr 1
    omega
theorem eig_row {R : List (List Int)} {c : Nat} (hc : c < R.length) (hv : vx (bestCyc R) 0 = c) :
    (stcM (shf (ent R) (bestR (ent R) R.length).1 (bestR (ent R) R.length).2) R.length).getD c [] = eigL R := by
  unfold stcM
  rw [mk_row _ _ _ _ hc]
  unfold eigL
  refine List.map_congr_left fun i hi => ?_
  rw [ent_mk _ _ _ _ _ (List.mem_range.1 hi) hc, hv]
theorem eigRes_len (R : List (List Int)) : (eigRes R).1.length ≤ 10 := by
  unfold eigRes eigOk
  split
  · split
    · next h => exact (isVec_t h).2.1
    · simp
  · simp
theorem eigL_len (R : List (List Int)) : (eigL R).length = R.length := by unfold eigL; simp
end M
namespace V
set_option maxRecDepth 100000
open Go.RowKit
def EPost (r : List Int × (Int × Int) × Int) (w : World) (e : Ending) (w' : World) : Prop :=
  ∃ b m c, e = .returned (.tuple #[.slice b m c, .agg #[.int .i64 r.2.1.1, .int .i64 r.2.1.2], .int .i64 r.2.2]) ∧ Own w' w.heap.size (.slice b m c) r.1 ∧ Below w.heap.size w w'
theorem EPost.nil {r : List Int × (Int × Int) × Int} {c : Int} {w w' : World} (hr : r = ([], (0, 0), c)) (hb : Below w.heap.size w w') : EPost r w (.returned (.tuple #[.slice none 0 0, .agg #[.int .i64 0, .int .i64 0], .int .i64 c])) w' := by
  subst hr; exact ⟨none, 0, 0, rfl, own_nil _ _, hb⟩
theorem keep2' {w0 w1 w2 : World} {b i : Nat} {x : Value} (hb0 : b < w0.heap.size) (h : w1.cell? ⟨b, i, none⟩ = some x ∧ Below w0.heap.size w0 w1) (hb : Below w1.heap.size w1 w2) : w2.cell? ⟨b, i, none⟩ = some x ∧ Below w0.heap.size w0 w2 := by
  have hs := h.2.size
  exact ⟨(hb.cell (p := ⟨b, i, none⟩) (by show b < _; omega)).trans h.1, h.2.trans (hb.mono hs)⟩
theorem keep2 {w0 w1 w2 : World} {b i : Nat} {x : Value} (hb0 : b < w0.heap.size) (h : w1.cell? ⟨b, i, none⟩ = some x ∧ Below w0.heap.size w0 w1) (hb : Below w1.heap.size w1 w2) : w2.cell? ⟨b, i, none⟩ = some x ∧ Below w0.heap.size w0 w2 := by
  have hs := h.2.size
  exact ⟨(hb.cell (p := ⟨b, i, none⟩) (by show b < _; omega)).trans h.1, h.2.trans (hb.mono hs)⟩
set_option maxRecDepth 100000 in
set_option maxHeartbeats 4000000 in
theorem eigenVector (a : Option Addr) (n cap : Nat) (R : List (List Int)) (w : World) (h : Mat w a n R) :
    Calls Tryz.prog 51 #[.slice a n cap] w (EPost (M.eigRes R) w) := by
  have HA := Lib.hid h
  have hRn : R.length = n := h.1
  have HRn := Lib.hid hRn
  have HB0 : Hid (Below w.heap.size w (w.alloc (.cells #[.int .i64 0, .int .i64 0] 26))) := b_alloc _ _
  by_cases hc : (M.cycMeanRes R).2 = 0
  · obtain ⟨c, L, hs, hcyc, hnear, hp, hq, hcl, hvx, hov⟩ := M.eig_t hc
    have hE : M.eigRes R = M.eigOk R := by unfold M.eigRes; rw [if_pos hc]
    have hcm := (M.cyc_t hc).2.2.2
    have hrow := M.eig_row hcl hvx
    rw [hRn] at hcyc hnear hp hcl hov hcm hrow
    obtain ⟨hr, n1, n2, hsm⟩ := sq_parts h hs
    have HR := Lib.hid hr
    have HSm := Lib.hid hsm
    have HQ := Lib.hid (sq_of h hs)
    obtain ⟨r, hrr⟩ : ∃ r, r = M.bestR (M.ent R) n := ⟨_, rfl⟩
    have hOk : M.eigOk R = if M.isVec (M.eigL R) then (M.eigL R, r, 0) else ([], (0, 0), 3) := by unfold M.eigOk; rw [hRn, hrr]
    rw [← hrr] at hnear hp hov hcm hrow
    have HNear := Lib.hid hnear
    have HP := Lib.hid hp
    have HOv := Lib.hid hov
    have HCm := Lib.hid hcm
    have HRow := Lib.hid hrow
    have HQq := Lib.hid hq
    obtain ⟨r1, r2⟩ := r
    have HBm : Hid (∀ i j, i < n → j < n → M.Sm 1000001000000 (M.bestF (M.shf (M.ent R) r1 r2) n i j)) := fun i j hi hj => by
      unfold M.bestF
      split
      · exact M.sh_sm HSm.out HNear.out i j hi hj
      · exact .inl rfl
    obtain ⟨l, hl⟩ : ∃ l, l = M.eigL R := ⟨_, rfl⟩
    obtain ⟨bv, hbv⟩ : ∃ b, b = M.isVec l := ⟨_, rfl⟩
    have HV := Lib.hid hbv.symm
    have hll : l.length = n := by rw [hl, M.eigL_len, hRn]
    have HLl := Lib.hid hll
    have HE : Hid (M.eigRes R = if bv then (l, (r1, r2), 0) else ([], (0, 0), 3)) := by show _ = _; rw [hE, hOk, ← hl, ← hbv]
    rw [← hl] at HRow
    have hci : (c : Int) < (n : Int) := by omega
    clear hRn h hc hs hcyc hnear hp hq hvx hov hE hcm hrow hr hsm hrr hOk hl hbv hll
    go_enter Tryz.func51, Tryz.ntmps51
    go_wp2_with fail
    refine (cycleMean _ _ _ R _ (HA.out.below HB0.out)).mono ?_
    rintro e w1 ⟨rfl, hb⟩
    rw [HCm.out]
    have HB1 := Lib.hid hb
    clear hb
    obtain ⟨wb, hwb⟩ : ∃ x, x = w1.alloc (rbox r1 r2) := ⟨_, rfl⟩
    have HX : Hid (Boxed w1 wb r1 r2) := by show Boxed _ _ _ _; rw [hwb]; exact boxed _ _ _
    have HBx := Lib.hid (HB1.out.trans (HX.out.below.mono HB1.out.size))
    have HBy := Lib.hid (HB0.out.trans (HBx.out.mono HB0.out.size))
    go_wp2_with fail
    change Calls _ _ _ (w1.alloc (rbox r1 r2)) _
    rw [← hwb]
    clear hwb
    refine (bestArcs _ _ _ R r1 r2 _ (HA.out.below HBy.out) HR.out n1 n2 HSm.out HNear.out HP.out).mono ?_
    rintro e w3 ⟨b3, c3, rfl, ho, hb⟩
    have HSq3 : Hid (Sq w3 b3 n (M.mk n n (M.bestF (M.shf (M.ent R) r1 r2) n))) := ⟨ho.mat, rect_mk _ _ _, fun i j hi hj => by rw [M.ent_mk _ _ _ _ _ hi hj]; exact HBm.out i j hi hj, n1, n2⟩
    have HB3 := Lib.hid hb
    clear ho hb
    go_wp2_with fail
    refine (smallestCycle0 _ _ _ (M.mk n n (M.bestF (M.shf (M.ent R) r1 r2) n)) _ HSq3.out).mono ?_
    rintro e w4 ⟨b4, n4, c4, rfl, ho, hb⟩
    rw [M.over_congr (A := M.bestF (M.shf (M.ent R) r1 r2) n) n2 HBm.out fun i j hi hj => M.ent_mk _ _ _ _ _ hi hj, HOv.out, HQq.out] at ho
    obtain ⟨cb, co, x0, rfl, hcb, hx0, cx0⟩ := ho.ints'.at 0 (by rw [ho.len]; simp)
    have hn4 : 0 < n4 := by rw [ho.len]; simp
    rw [Nat.add_zero] at cx0
    have hx1 : x0 = (c : Int) := hx0
    clear hx0
    subst hx1
    have HB4 := Lib.hid (HB3.out.trans (hb.mono HB3.out.size))
    clear ho hb
    obtain ⟨p0, p1⟩ := HX.out.cells HB4.out
    obtain ⟨m6, hm6⟩ : ∃ m6, m6 = n := ⟨_, rfl⟩
    subst hm6
    have hcb6 : cb < w4.heap.size := cell_lt cx0
    go_wp2
    go_region_with (go_at_call 121; refine (starColumns _ _ _ R r1 r2 _ (HA.out.below (below_drewN (HBy.out.trans (HB4.out.mono HBy.out.size)) _)) HR.out n1 n2 HSm.out HNear.out HP.out).mono ?_; rintro e w7 ⟨b7, c7, rfl, ho, hb⟩; obtain ⟨g7, ra7, rc7, rfl, hcr7, hro7⟩ := ho.row c hcl; rw [HRow.out, HLl.out] at hcr7 hro7; have cx7 := (hb.cell (p := ⟨cb, co, none⟩) hcb6).trans cx0; have HO7 := Lib.hid hro7; have HB7 := Lib.hid ((below_drewN (Below.refl w4.heap.size w4) _).trans hb); clear hro7 ho hb)
    all_goals
      have HB8 := Lib.hid (HBx.out.trans ((HB4.out.trans (HB7.out.mono HB4.out.size)).mono HBx.out.size))
      have HX7 := HX.out.cells (HB4.out.trans (HB7.out.mono HB4.out.size))
      obtain ⟨p0, p1⟩ := HX7
      have hz8 := HB8.out.size
      simp at hz8
      obtain ⟨hcc, hff⟩ := bcell HB8.out
      have z1 : w.heap.size < w7.heap.size := by omega
      have hlt6 : w.heap.size < w4.heap.size := by have h1 := HB4.out.size; have h2 := HBx.out.size; simp at h2; omega
      have hlo : w.heap.size ≤ w4.heap.size := by omega
      cases bv with
      | false =>
        go_wp2_with fail
        refine (isVector_b _ _ _ l _ false HV.out HO7.out.ints').mono ?_
        rintro e w' ⟨rfl, rfl⟩
        go_wp2
        exact bodyPost_ret (v := .tuple #[.slice none 0 0, .agg #[.int .i64 0, .int .i64 0], .int .i64 3]) (by simp [results, Tryz.results51, go_sem, z1, hcc]) rfl (EPost.nil HE.out (bel1s HB8.out))
      | true =>
        go_wp2_with fail
        refine (isVector_b _ _ _ l _ true HV.out HO7.out.ints').mono ?_
        rintro e w' ⟨rfl, rfl⟩
        go_wp2
        go_region
        all_goals (try go_wp2)
        all_goals
          exact bodyPost_ret (v := .tuple #[.slice ra7 m6 rc7, .agg #[.int .i64 r1, .int .i64 r2], .int .i64 0]) (by simp [results, Tryz.results51, go_sem, z1, hcc]) rfl (by
            rw [HE.out]
            refine ⟨ra7, m6, rc7, rfl, (HO7.out.keep fun k k1 _ => ?_).mono hlo, by first | exact bel1s HB8.out | exact bel1s (below_drewN HB8.out 1)⟩
            have k2 : w4.heap.size ≤ k := k1
            exact (Below.heap_setCell _ _ _ k (by show k ≠ w.heap.size; omega)).trans (Below.heap_setCell _ _ _ k (by show k ≠ w.heap.size; omega)))
  · have HE : Hid (M.eigRes R = ([], (0, 0), (M.cycMeanRes R).2)) := by show _ = _; unfold M.eigRes; rw [if_neg hc]
    obtain ⟨r, hr⟩ : ∃ r, r = M.cycMeanRes R := ⟨_, rfl⟩
    rw [← hr] at hc HE
    have HR := Lib.hid hr.symm
    obtain ⟨⟨r1, r2⟩, r3⟩ := r
    have hr3 : (r3 != 0) = true := by simpa using hc
    clear h hc hr
    go_enter Tryz.func51, Tryz.ntmps51
    go_wp2_with fail
    refine (cycleMean _ _ _ R _ (HA.out.below HB0.out)).mono ?_
    rintro e w1 ⟨rfl, hb⟩
    rw [HR.out]
    have hz := hb.size
    simp at hz
    obtain ⟨hcc, hff⟩ := bcell hb
    have z1 : w.heap.size < w1.heap.size := by omega
    go_wp2
    exact bodyPost_ret (v := .tuple #[.slice none 0 0, .agg #[.int .i64 0, .int .i64 0], .int .i64 r3]) (by simp [results, Tryz.results51, go_sem, z1, hcc]) rfl (EPost.nil HE.out ((bel1s hb).alloc (bel1s hb).size _))
end V
end Go.Proofs.YtihpbgjiohnekabGreat
