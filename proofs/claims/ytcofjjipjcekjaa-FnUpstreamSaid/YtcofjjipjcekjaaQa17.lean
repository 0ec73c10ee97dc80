/- Texts laid together: Sev, Ups, Sup, Upp, OpenM. -/
import Derived.Test.YtcofjjipjcekjaaQa15
import Derived.Test.YtcofjjipjcekjaaQa11
import Derived.Test.YtcofjjipjcekjaaQa14
import Derived.Test.YtcofjjipjcekjaaQa16
import Derived.Test.YtcofjjipjcekjaaQa13
import Derived.Test.YtcofjjipjcekjaaQa8
import Derived.Test.YtcofjjipjcekjaaRows
import Derived.Test.YtcofjjipjcekjaaQa1
import Derived.Test.YtcofjjipjcekjaaQa2
import Derived.WalkKit
import Derived.ProofKit
import Derived.WalkSmall
import Derived.Deep.QuietTactic
import Derived.BigQuiet
import Derived.BigRegion
import Derived.Deep.Draws
import Derived.Deep.OwnRows
import Derived.Maps.AppendAt
import Derived.Deep.Onto
import Derived.Lib.Hide
import Derived.Deep.Matrix
set_option linter.unusedSimpArgs false
set_option linter.unusedVariables false
set_option linter.unusedSectionVars false
namespace Go.Proofs.Ytcofjjipjcekjaa
namespace V
set_option maxRecDepth 100000
open Go.RowKit
set_option maxRecDepth 100000 in
set_option maxHeartbeats 4000000 in
theorem sEigenVector (a : Option Addr) (n cap : Nat) (R : List (List Int)) (w : World) (h : Mat w a n R) :
    Calls Try.prog 43 #[.slice a n cap] w (EPost (M.eigRes R) w) := by
  have HA := Lib.hid h
  have hRn : R.length = n := h.1
  have HRn := Lib.hid hRn
  have HB0 : Hid (Below w.heap.size w (w.alloc (.cells #[.int .i64 0, .int .i64 0] 37))) := b_alloc _ _
  by_cases hc : (M.cycMeanRes R).2 = 0
  · obtain ⟨c, L, hs, hcyc, hnear, hp, hq, hcl, hvx, hov⟩ := M.eig_t hc
    have hE : M.eigRes R = M.eigOk R := by unfold M.eigRes; rw [if_pos hc]
    have hcm := (M.cyc_t hc).2.2.2
    have hrow := M.eig_row hcl hvx
    unfold M.stcM at hrow
    rw [hRn] at hcyc hnear hp hcl hov hcm hrow
    obtain ⟨hr, n1, n2, hsm⟩ := sq_parts h hs
    have HR := Lib.hid hr
    have HSm := Lib.hid hsm
    have HQ := Lib.hid (sq_of h hs)
    obtain ⟨r, hrr⟩ : ∃ r, r = M.bestR (M.ent R) n := ⟨_, rfl⟩
    have hOk : M.eigOk R = if M.isVec (M.eigL R) then (M.eigL R, r, 0) else ([], (0, 0), 3) := by unfold M.eigOk; rw [hRn, hrr]
    rw [← hrr] at hnear hp hov hcm hrow
    have HNear := Lib.hid hnear
    have HP := Lib.hid hp
    have HSs := Lib.hid hs
    have HB2 : Hid (M.best2 R = M.bestCyc R) := by show _ = _; unfold M.best2; rw [hRn, hcyc, if_pos rfl]
    have HOv := Lib.hid hov
    have HCm := Lib.hid hcm
    have HRow := Lib.hid hrow
    have HQq := Lib.hid hq
    obtain ⟨r1, r2⟩ := r
    have HBm : Hid (∀ i j, i < n → j < n → M.Sm 1000001000000 (M.bestF (M.shf (M.ent R) r1 r2) n i j)) := fun i j hi hj => by
      unfold M.bestF
      split
      · exact M.sh_sm HSm.out HNear.out i j hi hj
      · exact .inl rfl
    obtain ⟨l, hl⟩ : ∃ l, l = M.eigL R := ⟨_, rfl⟩
    obtain ⟨bv, hbv⟩ : ∃ b, b = M.isVec l := ⟨_, rfl⟩
    have HV := Lib.hid hbv.symm
    have hll : l.length = n := by rw [hl, M.eigL_len, hRn]
    have HLl := Lib.hid hll
    have HE : Hid (M.eigRes R = if bv then (l, (r1, r2), 0) else ([], (0, 0), 3)) := by show _ = _; rw [hE, hOk, ← hl, ← hbv]
    rw [← hl] at HRow
    have hci : (c : Int) < (n : Int) := by omega
    clear hRn h hc hs hcyc hnear hp hq hvx hov hE hcm hrow hr hsm hrr hOk hl hbv hll
    go_enter Try.func43, Try.ntmps43
    go_wp2_with fail
    refine (sCycleMean _ _ _ R _ (HA.out.below HB0.out)).mono ?_
    rintro e w1 ⟨rfl, hb⟩
    rw [HCm.out]
    have HB1 := Lib.hid hb
    clear hb
    obtain ⟨wb, hwb⟩ : ∃ x, x = w1.alloc (rbox r1 r2) := ⟨_, rfl⟩
    have HX : Hid (Boxed w1 wb r1 r2) := by show Boxed _ _ _ _; rw [hwb]; exact boxed _ _ _
    have HBx := Lib.hid (HB1.out.trans (HX.out.below.mono HB1.out.size))
    have HBy := Lib.hid (HB0.out.trans (HBx.out.mono HB0.out.size))
    go_wp2_with fail
    change Calls _ _ _ (w1.alloc (rbox r1 r2)) _
    rw [← hwb]
    clear hwb
    refine (sBest _ _ _ R _ (HA.out.below HBy.out) HSs.out).mono ?_
    rintro e w4 ⟨b4, n4, c4, rfl, ho, hb⟩
    rw [HB2.out, HQq.out] at ho
    obtain ⟨cb, co, x0, rfl, hcb, hx0, cx0⟩ := ho.ints'.at 0 (by rw [ho.len]; simp)
    have hn4 : 0 < n4 := by rw [ho.len]; simp
    rw [Nat.add_zero] at cx0
    have hx1 : x0 = (c : Int) := hx0
    clear hx0
    subst hx1
    have HB4 := Lib.hid hb
    clear ho hb
    obtain ⟨p0, p1⟩ := HX.out.cells HB4.out
    go_wp2_with fail
    refine (sShift _ _ _ R r1 r2 _ (HA.out.below (HBy.out.trans (HB4.out.mono HBy.out.size))) HR.out n1 n2 HSm.out HNear.out).mono ?_
    rintro e w5 ⟨b5, c5, rfl, ho, hb⟩
    have HSq5 : Hid (Sq w5 b5 n (M.mk n n (M.shf (M.ent R) r1 r2))) := ⟨ho.mat, rect_mk _ _ _, fun i j hi hj => by rw [M.ent_mk _ _ _ _ _ hi hj]; exact M.sh_sm HSm.out HNear.out i j hi hj, n1, n2⟩
    have HB5 := Lib.hid (HB4.out.trans (hb.mono HB4.out.size))
    have hcx5 := (hb.cell (p := ⟨cb, co, none⟩) (cell_lt cx0)).trans cx0
    have hcb5 : cb < w5.heap.size := Nat.lt_of_lt_of_le (cell_lt cx0) hb.size
    clear ho hb cx0 p0 p1
    go_wp2_with fail
    refine (sStar _ _ _ (M.mk n n (M.shf (M.ent R) r1 r2)) _ HSq5.out).mono ?_
    rintro e w6 ⟨b6, c6, rfl, ho, hb⟩
    have hnp : M.noPos (M.ent (M.mk n n (M.shf (M.ent R) r1 r2))) n = true := by rw [M.noPos_mk]; exact HP.out
    rw [M.bm_star n2 HSq5.out.2.2.1 hnp, M.starM_mk] at ho
    rw [hnp]
    clear hnp
    obtain ⟨m6, hm6⟩ : ∃ m6, m6 = n := ⟨_, rfl⟩
    subst hm6
    have HO6 := Lib.hid ho
    have HB6 := Lib.hid (HB5.out.trans (hb.mono HB5.out.size))
    have cx6 := (hb.cell (p := ⟨cb, co, none⟩) hcb5).trans hcx5
    have hcb6 : cb < w6.heap.size := Nat.lt_of_lt_of_le hcb5 hb.size
    clear ho hb hcx5 hcb5
    go_wp2
    go_region_with (go_at_call 83; refine (sTurn _ _ _ m6 (M.mk m6 m6 (M.starF (M.shf (M.ent R) r1 r2) m6)) _ (HO6.out.mat.below (below_drewN (Below.refl _ _) _)) (rect_mk _ _ _) n1 n2 n1 n2).mono ?_; rintro e w7 ⟨b7, c7, rfl, ho, hb⟩; obtain ⟨g7, ra7, rc7, rfl, hcr7, hro7⟩ := ho.row c hcl; rw [HRow.out, HLl.out] at hcr7 hro7; have cx7 := (hb.cell (p := ⟨cb, co, none⟩) hcb6).trans cx6; have HO7 := Lib.hid hro7; have HB7 := Lib.hid ((below_drewN (Below.refl w6.heap.size w6) _).trans hb); clear hro7 ho hb)
    all_goals
      have HB8 := Lib.hid (HBx.out.trans ((HB6.out.trans (HB7.out.mono HB6.out.size)).mono HBx.out.size))
      have HX7 := HX.out.cells (HB6.out.trans (HB7.out.mono HB6.out.size))
      obtain ⟨p0, p1⟩ := HX7
      have hz8 := HB8.out.size
      simp at hz8
      obtain ⟨hcc, hff⟩ := bcell HB8.out
      have z1 : w.heap.size < w7.heap.size := by omega
      have hlt6 : w.heap.size < w6.heap.size := by have h1 := HB6.out.size; have h2 := HBx.out.size; simp at h2; omega
      have hlo : w.heap.size ≤ w6.heap.size := by omega
      cases bv with
      | false =>
        go_wp2_with fail
        refine (sVector_b _ _ _ l _ false HV.out HO7.out.ints').mono ?_
        rintro e w' ⟨rfl, rfl⟩
        go_wp2
        exact bodyPost_ret (v := .tuple #[.slice none 0 0, .agg #[.int .i64 0, .int .i64 0], .int .i64 3]) (by simp [results, Try.results43, go_sem, z1, hcc]) rfl (EPost.nil HE.out (bel1s HB8.out))
      | true =>
        go_wp2_with fail
        refine (sVector_b _ _ _ l _ true HV.out HO7.out.ints').mono ?_
        rintro e w' ⟨rfl, rfl⟩
        go_wp2
        go_region
        all_goals (try go_wp2)
        all_goals
          exact bodyPost_ret (v := .tuple #[.slice ra7 m6 rc7, .agg #[.int .i64 r1, .int .i64 r2], .int .i64 0]) (by simp [results, Try.results43, go_sem, z1, hcc]) rfl (by
            rw [HE.out]
            refine ⟨ra7, m6, rc7, rfl, (HO7.out.keep fun k k1 _ => ?_).mono hlo, by first | exact bel1s HB8.out | exact bel1s (below_drewN HB8.out 1)⟩
            have k2 : w6.heap.size ≤ k := k1
            exact (Below.heap_setCell _ _ _ k (by show k ≠ w.heap.size; omega)).trans (Below.heap_setCell _ _ _ k (by show k ≠ w.heap.size; omega)))
  · have HE : Hid (M.eigRes R = ([], (0, 0), (M.cycMeanRes R).2)) := by show _ = _; unfold M.eigRes; rw [if_neg hc]
    obtain ⟨r, hr⟩ : ∃ r, r = M.cycMeanRes R := ⟨_, rfl⟩
    rw [← hr] at hc HE
    have HR := Lib.hid hr.symm
    obtain ⟨⟨r1, r2⟩, r3⟩ := r
    have hr3 : (r3 != 0) = true := by simpa using hc
    clear h hc hr
    go_enter Try.func43, Try.ntmps43
    go_wp2_with fail
    refine (sCycleMean _ _ _ R _ (HA.out.below HB0.out)).mono ?_
    rintro e w1 ⟨rfl, hb⟩
    rw [HR.out]
    have hz := hb.size
    simp at hz
    obtain ⟨hcc, hff⟩ := bcell hb
    have z1 : w.heap.size < w1.heap.size := by omega
    go_wp2
    exact bodyPost_ret (v := .tuple #[.slice none 0 0, .agg #[.int .i64 0, .int .i64 0], .int .i64 r3]) (by simp [results, Try.results43, go_sem, z1, hcc]) rfl (EPost.nil HE.out ((bel1s hb).alloc (bel1s hb).size _))
end V
end Go.Proofs.Ytcofjjipjcekjaa

namespace Go.Proofs.Ytcofjjipjcekjaa
namespace V
set_option maxRecDepth 100000
open Go.RowKit Go.Maps
set_option maxRecDepth 100000 in
set_option maxHeartbeats 2000000 in
theorem upstreamPart (a : Option Addr) (n cap : Nat) (R : List (List Int)) (v : Nat) (w : World) (h : Sq w a n R) (hv : v < n) :
    Calls Try.prog 65 #[.slice a n cap, .int .i64 v] w (MPost n (M.mk n n (M.upF (M.ent R) n v)) w) := by
  have HSq := Lib.hid h
  obtain ⟨n1, n2⟩ := h.2.2.2
  have HK0 : Hid (M.mk n n (M.upK (M.ent R) n v 0) = R) := by
    show _ = _
    have e := M.mk_self R n (fun i hi => h.2.1.2 i (by rw [← h.2.1.1]; exact hi))
    rw [h.2.1.1] at e
    exact (M.mk_congr fun i _ j _ => by unfold M.upK; rw [if_neg (by omega)]).trans e
  clear h
  go_enter Try.func65, Try.ntmps65
  go_wp2_with fail
  refine (reaching _ _ _ R v _ HSq.out hv).mono ?_
  rintro e w1 ⟨mb, rfl, hlo, hst, hb⟩
  have HS1 := Lib.hid hst
  have HB1 := Lib.hid hb
  clear hst hb
  go_wp2_with fail
  refine (copiedMatrix _ _ _ R n _ (HSq.out.1.below HB1.out) HSq.out.2.1 n1 n2 n1 n2).mono ?_
  rintro e w2 ⟨a2, cap2, rfl, hO, hb⟩
  obtain ⟨g, -, -, -, -, hgg, -⟩ := hO.tri HSq.out.2.1 0 0 0 (by omega) (by omega) (by omega)
  subst hgg
  rw [← HK0.out] at hO
  have HO0 := Lib.hid hO
  have HB0 := Lib.hid hb
  clear hO hb
  go_wp2
  go_loopw [7, 8, 16] (fun _ _ i wr => ∃ k : Nat, k ≤ n ∧ i = .int .i64 k ∧ Hid (OwnM wr w1.heap.size (.slice (some ⟨g, 0, none⟩) n cap2) (M.mk n n (M.upK (M.ent R) n v k))) ∧ Hid (Below w1.heap.size w1 wr)) (fun _ _ i _ => n - (intOf i).toNat)
  case atStart => exact ⟨0, Nat.zero_le _, rfl, HO0, HB0⟩
  case round =>
    clear HO0 HB0
    obtain ⟨k, hk, rfl, HO, HB⟩ := hrel
    obtain ⟨wo, rfl⟩ : ∃ x, x = wr := ⟨_, rfl⟩
    by_cases hlt : k < n
    · have hki : (k : Int) < (n : Int) := by omega
      have hlk : (Instr.lookup 68 (.map (some mb)) (.int .i64 (k : Int)) false).run Try.prog wo = .ok (.bool (M.rchB (M.ent R) n k v)) wo := (HS1.out.below HB.out HS1.out.lt).look n2 k hlt
      obtain ⟨g2, q, c, -, -, hgg, hq, hrow, hx0, -, -, -, -, -⟩ := HO.out.tri (rect_mk _ _ _) k 0 0 hlt (by omega) (by omega)
      injection hgg with hgg
      injection hgg with hgg
      subst hgg
      obtain ⟨x, hx⟩ : ∃ x, x = M.rchB (M.ent R) n k v := ⟨_, rfl⟩
      rw [← hx] at hlk
      cases x with
      | true =>
        have HO2 : Hid (OwnM wo w1.heap.size (.slice (some ⟨g, 0, none⟩) n cap2) (M.mk n n (M.upK (M.ent R) n v (k + 1)))) := by
          show OwnM _ _ _ _; rw [← M.upK_same hx.symm]; exact HO.out
        clear hx hx0
        go_wp2
        go_roundw
        case rel => exact ⟨k + 1, by omega, by go_num, HO2, HB⟩
        case measure => simp [intOf]; omega
      | false =>
        have HXf := Lib.hid hx.symm
        have hgl := cell_lt hrow
        have hfz0 := HO.out.outerFz k
        have hgb := HO.out.ge
        obtain ⟨wb, hwb⟩ : ∃ wb, wb = wo.alloc (.cells #[.int .i64 (-1000000000000000)] 2) := ⟨_, rfl⟩
        have HC : Hid (wb.cell? ⟨wo.heap.size, 0, none⟩ = some (.int .i64 (-1000000000000000))) := by show _ = _; rw [hwb]; exact one_lit _ _
        have HBb : Hid (Below wo.heap.size wo wb) := by show Below _ _ _; rw [hwb]; exact b_alloc _ _
        have hzb : wb.heap.size = wo.heap.size + 1 := by rw [hwb]; simp
        clear hx hx0
        go_wp2_with fail
        rw [← hwb]
        clear hwb
        refine (repeat1 wo.heap.size n _ (-1000000000000000) _ n1 (by omega) HC.out (by omega)).mono ?_
        rintro e w3 ⟨rfl, ho, hb⟩
        have hb3 := HBb.out.trans (hb.mono HBb.out.size)
        have hset := HO.out.setRow hb3 HB.out.size (ho.mono HBb.out.size) k hlt
        rw [M.upK_cut HXf.out] at hset
        have HN := Lib.hid hset
        have HBn := Lib.hid ((HB.out.trans (hb3.mono HB.out.size)).setCell (p := ⟨g, k, none⟩) hgb (.slice (some ⟨wb.heap.size, 0, none⟩) n n))
        have hcell : w3.cell? ⟨g, k, none⟩ = some (.slice (some ⟨q, 0, none⟩) n c) := (hb3.cell (p := ⟨g, k, none⟩) hgl).trans hrow
        have hfz : w3.frozen? ⟨g, k, none⟩ = false := (hb3.frozen (p := ⟨g, k, none⟩) hgl).trans hfz0
        clear ho hb hb3 hset hzb
        go_wp2
        go_roundw
        case rel => exact ⟨k + 1, by omega, by go_num, HN, HBn⟩
        case measure => simp [intOf]; omega
    · obtain rfl : k = n := by omega
      have HO2 : Hid (OwnM wo w1.heap.size (.slice (some ⟨g, 0, none⟩) k cap2) (M.mk k k (M.upF (M.ent R) k v))) := by
        show OwnM _ _ _ _
        rw [M.mk_congr (g := M.upK (M.ent R) k v k) fun i hi j _ => by unfold M.upK; rw [if_pos hi]]; exact HO.out
      go_wp2
      go_ret
      exact ⟨_, _, rfl, HO2.out.mono HB1.out.size, HB1.out.trans (HB.out.mono HB1.out.size)⟩
set_option maxRecDepth 100000 in
set_option maxHeartbeats 1000000 in
theorem upstreamMean (a : Option Addr) (n cap : Nat) (R : List (List Int)) (x : Int) (w : World) (h : Mat w a n R) :
    Calls Try.prog 24 #[.slice a n cap, .int .i64 x] w fun e w' => e = .returned (.tuple #[.agg #[.int .i64 (M.upRes R x).1.1, .int .i64 (M.upRes R x).1.2], .int .i64 (M.upRes R x).2]) ∧ Below w.heap.size w w' := by
  have HA := Lib.hid h
  have HRn := Lib.hid h.1
  by_cases hs : M.sqB R = true
  · have HS := Lib.hid hs
    have HQ := Lib.hid (sq_of h hs)
    obtain ⟨n1, n2⟩ := (sq_of h hs).2.2.2
    have HB0 : Hid (Below w.heap.size w (w.alloc (.cells #[.int .i64 0, .int .i64 0] 37))) := b_alloc _ _
    obtain ⟨c, hc⟩ : ∃ c, c = M.inN n x := ⟨_, rfl⟩
    have hnd : M.nodesB n [x] = M.inN n x := by unfold M.nodesB; simp
    have HC : Hid (M.nodesB n [x] = c) := by show _ = _; rw [hnd, hc]
    have HLit : Hid (∀ wx : World, Ints .i64 (wx.alloc (.cells #[.int .i64 x] 2)) (some ⟨wx.heap.size, 0, none⟩) 1 [x]) := fun wx => (rlit wx wx.heap.size x (Nat.le_refl _)).ints'
    cases c with
    | true =>
      obtain ⟨k, hk, rfl⟩ := M.inN_j hc.symm
      obtain ⟨r, hr⟩ : ∃ r, r = M.cycMeanRes (M.mk n n (M.upF (M.ent R) n k)) := ⟨_, rfl⟩
      have HR := Lib.hid hr.symm
      have HE : Hid (M.upRes R k = r) := by
        show _ = _
        unfold M.upRes
        rw [if_pos hs, h.1, ← hc, if_pos rfl, hr]; rfl
      clear h hs hc hr hnd
      obtain ⟨⟨r1, r2⟩, r3⟩ := r
      go_enter Try.func24, Try.ntmps24
      go_wp2_with fail
      refine (isSquare_b _ _ _ R _ true HS.out (HA.out.below HB0.out)).mono ?_
      rintro e w' ⟨rfl, rfl⟩
      go_wp2_with fail
      refine (areNodes_b _ _ _ _ _ _ [(k : Int)] _ true HC.out (by omega) (by have := HLit.out (w.alloc (.cells #[.int .i64 0, .int .i64 0] 37)); simpa using this)).mono ?_
      rintro e w' ⟨rfl, rfl⟩
      have HB1 : Hid (Below (w.alloc (.cells #[.int .i64 0, .int .i64 0] 37)).heap.size (w.alloc (.cells #[.int .i64 0, .int .i64 0] 37)) ((w.alloc (.cells #[.int .i64 0, .int .i64 0] 37)).alloc (.cells #[.int .i64 (k : Int)] 2))) := b_alloc _ _
      go_wp2_with fail
      refine (upstreamPart _ _ _ R k _ ((HQ.out.below HB0.out).below HB1.out) hk).mono ?_
      rintro e w1 ⟨b1, c1, rfl, ho, hb⟩
      have HO := Lib.hid ho
      have HB2 := Lib.hid (HB1.out.trans (hb.mono HB1.out.size))
      clear ho hb
      go_wp2_with fail
      refine (cycleMean _ _ _ _ _ HO.out.mat).mono ?_
      rintro e w2 ⟨rfl, hb⟩
      rw [HR.out]
      have hb1 := HB2.out.trans (hb.mono HB2.out.size)
      have hz := hb1.size
      simp at hz
      obtain ⟨hcc, hff⟩ := bcell hb1
      have z1 : w.heap.size < w2.heap.size := by omega
      clear hb
      go_wp2
      exact bodyPost_ret (v := .tuple #[.agg #[.int .i64 r1, .int .i64 r2], .int .i64 r3]) (by simp [results, Try.results24, go_sem, z1, hcc]) rfl ⟨by rw [HE.out], bel1s hb1⟩
    | false =>
      have HE : Hid (M.upRes R x = ((0, 0), 2)) := by
        show _ = _
        unfold M.upRes
        rw [if_pos hs, h.1, ← hc]; rfl
      clear h hs hc hnd
      go_enter Try.func24, Try.ntmps24
      go_wp2_with fail
      refine (isSquare_b _ _ _ R _ true HS.out (HA.out.below HB0.out)).mono ?_
      rintro e w' ⟨rfl, rfl⟩
      go_wp2_with fail
      refine (areNodes_b _ _ _ _ _ _ [x] _ false HC.out (by omega) (by have := HLit.out (w.alloc (.cells #[.int .i64 0, .int .i64 0] 37)); simpa using this)).mono ?_
      rintro e w' ⟨rfl, rfl⟩
      have hb1 : Below (w.alloc (.cells #[.int .i64 0, .int .i64 0] 37)).heap.size (w.alloc (.cells #[.int .i64 0, .int .i64 0] 37)) ((w.alloc (.cells #[.int .i64 0, .int .i64 0] 37)).alloc (.cells #[.int .i64 x] 2)) := b_alloc _ _
      go_wp2
      exact bodyPost_ret (v := .tuple #[.agg #[.int .i64 0, .int .i64 0], .int .i64 2]) (by simp [results, Try.results24, go_sem]) rfl ⟨by rw [HE.out], HB0.out.trans (hb1.mono (by simp))⟩
  · simp only [Bool.not_eq_true] at hs
    have HS := Lib.hid hs
    have HE : Hid (M.upRes R x = ((0, 0), 1)) := by show _ = _; unfold M.upRes; rw [hs]; rfl
    clear h hs
    go_enter Try.func24, Try.ntmps24
    go_wp2_with fail
    refine (isSquare_b _ _ _ R _ false HS.out (HA.out.below (b_alloc _ _))).mono ?_
    rintro e w' ⟨rfl, rfl⟩
    go_wp2
    exact bodyPost_ret (v := .tuple #[.agg #[.int .i64 0, .int .i64 0], .int .i64 1]) (by simp [results, Try.results24, go_sem]) rfl ⟨by rw [HE.out], b_alloc _ _⟩
end V
end Go.Proofs.Ytcofjjipjcekjaa

namespace Go.Proofs.Ytcofjjipjcekjaa
namespace V
set_option maxRecDepth 100000
open Go.RowKit
set_option maxRecDepth 100000 in
set_option maxHeartbeats 4000000 in
theorem sUpstreamMean (a : Option Addr) (n cap : Nat) (R : List (List Int)) (x : Int) (w : World) (h : Mat w a n R) :
    Calls Try.prog 25 #[.slice a n cap, .int .i64 x] w fun e w' => e = .returned (.tuple #[.agg #[.int .i64 (M.upRes R x).1.1, .int .i64 (M.upRes R x).1.2], .int .i64 (M.upRes R x).2]) ∧ Below w.heap.size w w' := by
  have HA := Lib.hid h
  have HRn := Lib.hid h.1
  have HB0 : Hid (∀ qd, Below (w.alloc (.cells #[.int .i64 0, .int .i64 0] 37)).heap.size (w.alloc (.cells #[.int .i64 0, .int .i64 0] 37)) ((w.alloc (.cells #[.int .i64 0, .int .i64 0] 37)).drewN qd)) := fun qd => b_draws _ _
  have HA0 : Hid (∀ qd, Below w.heap.size w ((w.alloc (.cells #[.int .i64 0, .int .i64 0] 37)).drewN qd)) := fun qd => (b_alloc w _).trans ((HB0.out qd).mono (by simp))
  by_cases hs : M.sqB R = true
  · have HS := Lib.hid hs
    have HQ := Lib.hid (sq_of h hs)
    obtain ⟨n1, n2⟩ := (sq_of h hs).2.2.2
    obtain ⟨c, hc⟩ : ∃ c, c = M.inN n x := ⟨_, rfl⟩
    have HC := Lib.hid hc.symm
    cases c with
    | true =>
      obtain ⟨k, hk, rfl⟩ := M.inN_j hc.symm
      have hki2 : (k : Int) < (n : Int) := by omega
      obtain ⟨r, hr⟩ : ∃ r, r = M.cycMeanRes (M.mk n n (M.upF2 (M.ent R) n k)) := ⟨_, rfl⟩
      have HR := Lib.hid hr.symm
      have HE : Hid (M.upRes R k = r) := by
        show _ = _
        have := M.up_both hs k
        rw [h.1] at this
        unfold M.upRes
        rw [if_pos hs, h.1, ← hc, if_pos rfl, hr, this]; rfl
      have HRe : Hid (M.mk n n (M.midG (M.upF2 (M.ent R) n k) (M.ent R) 0 0) = R) := by
        show _ = _
        rw [M.midG_zero]
        have e := M.mk_self R n (fun i hi => HQ.out.2.1.2 i (by rw [← HQ.out.2.1.1]; exact hi))
        rw [h.1] at e
        exact e
      clear h hs hc hr
      obtain ⟨⟨r1, r2⟩, r3⟩ := r
      obtain ⟨ab, aoff, -, -, rfl, -, -⟩ := HQ.out.1.rect_first HQ.out.2.1 n1
      go_enter Try.func25, Try.ntmps25
      go_wp2_with fail
      refine (sSquare_b _ _ _ R _ true HS.out (HA.out.below (b_alloc _ _))).mono ?_
      rintro e w' ⟨rfl, qd, rfl⟩
      go_wp2_with fail
      refine (sNode_b _ _ _ (k : Int) _ true HC.out (by omega)).mono ?_
      rintro e w' ⟨rfl, rfl⟩
      go_wp2_with fail
      refine (sReach _ _ _ R _ (HQ.out.below (HA0.out qd))).mono ?_
      rintro e w1 ⟨tb, tc, rfl, htb, hb⟩
      obtain ⟨tg, -, rfl, -, -⟩ := htb.at 0 0 n1 n1
      have HT1 := Lib.hid htb
      have HB1 := Lib.hid ((HB0.out qd).trans (hb.mono (HB0.out qd).size))
      have HM1 := Lib.hid (HA.out.below ((HA0.out qd).trans (hb.mono (HA0.out qd).size)))
      clear htb hb
      go_wp2_with fail
      refine (sOwnM _ _ _ R _ HM1.out (by omega) (fun i hi => by rw [HQ.out.2.1.2 i hi]; omega)).mono ?_
      rintro e w2 ⟨a2, cap2, rfl, hO, hb⟩
      rw [← HRe.out] at hO
      obtain ⟨g, -, -, -, -, rfl, -⟩ := hO.tri (rect_mk _ _ _) 0 0 0 (by omega) (by omega) (by omega)
      have HO0 := Lib.hid hO
      have HBo := Lib.hid hb
      clear hO hb
      go_wp2
      go_loopw [8, 9] (fun i _ wr => ∃ s : Nat, s ≤ n ∧ i = .int .i64 s ∧ Hid (OwnM wr w1.heap.size (.slice (some ⟨g, 0, none⟩) n cap2) (M.mk n n (M.midG (M.upF2 (M.ent R) n k) (M.ent R) s 0))) ∧ Hid (Below w1.heap.size w1 wr)) (fun i _ _ => n - (intOf i).toNat)
      case atStart => exact ⟨0, Nat.zero_le _, rfl, HO0, HBo⟩
      case round =>
        clear HO0 HBo
        obtain ⟨s, hs, rfl, HO, HB⟩ := hrel
        by_cases hsl : s < n
        · have hsi : (s : Int) < (n : Int) := by omega
          go_wp2
          go_loopw [9] (fun i wr => ∃ t : Nat, t ≤ n ∧ i = .int .i64 t ∧ Hid (OwnM wr w1.heap.size (.slice (some ⟨g, 0, none⟩) n cap2) (M.mk n n (M.midG (M.upF2 (M.ent R) n k) (M.ent R) s t))) ∧ Hid (Below w1.heap.size w1 wr)) (fun i _ => n - (intOf i).toNat)
          case atStart => exact ⟨0, Nat.zero_le _, rfl, HO, HB⟩
          case round =>
            clear HO HB
            obtain ⟨t, ht, rfl, HO, HB⟩ := hrel
            by_cases htl : t < n
            · have hti : (t : Int) < (n : Int) := by omega
              obtain ⟨g1, q1, e1, r1', r2'⟩ := (HT1.out.below HB.out).at s k hsl hk
              injection e1 with e1
              injection e1 with e1
              subst e1
              obtain ⟨g1, q2, e1, r3', r4'⟩ := (HT1.out.below HB.out).at t k htl hk
              injection e1 with e1
              injection e1 with e1
              subst e1
              obtain ⟨g2, q3, c3, -, -, hgg, hq, h1, h2, -, -, -, h6, ho⟩ := HO.out.tri (rect_mk _ _ _) s t t hsl htl htl
              injection hgg with hgg
              injection hgg with hgg
              subst hgg
              obtain ⟨u, hu⟩ : ∃ u, u = M.rchB (M.ent R) n s k := ⟨_, rfl⟩
              obtain ⟨y, hy⟩ : ∃ y, y = M.rchB (M.ent R) n t k := ⟨_, rfl⟩
              rw [← hu] at r2'
              rw [← hy] at r4'
              have hf : M.upF2 (M.ent R) n k s t = if u && y then M.ent R s t else -1000000000000000 := by unfold M.upF2; rw [hu, hy]
              by_cases huy : (u && y) = true
              · rw [Bool.and_eq_true] at huy
                obtain ⟨rfl, rfl⟩ := huy
                have HO2 : Hid (OwnM wr w1.heap.size (.slice (some ⟨g, 0, none⟩) n cap2) (M.mk n n (M.midG (M.upF2 (M.ent R) n k) (M.ent R) s (t + 1)))) := by
                  show OwnM _ _ _ _; rw [← M.midG_same _ _ _ _ _ hf]; exact HO.out
                clear ho hf hu hy h2
                go_wp2
                go_roundw
                case rel => exact ⟨t + 1, by omega, by go_num, HO2, HB⟩
                case measure => simp [intOf]; omega
              · rw [if_neg huy] at hf
                have hN := ho (-1000000000000000)
                rw [← hf, M.midG_next _ _ _ _ _ hsl, hf] at hN
                have HN := Lib.hid hN
                have HBn := Lib.hid (HB.out.setCell (p := ⟨q3, t, none⟩) hq (.int .i64 (-1000000000000000)))
                clear ho hf hu hy hN
                cases u with
                | false =>
                  clear huy
                  go_wp2
                  go_roundw
                  case rel => exact ⟨t + 1, by omega, by go_num, HN, HBn⟩
                  case measure => simp [intOf]; omega
                | true =>
                  cases y with
                  | true => exact absurd rfl huy
                  | false =>
                    clear huy
                    go_wp2
                    go_roundw
                    case rel => exact ⟨t + 1, by omega, by go_num, HN, HBn⟩
                    case measure => simp [intOf]; omega
            · obtain rfl : t = n := by omega
              have HO2 : Hid (OwnM wr w1.heap.size (.slice (some ⟨g, 0, none⟩) t cap2) (M.mk t t (M.midG (M.upF2 (M.ent R) t k) (M.ent R) (s + 1) 0))) := by
                show OwnM _ _ _ _; rw [← M.midG_row_end]; exact HO.out
              go_wp2
              go_roundw
              case rel => exact ⟨s + 1, by omega, by go_num, HO2, HB⟩
              case measure => simp [intOf]; omega
        · obtain rfl : s = n := by omega
          have HO2 : Hid (OwnM wr w1.heap.size (.slice (some ⟨g, 0, none⟩) s cap2) (M.mk s s (M.upF2 (M.ent R) s k))) := by
            show OwnM _ _ _ _; rw [← M.midG_end]; exact HO.out
          go_wp2_with fail
          refine (sCycleMean _ _ _ _ _ HO2.out.mat).mono ?_
          rintro e w3 ⟨rfl, hb⟩
          rw [HR.out]
          have hb1 := HB1.out.trans ((HB.out.trans (hb.mono HB.out.size)).mono HB1.out.size)
          have hz := hb1.size
          simp at hz
          obtain ⟨hcc, hff⟩ := bcell hb1
          have z1 : w.heap.size < w3.heap.size := by omega
          clear hb
          go_wp2
          exact bodyPost_ret (v := .tuple #[.agg #[.int .i64 r1, .int .i64 r2], .int .i64 r3]) (by simp [results, Try.results25, go_sem, z1, hcc]) rfl ⟨by rw [HE.out], bel1s hb1⟩
    | false =>
      have HE : Hid (M.upRes R x = ((0, 0), 2)) := by
        show _ = _
        unfold M.upRes
        rw [if_pos hs, h.1, ← hc]; rfl
      clear h hs hc
      go_enter Try.func25, Try.ntmps25
      go_wp2_with fail
      refine (sSquare_b _ _ _ R _ true HS.out (HA.out.below (b_alloc _ _))).mono ?_
      rintro e w' ⟨rfl, qd, rfl⟩
      go_wp2_with fail
      refine (sNode_b _ _ _ x _ false HC.out (by omega)).mono ?_
      rintro e w' ⟨rfl, rfl⟩
      go_wp2
      exact bodyPost_ret (v := .tuple #[.agg #[.int .i64 0, .int .i64 0], .int .i64 2]) (by simp [results, Try.results25, go_sem]) rfl ⟨by rw [HE.out], bel1s (b_draws _ _)⟩
  · simp only [Bool.not_eq_true] at hs
    have HS := Lib.hid hs
    have HE : Hid (M.upRes R x = ((0, 0), 1)) := by show _ = _; unfold M.upRes; rw [hs]; rfl
    clear h hs
    go_enter Try.func25, Try.ntmps25
    go_wp2_with fail
    refine (sSquare_b _ _ _ R _ false HS.out (HA.out.below (b_alloc _ _))).mono ?_
    rintro e w' ⟨rfl, qd, rfl⟩
    go_wp2
    exact bodyPost_ret (v := .tuple #[.agg #[.int .i64 0, .int .i64 0], .int .i64 1]) (by simp [results, Try.results25, go_sem]) rfl ⟨by rw [HE.out], bel1s (b_draws _ _)⟩
end V
end Go.Proofs.Ytcofjjipjcekjaa

namespace Go.Proofs.Ytcofjjipjcekjaa
namespace M
theorem up_sub (R : List (List Int)) (v : Nat) : ∀ i j, i < R.length → j < R.length → ent (mk R.length R.length (upF (ent R) R.length v)) i j = ent R i j ∨ ent (mk R.length R.length (upF (ent R) R.length v)) i j = -1000000000000000 := fun i j hi hj => by
  rw [ent_mk _ _ _ _ _ hi hj]
  unfold upF
  split
  · exact .inl rfl
  · exact .inr rfl
/-- No upstream mean is greater than the cycle mean. -/
theorem up_cmp {R : List (List Int)} {x : Int} (h : (upRes R x).2 = 0) (hc : (cycMeanRes R).2 = 0) :
    (cmpOf (upRes R x).1.1 (upRes R x).1.2 (cycMeanRes R).1.1 (cycMeanRes R).1.2).2 = 0 ∧ (cmpOf (upRes R x).1.1 (upRes R x).1.2 (cycMeanRes R).1.1 (cycMeanRes R).1.2).1 ≤ 0 := by
  obtain ⟨k1, k2, k3, k4⟩ := cyc_t hc
  obtain ⟨n1, n2, hA⟩ := sq_sm k1
  unfold upRes at h ⊢
  rw [if_pos k1] at h ⊢
  by_cases hx : inN R.length x = true
  · rw [if_pos hx] at h ⊢
    obtain ⟨g1, g2, g3, g4⟩ := cyc_t h
    rw [mk_length] at g2 g3 g4
    have hle := sub_le n2 hA (up_sub R x.toNat) g2
    rw [g4, k4]
    unfold cmpOf
    dsimp only
    rw [g3, k3, if_pos (by rfl)]
    refine ⟨rfl, ?_⟩
    show cmpZ _ _ ≤ 0
    unfold cmpZ
    split
    · omega
    · rw [if_neg (by omega)]; omega
  · rw [if_neg hx] at h; simp at h
/-- The upstream mean of a node of the best cycle is the cycle mean. -/
theorem up_best {R : List (List Int)} (hc : (cycMeanRes R).2 = 0) : upRes R ((bestCyc R).getD 0 0) = cycMeanRes R := by
  obtain ⟨k1, k2, k3, k4⟩ := cyc_t hc
  obtain ⟨n1, n2, hA⟩ := sq_sm k1
  obtain ⟨q1, q2, q3, q4⟩ := best_cyc k1 k2
  have hn : nodesB R.length (bestCyc R) = true ∧ aroundW R (bestCyc R) ≠ -1000000000000000 := by
    unfold cycB at q1
    rw [Bool.and_eq_true, Bool.and_eq_true, Bool.and_eq_true] at q1
    exact ⟨q1.1.1.2, of_decide_eq_true q1.2⟩
  obtain ⟨hn, hf⟩ := hn
  have hat := nodesB_at hn (k := 0) (by omega)
  have hlt := vx_lt hn (k := 0) (by omega)
  obtain ⟨c, hcv⟩ : ∃ c, c = vx (bestCyc R) 0 := ⟨_, rfl⟩
  have e0 : ((bestCyc R).getD 0 0).toNat = c := hcv.symm
  have hin : inN R.length ((bestCyc R).getD 0 0) = true := by
    unfold inN; rw [decide_eq_true hat.1, decide_eq_true hat.2]; rfl
  unfold upRes
  rw [if_pos k1, if_pos hin, e0]
  generalize bestCyc R = q at *
  have hvn : ∀ u, vx q (u % q.length) < R.length := fun u => vx_lt hn (Nat.mod_lt _ (by omega))
  have ho := list_owk (A := ent R) (fun i j hi hj => sm_wide (hA i j hi hj)) q3 (by omega) hn
  rw [← around_arW, o_fin hf] at ho
  have hcl : vx q (q.length % q.length) = vx q (0 % q.length) := by rw [Nat.mod_self, Nat.zero_mod]
  have harc := owk_arc (A := ent R) (v := fun u => vx q (u % q.length)) (s := q.length) (by rw [← ho]; simp)
  obtain ⟨e1, e2⟩ := sub_same (A := ent R) (A' := ent (mk R.length R.length (upF (ent R) R.length c))) n2 hA (up_sub R c) (v := fun u => vx q (u % q.length)) (s := q.length) (w := aroundW R q) q3 hcl (fun u _ => hvn u) ho.symm (by
    have hb := rat_back (n := aroundW R q) (d := (q.length : Int)) (by omega)
    have e1 : ratN (aroundW R q) q.length = (bestR (ent R) R.length).1 := congrArg Prod.fst q2
    have e2 : ratD (aroundW R q) q.length = (bestR (ent R) R.length).2 := congrArg Prod.snd q2
    rw [e1, e2] at hb
    rw [Int.mul_comm, ← hb]; ac_rfl) (fun u hu => by
    show ent (mk R.length R.length (upF (ent R) R.length c)) (vx q ((u + 1) % q.length)) (vx q (u % q.length)) = _
    rw [ent_mk _ _ _ _ _ (hvn _) (hvn _)]
    have hr : rchB (ent R) R.length (vx q ((u + 1) % q.length)) c = true := by
      refine rchB_t.2 ⟨q.length - (u + 1), fun t => vx q ((u + 1 + t) % q.length), rfl, ?_, fun t _ => hvn _, fun t ht => ?_⟩
      · show vx q ((u + 1 + (q.length - (u + 1))) % q.length) = c
        rw [show u + 1 + (q.length - (u + 1)) = q.length by omega, Nat.mod_self, hcv]
      · exact harc (u + 1 + t) (by omega)
    unfold upF
    rw [if_pos hr])
  have hup := up_val k1 c
  unfold cycMeanRes
  rw [sq_mk n1 n2 hup, mk_length, k1, e1, e2, k2]
/-- The nodes of a component reach each other. -/
theorem comp_rch {A : Nat → Nat → Int} {n : Nat} {l : List Int} (hl : l ∈ compsL A n) {i j : Nat} (hi : i < l.length) (hj : j < l.length) :
    ∃ x y : Nat, x < n ∧ y < n ∧ l.getD i 0 = x ∧ l.getD j 0 = y ∧ rchB A n x y = true ∧ rchB A n y x = true := by
  obtain ⟨v, hv, -, rfl⟩ := mem_compsP.1 hl
  obtain ⟨x, hx, rx, ex⟩ := compL_at hi
  obtain ⟨y, hy, ry, ey⟩ := compL_at hj
  obtain ⟨a1, a2⟩ := relB_t.1 rx
  obtain ⟨b1, b2⟩ := relB_t.1 ry
  exact ⟨x, y, hx, hy, ex, ey, rchB_t.2 (rch_trans a2 b1), rchB_t.2 (rch_trans b2 a1)⟩
end M
end Go.Proofs.Ytcofjjipjcekjaa

namespace Go.Proofs.Ytcofjjipjcekjaa.V
open Go.RowKit Go.ChangeShapes Go.WideShapes Go.Deep

theorem mat_open {H : Type} {enc : TypeId × Value → H} {P : Program} {w : World} {base : Nat} {held : Bool} {t e q : TypeId} {fuel : Nat} {cs : List Value} {x : DataW H × List MemPlace} (ht : P.underlying t = some (.slice e)) (he : P.underlying e = some (.slice q)) (hq : P.underlying q = some (.int .i64))
    (ce : P.cellsOf e = 1) (cq : P.cellsOf q = 1) (h : DataW.trod enc P w base (fun _ => true) held fuel t cs = some x) :
    ∃ a len cap R, cs = [.slice a len cap] ∧ Mat w a len R := by
  rcases open_int_rows ht he hq ce cq h with ⟨rfl, -⟩ | ⟨a, len, cap, A, L, C, Z, rfl, hb, hl, hm, -, hr⟩
  · exact ⟨none, 0, 0, [], rfl, rfl, Nat.zero_le _, .inl rfl⟩
  · refine ⟨some a, len, cap, (List.range len).map fun r => (Z r).take (L r), rfl, by simp, by omega, ?_⟩
    by_cases h0 : len = 0
    · exact .inl h0
    · have hsp : a.spot = none := by
        have := (hr 0 (by omega)).1
        simpa [Addr.add] using World.cell?_spot this
      obtain ⟨b, off, spot⟩ := a
      simp only at hsp
      subst hsp
      refine .inr ⟨b, off, rfl, ?_, fun i hi => ?_⟩
      · have := cell_lt (hr 0 (by omega)).1
        simpa [Addr.add] using this
      · obtain ⟨h1, h2, h3, h4, h5, h6, h7⟩ := hr i (by omega)
        have eR : ((List.range len).map fun r => (Z r).take (L r)).getD i [] = (Z i).take (L i) := by simp [hi]
        rw [eR]
        have eL : ((Z i).take (L i)).length = L i := by rw [List.length_take]; omega
        rw [eL]
        refine ⟨A i, C i, by rw [← Go.WideShapes.add_plain]; exact h1, eL, by omega, ?_⟩
        by_cases hL : L i = 0
        · exact .inl hL
        · cases hA : A i with
          | none => have := h6 hA; omega
          | some a' =>
            obtain ⟨-, hc⟩ := h7 a' hA
            obtain ⟨b', off', rfl, hc'⟩ := ints_at (k := .i64) (zs := Z i) (fun j hj => hc j (by omega)) (by omega)
            refine .inr ⟨b', off', rfl, cell_lt (hc' 0 (by omega)), fun j hj => ?_⟩
            rw [hc' j (by omega)]
            simp [List.getD_eq_getElem?_getD, hj]
end Go.Proofs.Ytcofjjipjcekjaa.V
