/- Texts laid together: Sev, Cpe, Egs, Img, Img2. -/
import Derived.Test.YtihpbgjiohnekabGreatQz16
import Derived.Test.YtihpbgjiohnekabGreatQz9
import Derived.Test.YtihpbgjiohnekabGreatQz8
import Derived.Test.YtihpbgjiohnekabGreatQz7
import Derived.Test.YtihpbgjiohnekabGreatQz10
import Derived.Test.YtihpbgjiohnekabGreatQz14
set_option linter.unusedSimpArgs false
set_option linter.unusedVariables false
set_option linter.unusedSectionVars false
namespace Go.Proofs.YtihpbgjiohnekabGreat
namespace V
set_option maxRecDepth 100000
open Go.RowKit
set_option maxRecDepth 100000 in
set_option maxHeartbeats 4000000 in
theorem sEigenVector (a : Option Addr) (n cap : Nat) (R : List (List Int)) (w : World) (h : Mat w a n R) :
    Calls Tryz.prog 52 #[.slice a n cap] w (EPost (M.eigRes R) w) := by
  have HA := Lib.hid h
  have hRn : R.length = n := h.1
  have HRn := Lib.hid hRn
  have HB0 : Hid (Below w.heap.size w (w.alloc (.cells #[.int .i64 0, .int .i64 0] 26))) := b_alloc _ _
  by_cases hc : (M.cycMeanRes R).2 = 0
  · obtain ⟨c, L, hs, hcyc, hnear, hp, hq, hcl, hvx, hov⟩ := M.eig_t hc
    have hE : M.eigRes R = M.eigOk R := by unfold M.eigRes; rw [if_pos hc]
    have hcm := (M.cyc_t hc).2.2.2
    have hrow := M.eig_row hcl hvx
    unfold M.stcM at hrow
    rw [hRn] at hcyc hnear hp hcl hov hcm hrow
    obtain ⟨hr, n1, n2, hsm⟩ := sq_parts h hs
    have HR := Lib.hid hr
    have HSm := Lib.hid hsm
    have HQ := Lib.hid (sq_of h hs)
    obtain ⟨r, hrr⟩ : ∃ r, r = M.bestR (M.ent R) n := ⟨_, rfl⟩
    have hOk : M.eigOk R = if M.isVec (M.eigL R) then (M.eigL R, r, 0) else ([], (0, 0), 3) := by unfold M.eigOk; rw [hRn, hrr]
    rw [← hrr] at hnear hp hov hcm hrow
    have HNear := Lib.hid hnear
    have HP := Lib.hid hp
    have HSs := Lib.hid hs
    have HB2 : Hid (M.best2 R = M.bestCyc R) := by show _ = _; unfold M.best2; rw [hRn, hcyc, if_pos rfl]
    have HOv := Lib.hid hov
    have HCm := Lib.hid hcm
    have HRow := Lib.hid hrow
    have HQq := Lib.hid hq
    obtain ⟨r1, r2⟩ := r
    have HBm : Hid (∀ i j, i < n → j < n → M.Sm 1000001000000 (M.bestF (M.shf (M.ent R) r1 r2) n i j)) := fun i j hi hj => by
      unfold M.bestF
      split
      · exact M.sh_sm HSm.out HNear.out i j hi hj
      · exact .inl rfl
    obtain ⟨l, hl⟩ : ∃ l, l = M.eigL R := ⟨_, rfl⟩
    obtain ⟨bv, hbv⟩ : ∃ b, b = M.isVec l := ⟨_, rfl⟩
    have HV := Lib.hid hbv.symm
    have hll : l.length = n := by rw [hl, M.eigL_len, hRn]
    have HLl := Lib.hid hll
    have HE : Hid (M.eigRes R = if bv then (l, (r1, r2), 0) else ([], (0, 0), 3)) := by show _ = _; rw [hE, hOk, ← hl, ← hbv]
    rw [← hl] at HRow
    have hci : (c : Int) < (n : Int) := by omega
    clear hRn h hc hs hcyc hnear hp hq hvx hov hE hcm hrow hr hsm hrr hOk hl hbv hll
    go_enter Tryz.func52, Tryz.ntmps52
    go_wp2_with fail
    refine (sCycleMean _ _ _ R _ (HA.out.below HB0.out)).mono ?_
    rintro e w1 ⟨rfl, hb⟩
    rw [HCm.out]
    have HB1 := Lib.hid hb
    clear hb
    obtain ⟨wb, hwb⟩ : ∃ x, x = w1.alloc (rbox r1 r2) := ⟨_, rfl⟩
    have HX : Hid (Boxed w1 wb r1 r2) := by show Boxed _ _ _ _; rw [hwb]; exact boxed _ _ _
    have HBx := Lib.hid (HB1.out.trans (HX.out.below.mono HB1.out.size))
    have HBy := Lib.hid (HB0.out.trans (HBx.out.mono HB0.out.size))
    go_wp2_with fail
    change Calls _ _ _ (w1.alloc (rbox r1 r2)) _
    rw [← hwb]
    clear hwb
    refine (sBest _ _ _ R _ (HA.out.below HBy.out) HSs.out).mono ?_
    rintro e w4 ⟨b4, n4, c4, rfl, ho, hb⟩
    rw [HB2.out, HQq.out] at ho
    obtain ⟨cb, co, x0, rfl, hcb, hx0, cx0⟩ := ho.ints'.at 0 (by rw [ho.len]; simp)
    have hn4 : 0 < n4 := by rw [ho.len]; simp
    rw [Nat.add_zero] at cx0
    have hx1 : x0 = (c : Int) := hx0
    clear hx0
    subst hx1
    have HB4 := Lib.hid hb
    clear ho hb
    obtain ⟨p0, p1⟩ := HX.out.cells HB4.out
    go_wp2_with fail
    refine (sShift _ _ _ R r1 r2 _ (HA.out.below (HBy.out.trans (HB4.out.mono HBy.out.size))) HR.out n1 n2 HSm.out HNear.out).mono ?_
    rintro e w5 ⟨b5, c5, rfl, ho, hb⟩
    have HSq5 : Hid (Sq w5 b5 n (M.mk n n (M.shf (M.ent R) r1 r2))) := ⟨ho.mat, rect_mk _ _ _, fun i j hi hj => by rw [M.ent_mk _ _ _ _ _ hi hj]; exact M.sh_sm HSm.out HNear.out i j hi hj, n1, n2⟩
    have HB5 := Lib.hid (HB4.out.trans (hb.mono HB4.out.size))
    have hcx5 := (hb.cell (p := ⟨cb, co, none⟩) (cell_lt cx0)).trans cx0
    have hcb5 : cb < w5.heap.size := Nat.lt_of_lt_of_le (cell_lt cx0) hb.size
    clear ho hb cx0 p0 p1
    go_wp2_with fail
    refine (sStar _ _ _ (M.mk n n (M.shf (M.ent R) r1 r2)) _ HSq5.out).mono ?_
    rintro e w6 ⟨b6, c6, rfl, ho, hb⟩
    have hnp : M.noPos (M.ent (M.mk n n (M.shf (M.ent R) r1 r2))) n = true := by rw [M.noPos_mk]; exact HP.out
    rw [M.bm_star n2 HSq5.out.2.2.1 hnp, M.starM_mk] at ho
    rw [hnp]
    clear hnp
    obtain ⟨m6, hm6⟩ : ∃ m6, m6 = n := ⟨_, rfl⟩
    subst hm6
    have HO6 := Lib.hid ho
    have HB6 := Lib.hid (HB5.out.trans (hb.mono HB5.out.size))
    have cx6 := (hb.cell (p := ⟨cb, co, none⟩) hcb5).trans hcx5
    have hcb6 : cb < w6.heap.size := Nat.lt_of_lt_of_le hcb5 hb.size
    clear ho hb hcx5 hcb5
    go_wp2
    go_region_with (go_at_call 123; refine (sTurn _ _ _ m6 (M.mk m6 m6 (M.starF (M.shf (M.ent R) r1 r2) m6)) _ (HO6.out.mat.below (below_drewN (Below.refl _ _) _)) (rect_mk _ _ _) n1 n2 n1 n2).mono ?_; rintro e w7 ⟨b7, c7, rfl, ho, hb⟩; obtain ⟨g7, ra7, rc7, rfl, hcr7, hro7⟩ := ho.row c hcl; rw [HRow.out, HLl.out] at hcr7 hro7; have cx7 := (hb.cell (p := ⟨cb, co, none⟩) hcb6).trans cx6; have HO7 := Lib.hid hro7; have HB7 := Lib.hid ((below_drewN (Below.refl w6.heap.size w6) _).trans hb); clear hro7 ho hb)
    all_goals
      have HB8 := Lib.hid (HBx.out.trans ((HB6.out.trans (HB7.out.mono HB6.out.size)).mono HBx.out.size))
      have HX7 := HX.out.cells (HB6.out.trans (HB7.out.mono HB6.out.size))
      obtain ⟨p0, p1⟩ := HX7
      have hz8 := HB8.out.size
      simp at hz8
      obtain ⟨hcc, hff⟩ := bcell HB8.out
      have z1 : w.heap.size < w7.heap.size := by omega
      have hlt6 : w.heap.size < w6.heap.size := by have h1 := HB6.out.size; have h2 := HBx.out.size; simp at h2; omega
      have hlo : w.heap.size ≤ w6.heap.size := by omega
      cases bv with
      | false =>
        go_wp2_with fail
        refine (sVector_b _ _ _ l _ false HV.out HO7.out.ints').mono ?_
        rintro e w' ⟨rfl, rfl⟩
        go_wp2
        exact bodyPost_ret (v := .tuple #[.slice none 0 0, .agg #[.int .i64 0, .int .i64 0], .int .i64 3]) (by simp [results, Tryz.results52, go_sem, z1, hcc]) rfl (EPost.nil HE.out (bel1s HB8.out))
      | true =>
        go_wp2_with fail
        refine (sVector_b _ _ _ l _ true HV.out HO7.out.ints').mono ?_
        rintro e w' ⟨rfl, rfl⟩
        go_wp2
        go_region
        all_goals (try go_wp2)
        all_goals
          exact bodyPost_ret (v := .tuple #[.slice ra7 m6 rc7, .agg #[.int .i64 r1, .int .i64 r2], .int .i64 0]) (by simp [results, Tryz.results52, go_sem, z1, hcc]) rfl (by
            rw [HE.out]
            refine ⟨ra7, m6, rc7, rfl, (HO7.out.keep fun k k1 _ => ?_).mono hlo, by first | exact bel1s HB8.out | exact bel1s (below_drewN HB8.out 1)⟩
            have k2 : w6.heap.size ≤ k := k1
            exact (Below.heap_setCell _ _ _ k (by show k ≠ w.heap.size; omega)).trans (Below.heap_setCell _ _ _ k (by show k ≠ w.heap.size; omega)))
  · have HE : Hid (M.eigRes R = ([], (0, 0), (M.cycMeanRes R).2)) := by show _ = _; unfold M.eigRes; rw [if_neg hc]
    obtain ⟨r, hr⟩ : ∃ r, r = M.cycMeanRes R := ⟨_, rfl⟩
    rw [← hr] at hc HE
    have HR := Lib.hid hr.symm
    obtain ⟨⟨r1, r2⟩, r3⟩ := r
    have hr3 : (r3 != 0) = true := by simpa using hc
    clear h hc hr
    go_enter Tryz.func52, Tryz.ntmps52
    go_wp2_with fail
    refine (sCycleMean _ _ _ R _ (HA.out.below HB0.out)).mono ?_
    rintro e w1 ⟨rfl, hb⟩
    rw [HR.out]
    have hz := hb.size
    simp at hz
    obtain ⟨hcc, hff⟩ := bcell hb
    have z1 : w.heap.size < w1.heap.size := by omega
    go_wp2
    exact bodyPost_ret (v := .tuple #[.slice none 0 0, .agg #[.int .i64 0, .int .i64 0], .int .i64 r3]) (by simp [results, Tryz.results52, go_sem, z1, hcc]) rfl (EPost.nil HE.out ((bel1s hb).alloc (bel1s hb).size _))
end V
end Go.Proofs.YtihpbgjiohnekabGreat

namespace Go.Proofs.YtihpbgjiohnekabGreat
namespace M
def loV (b : Bool) : Int := if b then -1 else 0
def cmpAt (R : List (List Int)) (a b : Int) (x : List Int) (n : Nat) : Int := if cmpSome x n then loV (cmpLo R a b x n) else 1
theorem cmpE_no {R : List (List Int)} {a b : Int} {x : List Int} (h : cmpOk R a b x = false) : cmpE R a b x = 1 := by unfold cmpE; rw [h]; rfl
theorem cmpE_up {R : List (List Int)} {a b : Int} {x : List Int} {k : Nat} (h : cmpOk R a b x = true) (hk : k < x.length) (hu : eigZ a x k < eigY R b x k) : cmpE R a b x = 1 := by
  unfold cmpE
  rw [if_pos h, if_pos]
  unfold cmpUp
  rw [List.any_eq_true]
  exact ⟨k, List.mem_range.2 hk, by rw [decide_eq_true_eq]; exact hu⟩
theorem cmpE_end {R : List (List Int)} {a b : Int} {x : List Int} (h : cmpOk R a b x = true) (hu : cmpUp R a b x x.length = false) : cmpE R a b x = cmpAt R a b x x.length := by
  unfold cmpE cmpAt loV
  rw [if_pos h, hu]
  rfl
theorem up_next (R : List (List Int)) (a b : Int) (x : List Int) (k : Nat) : cmpUp R a b x (k + 1) = (cmpUp R a b x k || decide (eigZ a x k < eigY R b x k)) := any_next _ _
theorem lo_next (R : List (List Int)) (a b : Int) (x : List Int) (k : Nat) : cmpLo R a b x (k + 1) = (cmpLo R a b x k || decide (eigY R b x k < eigZ a x k)) := any_next _ _
theorem some_next (x : List Int) (k : Nat) : cmpSome x (k + 1) = (cmpSome x k || decide (x.getD k 0 ≠ -1000000000000000)) := any_next _ _
theorem cmpOk_of {R : List (List Int)} {a b : Int} {x : List Int} {c d e f : Bool} (h1 : sqB R = c) (h2 : isRat a b = d) (h3 : isVec x = e) (h4 : decide (x.length = R.length) = f) : cmpOk R a b x = (c && d && e && f) := by unfold cmpOk; rw [h1, h2, h3, h4]
end M
namespace V
open Go.RowKit
set_option maxRecDepth 100000 in
set_option maxHeartbeats 400000 in
theorem sStretch (a : Option Addr) (n cap : Nat) (R : List (List Int)) (k : Int) (w : World) (h : Mat w a n R) (hr : Rect R n n) (n1 : 1 ≤ n) (n2 : n ≤ 10) (hs : ∀ i j, i < n → j < n → M.Sm 1000000 (M.ent R i j)) (k1 : 1 ≤ k) (k2 : k ≤ 1000000) :
    Calls Tryz.prog 129 #[.slice a n cap, .int .i64 k] w (MPost n (M.mk n n (M.shf (M.ent R) 0 k)) w) := by
  have HA := Lib.hid h
  have HR := Lib.hid hr
  have HS := Lib.hid hs
  have HN : Hid (M.Near 0 k) := by show M.Near 0 k; unfold M.Near; omega
  clear h hr hs
  go_enter Tryz.func129, Tryz.ntmps129
  go_wp2_with fail
  refine (sShift _ _ _ R 0 k _ HA.out HR.out n1 n2 HS.out HN.out).mono ?_
  rintro e w1 ⟨b, c, rfl, ho, hb⟩
  have HO := Lib.hid ho
  have HB := Lib.hid hb
  clear ho hb
  go_wp2
  go_ret
  exact ⟨_, _, rfl, HO.out, HB.out⟩
set_option maxRecDepth 100000 in
set_option maxHeartbeats 4000000 in
theorem sCompareE (a : Option Addr) (n cap : Nat) (R : List (List Int)) (num den : Int) (a' : Option Addr) (N cap' : Nat) (l : List Int) (w0 : World) (h : Mat w0 a n R) (h' : Ints .i64 w0 a' N l) :
    Calls Tryz.prog 131 #[.slice a n cap, .agg #[.int .i64 num, .int .i64 den], .slice a' N cap'] w0 fun e w' => e = .returned (.int .i64 (M.cmpE R num den l)) ∧ Below w0.heap.size w0 w' := by
  obtain ⟨w, hwd⟩ : ∃ w, w = w0.alloc (rbox num den) := ⟨_, rfl⟩
  have HX : Hid (Boxed w0 w num den) := by show Boxed _ _ _ _; rw [hwd]; exact boxed _ _ _
  have HA : Hid (Mat w a n R) := h.below HX.out.below
  have HI : Hid (Ints .i64 w a' N l) := h'.below HX.out.below
  have HL := Lib.hid h'.1
  have hRl : R.length = n := h.1
  have HRl := Lib.hid hRl
  have HZ := Lib.hid HX.out.size
  have HCe : Hid (∀ wr, Below w.heap.size w wr → wr.cell? ⟨w0.heap.size, 0, none⟩ = some (.int .i64 num) ∧ wr.cell? ⟨w0.heap.size, 1, none⟩ = some (.int .i64 den)) := fun wr hb => HX.out.cells hb
  obtain ⟨bs, hs⟩ : ∃ b, b = M.sqB R := ⟨_, rfl⟩
  have HS := Lib.hid hs.symm
  obtain ⟨br, hr⟩ : ∃ b, b = M.isRat num den := ⟨_, rfl⟩
  have HR := Lib.hid hr.symm
  obtain ⟨bv, hv⟩ : ∃ b, b = M.isVec l := ⟨_, rfl⟩
  have HV := Lib.hid hv.symm
  cases bs with
  | false =>
    have HE : Hid (M.cmpE R num den l = 1) := M.cmpE_no (by unfold M.cmpOk; rw [← hs]; rfl)
    clear h h' hs hr hv hRl
    go_enter Tryz.func131, Tryz.ntmps131
    go_wp2_with fail
    simp only [← hwd] at *
    clear hwd
    refine (sSquare_b _ _ _ R _ false HS.out HA.out).mono ?_
    rintro e w' ⟨rfl, q, rfl⟩
    obtain ⟨p0, p1⟩ := HCe.out _ (b_draws w q)
    have HI0 : Hid (Ints .i64 (w.drewN q) a' N l) := HI.out.below (b_draws w q)
    go_wp2
    go_ret
    exact ⟨by rw [HE.out]; rfl, HX.out.trans (b_draws w q)⟩
  | true =>
    cases br with
    | false =>
      have HE : Hid (M.cmpE R num den l = 1) := M.cmpE_no (by unfold M.cmpOk; rw [← hr]; simp)
      clear h h' hs hr hv hRl
      go_enter Tryz.func131, Tryz.ntmps131
      go_wp2_with fail
      simp only [← hwd] at *
      clear hwd
      refine (sSquare_b _ _ _ R _ true HS.out HA.out).mono ?_
      rintro e w' ⟨rfl, q, rfl⟩
      obtain ⟨p0, p1⟩ := HCe.out _ (b_draws w q)
      have HI0 : Hid (Ints .i64 (w.drewN q) a' N l) := HI.out.below (b_draws w q)
      go_wp2_with fail
      refine (sIsRatio_b _ _ false HR.out _).mono ?_
      rintro e w1 ⟨rfl, hb1⟩
      have HB1 : Hid (Below w.heap.size w w1) := (b_draws w q).trans hb1
      have HI1 : Hid (Ints .i64 w1 a' N l) := HI0.out.below hb1
      obtain ⟨p2, p3⟩ := HCe.out _ HB1.out
      clear hb1
      go_wp2
      go_ret
      exact ⟨by rw [HE.out]; rfl, HX.out.trans HB1.out⟩
    | true =>
      cases bv with
      | false =>
        have HE : Hid (M.cmpE R num den l = 1) := M.cmpE_no (by unfold M.cmpOk; rw [← hv]; simp)
        clear h h' hs hr hv hRl
        go_enter Tryz.func131, Tryz.ntmps131
        go_wp2_with fail
        simp only [← hwd] at *
        clear hwd
        refine (sSquare_b _ _ _ R _ true HS.out HA.out).mono ?_
        rintro e w' ⟨rfl, q, rfl⟩
        obtain ⟨p0, p1⟩ := HCe.out _ (b_draws w q)
        have HI0 : Hid (Ints .i64 (w.drewN q) a' N l) := HI.out.below (b_draws w q)
        go_wp2_with fail
        refine (sIsRatio_b _ _ true HR.out _).mono ?_
        rintro e w1 ⟨rfl, hb1⟩
        have HB1 : Hid (Below w.heap.size w w1) := (b_draws w q).trans hb1
        have HI1 : Hid (Ints .i64 w1 a' N l) := HI0.out.below hb1
        obtain ⟨p2, p3⟩ := HCe.out _ HB1.out
        clear hb1
        go_wp2_with fail
        refine (sVector_b _ _ _ l _ false HV.out HI1.out).mono ?_
        rintro e w' ⟨rfl, rfl⟩
        go_wp2
        go_ret
        exact ⟨by rw [HE.out]; rfl, HX.out.trans HB1.out⟩
      | true =>
        by_cases hN : N = n
        · subst hN
          have hok : M.cmpOk R num den l = true := by unfold M.cmpOk; rw [← hs, ← hr, ← hv, HL.out, hRl]; simp
          have HOk := Lib.hid hok
          obtain ⟨rR, n1, n2, hsm⟩ := sq_parts HA.out hs.symm
          have HRe := Lib.hid rR
          have HSm := Lib.hid hsm
          obtain ⟨d1, d2, d3, d4, -⟩ := M.isRat_t hr.symm
          obtain ⟨-, -, v3⟩ := M.isVec_t hv.symm
          have HVal : Hid (∀ k, k < N → l.getD k 0 = -1000000000000000 ∨ (-1000000 ≤ l.getD k 0 ∧ l.getD k 0 ≤ 1000000)) := fun k hk => M.isVal_t (v3 k (by rw [HL.out]; exact hk))
          have HN0 : Hid (M.Near 0 den) := by show M.Near 0 den; unfold M.Near; omega
          have HB : Hid (∀ k, k < N → M.Big (l.getD k 0)) := fun k hk => M.big_val (v3 k (by rw [HL.out]; exact hk))
          have HM : Hid (∀ i k, i < N → k < N → M.Big (M.ent (M.mk N N (M.shf (M.ent R) 0 den)) i k)) := fun i k hi hk => by
            rw [M.ent_mk _ _ _ _ _ hi hk]; exact M.big_sm (M.shf_sm HN0.out (hsm i k hi hk)) (by omega)
          obtain ⟨y, hy⟩ : ∃ y, y = M.applyM (M.mk N N (M.shf (M.ent R) 0 den)) l := ⟨_, rfl⟩
          have HYe : Hid (∀ k, k < N → y.getD k 0 = M.eigY R den l k) := fun k hk => by
            rw [hy]
            unfold M.applyM
            rw [List.getD_eq_getElem?_getD, List.getElem?_map, M.mk_length, List.getElem?_range hk]
            show M.dotV _ _ k _ = _
            unfold M.dotV M.eigY
            rw [HL.out, hRl]
            exact M.sumN_congr fun j hj => by rw [M.ent_mk _ _ _ _ _ hk hj]
          have HY := Lib.hid hy
          have HNb : Hid (M.Big num) := M.big_sm (L := 1000000) (.inr ⟨d1, d2⟩) (by omega)
          clear h h' hs hr hv hRl hok rR hsm v3 hy
          go_enter Tryz.func131, Tryz.ntmps131
          go_wp2_with fail
          simp only [← hwd] at *
          clear hwd
          refine (sSquare_b _ _ _ R _ true HS.out HA.out).mono ?_
          rintro e w' ⟨rfl, q, rfl⟩
          obtain ⟨p0, p1⟩ := HCe.out _ (b_draws w q)
          have HI0 : Hid (Ints .i64 (w.drewN q) a' N l) := HI.out.below (b_draws w q)
          go_wp2_with fail
          refine (sIsRatio_b _ _ true HR.out _).mono ?_
          rintro e w1 ⟨rfl, hb1⟩
          have HB1 : Hid (Below w.heap.size w w1) := (b_draws w q).trans hb1
          have HI1 : Hid (Ints .i64 w1 a' N l) := HI0.out.below hb1
          obtain ⟨p2, p3⟩ := HCe.out _ HB1.out
          clear hb1
          go_wp2_with fail
          refine (sVector_b _ _ _ l _ true HV.out HI1.out).mono ?_
          rintro e w' ⟨rfl, rfl⟩
          go_wp2_with fail
          refine (sStretch _ _ _ R den _ (HA.out.below HB1.out) HRe.out n1 n2 HSm.out d3 d4).mono ?_
          rintro e w3 ⟨b3, c3, rfl, ho, hb⟩
          have HO3 := Lib.hid ho
          have HB3 := Lib.hid (HB1.out.trans (hb.mono HB1.out.size))
          have HI3 : Hid (Ints .i64 w3 a' N l) := HI1.out.below hb
          clear ho hb p0 p1 p2 p3
          go_wp2_with fail
          refine (sApplyB _ _ _ _ _ _ _ l _ HO3.out.mat HI3.out (rect_mk _ _ _) HM.out HB.out n2 n1 n2).mono ?_
          rintro e w4 ⟨b4, c4, rfl, ho, hb⟩
          rw [← HY.out] at ho
          have HYi := Lib.hid ho.ints'
          have HB4 := Lib.hid (HB3.out.trans (hb.mono HB3.out.size))
          have HI4 : Hid (Ints .i64 w4 a' N l) := HI3.out.below hb
          clear ho hb
          go_wp2
          go_loopw [8, 9, 10, 11] (fun lo so i _ wr => ∃ k : Nat, k ≤ N ∧ i = .int .i64 k ∧ lo = .int .i64 (M.loV (M.cmpLo R num den l k)) ∧ so = .bool (M.cmpSome l k) ∧ Hid (M.cmpUp R num den l k = false) ∧ ∃ q, wr = w4.drewN q) (fun _ _ i _ _ => N - (intOf i).toNat)
          case atStart => exact ⟨0, Nat.zero_le _, rfl, rfl, rfl, rfl, 0, rfl⟩
          case round =>
            obtain ⟨k, hk, rfl, rfl, rfl, HU, q2, rfl⟩ := hrel
            have HBq : Hid (Below w.heap.size w (w4.drewN q2)) := below_drewN HB4.out _
            by_cases hlt : k < N
            · have hki : (k : Int) < (N : Int) := by omega
              obtain ⟨e1, e2, u, rfl, -, hu, cu⟩ := HYi.out.at k hlt
              obtain ⟨e3, e4, v, rfl, -, hv, cv⟩ := HI4.out.at k hlt
              rw [HYe.out k hlt] at hu
              obtain ⟨z, hz⟩ : ∃ z, z = M.eigZ num l k := ⟨_, rfl⟩
              have HCt : Hid (∀ w : World, Calls Tryz.prog 151 #[.int .i64 num, .int .i64 v] w fun e w' => e = .returned (.int .i64 z) ∧ w = w') := by
                intro w
                rw [hz, hv]
                exact sTimesB _ _ _ HNb.out (HB.out k hlt)
              obtain ⟨p0, p1⟩ := HCe.out _ HB4.out
              have hsn := M.some_next l k
              rw [← hv] at hsn
              have hln := M.lo_next R num den l k
              have hun := M.up_next R num den l k
              rw [← hu, ← hz] at hln hun
              rw [HU.out] at hun
              have HLn := Lib.hid hln
              have HUn := Lib.hid hun
              have HUu := Lib.hid hu
              have HZz := Lib.hid hz
              obtain ⟨sk, hsk⟩ : ∃ s, s = M.cmpSome l k := ⟨_, rfl⟩
              have hsn2 : M.cmpSome l (k + 1) = (sk || (v != -1000000000000000)) := by
                rw [hsn, hsk]; congr 1
                by_cases e : v = -1000000000000000 <;> simp [e]
              have HSn := Lib.hid hsn2
              rw [← hsk]
              clear hu hv hz hsn hln hun hsn2 hsk
              cases sk with
              | true =>
                rcases Int.lt_trichotomy z u with hc | hc | hc
                · have HE : Hid (M.cmpE R num den l = 1) := M.cmpE_up HOk.out (by rw [HL.out]; exact hlt) (by rw [← HUu.out, ← HZz.out]; exact hc)
                  generalize M.loV (M.cmpLo R num den l k) = lo at *
                  go_wp2
                  go_quiet ((go_at_call 151; exact q_more_s (HCt.out _)))
                  go_wp2
                  go_ret
                  exact ⟨by rw [HE.out]; rfl, HX.out.trans (below_drewN HB4.out _)⟩
                · have HUN : Hid (M.cmpUp R num den l (k + 1) = false) := by show _ = _; rw [HUn.out, decide_eq_false (by omega)]; rfl
                  have HLN : Hid (M.cmpLo R num den l (k + 1) = M.cmpLo R num den l k) := by show _ = _; rw [HLn.out, decide_eq_false (by omega), Bool.or_false]
                  have hc1 : ¬ z < u := by omega
                  have hc2 : ¬ u < z := by omega
                  clear hc
                  obtain ⟨lo, hlo⟩ : ∃ x, x = M.loV (M.cmpLo R num den l k) := ⟨_, rfl⟩
                  have HLo := Lib.hid hlo
                  rw [← hlo]
                  clear hlo
                  go_wp2
                  go_quiet ((go_at_call 151; exact q_more_s (HCt.out _)))
                  go_wp2
                  go_roundw
                  case rel => exact ⟨k + 1, by omega, by go_num, by rw [HLN.out, HLo.out], by rw [HSn.out]; rfl, HUN, _, rfl⟩
                  case measure => simp [intOf]; omega
                · have HUN : Hid (M.cmpUp R num den l (k + 1) = false) := by show _ = _; rw [HUn.out, decide_eq_false (by omega)]; rfl
                  have HLN : Hid (M.cmpLo R num den l (k + 1) = true) := by show _ = _; rw [HLn.out, decide_eq_true hc, Bool.or_true]
                  have hc1 : ¬ z < u := by omega
                  obtain ⟨lo, hlo⟩ : ∃ x, x = M.loV (M.cmpLo R num den l k) := ⟨_, rfl⟩
                  rw [← hlo]
                  clear hlo
                  go_wp2
                  go_quiet ((go_at_call 151; exact q_more_s (HCt.out _)))
                  go_wp2
                  go_roundw
                  case rel => exact ⟨k + 1, by omega, by go_num, by rw [HLN.out]; rfl, by rw [HSn.out]; rfl, HUN, _, rfl⟩
                  case measure => simp [intOf]; omega
              | false =>
                by_cases hvb : v = -1000000000000000
                · have hv1 : (v != -1000000000000000) = false := by simp [hvb]
                  rw [hv1] at HSn
                  clear hvb
                  rcases Int.lt_trichotomy z u with hc | hc | hc
                  · have HE : Hid (M.cmpE R num den l = 1) := M.cmpE_up HOk.out (by rw [HL.out]; exact hlt) (by rw [← HUu.out, ← HZz.out]; exact hc)
                    generalize M.loV (M.cmpLo R num den l k) = lo at *
                    go_wp2
                    go_quiet ((go_at_call 151; exact q_more_s (HCt.out _)))
                    go_wp2
                    go_ret
                    exact ⟨by rw [HE.out]; rfl, HX.out.trans (below_drewN HB4.out _)⟩
                  · have HUN : Hid (M.cmpUp R num den l (k + 1) = false) := by show _ = _; rw [HUn.out, decide_eq_false (by omega)]; rfl
                    have HLN : Hid (M.cmpLo R num den l (k + 1) = M.cmpLo R num den l k) := by show _ = _; rw [HLn.out, decide_eq_false (by omega), Bool.or_false]
                    have hc1 : ¬ z < u := by omega
                    have hc2 : ¬ u < z := by omega
                    clear hc
                    obtain ⟨lo, hlo⟩ : ∃ x, x = M.loV (M.cmpLo R num den l k) := ⟨_, rfl⟩
                    have HLo := Lib.hid hlo
                    rw [← hlo]
                    clear hlo
                    go_wp2
                    go_quiet ((go_at_call 151; exact q_more_s (HCt.out _)))
                    go_wp2
                    go_roundw
                    case rel => exact ⟨k + 1, by omega, by go_num, by rw [HLN.out, HLo.out], by rw [HSn.out]; rfl, HUN, _, rfl⟩
                    case measure => simp [intOf]; omega
                  · have HUN : Hid (M.cmpUp R num den l (k + 1) = false) := by show _ = _; rw [HUn.out, decide_eq_false (by omega)]; rfl
                    have HLN : Hid (M.cmpLo R num den l (k + 1) = true) := by show _ = _; rw [HLn.out, decide_eq_true hc, Bool.or_true]
                    have hc1 : ¬ z < u := by omega
                    obtain ⟨lo, hlo⟩ : ∃ x, x = M.loV (M.cmpLo R num den l k) := ⟨_, rfl⟩
                    rw [← hlo]
                    clear hlo
                    go_wp2
                    go_quiet ((go_at_call 151; exact q_more_s (HCt.out _)))
                    go_wp2
                    go_roundw
                    case rel => exact ⟨k + 1, by omega, by go_num, by rw [HLN.out]; rfl, by rw [HSn.out]; rfl, HUN, _, rfl⟩
                    case measure => simp [intOf]; omega
                · have hv1 : (v != -1000000000000000) = true := by simpa using hvb
                  rw [hv1] at HSn
                  clear hvb
                  rcases Int.lt_trichotomy z u with hc | hc | hc
                  · have HE : Hid (M.cmpE R num den l = 1) := M.cmpE_up HOk.out (by rw [HL.out]; exact hlt) (by rw [← HUu.out, ← HZz.out]; exact hc)
                    generalize M.loV (M.cmpLo R num den l k) = lo at *
                    go_wp2
                    go_quiet ((go_at_call 151; exact q_more_s (HCt.out _)))
                    go_wp2
                    go_ret
                    exact ⟨by rw [HE.out]; rfl, HX.out.trans (below_drewN HB4.out _)⟩
                  · have HUN : Hid (M.cmpUp R num den l (k + 1) = false) := by show _ = _; rw [HUn.out, decide_eq_false (by omega)]; rfl
                    have HLN : Hid (M.cmpLo R num den l (k + 1) = M.cmpLo R num den l k) := by show _ = _; rw [HLn.out, decide_eq_false (by omega), Bool.or_false]
                    have hc1 : ¬ z < u := by omega
                    have hc2 : ¬ u < z := by omega
                    clear hc
                    obtain ⟨lo, hlo⟩ : ∃ x, x = M.loV (M.cmpLo R num den l k) := ⟨_, rfl⟩
                    have HLo := Lib.hid hlo
                    rw [← hlo]
                    clear hlo
                    go_wp2
                    go_quiet ((go_at_call 151; exact q_more_s (HCt.out _)))
                    go_wp2
                    go_roundw
                    case rel => exact ⟨k + 1, by omega, by go_num, by rw [HLN.out, HLo.out], by rw [HSn.out]; rfl, HUN, _, rfl⟩
                    case measure => simp [intOf]; omega
                  · have HUN : Hid (M.cmpUp R num den l (k + 1) = false) := by show _ = _; rw [HUn.out, decide_eq_false (by omega)]; rfl
                    have HLN : Hid (M.cmpLo R num den l (k + 1) = true) := by show _ = _; rw [HLn.out, decide_eq_true hc, Bool.or_true]
                    have hc1 : ¬ z < u := by omega
                    obtain ⟨lo, hlo⟩ : ∃ x, x = M.loV (M.cmpLo R num den l k) := ⟨_, rfl⟩
                    rw [← hlo]
                    clear hlo
                    go_wp2
                    go_quiet ((go_at_call 151; exact q_more_s (HCt.out _)))
                    go_wp2
                    go_roundw
                    case rel => exact ⟨k + 1, by omega, by go_num, by rw [HLN.out]; rfl, by rw [HSn.out]; rfl, HUN, _, rfl⟩
                    case measure => simp [intOf]; omega
            · obtain rfl : k = N := by omega
              have HE : Hid (M.cmpE R num den l = M.cmpAt R num den l k) := by
                show _ = _
                rw [M.cmpE_end HOk.out (by rw [HL.out]; exact HU.out), HL.out]
              obtain ⟨sk, hsk⟩ : ∃ s, s = M.cmpSome l k := ⟨_, rfl⟩
              have HSk := Lib.hid hsk
              rw [← hsk]
              clear hsk
              cases sk with
              | true =>
                have HF : Hid (M.cmpE R num den l = M.loV (M.cmpLo R num den l k)) := by show _ = _; rw [HE.out]; unfold M.cmpAt; rw [← HSk.out, if_pos rfl]
                generalize M.loV (M.cmpLo R num den l k) = lo at *
                go_wp2
                go_ret
                exact ⟨by rw [HF.out]; rfl, HX.out.trans HBq.out⟩
              | false =>
                have HF : Hid (M.cmpE R num den l = 1) := by show _ = _; rw [HE.out]; unfold M.cmpAt; rw [← HSk.out]; rfl
                generalize M.loV (M.cmpLo R num den l k) = lo at *
                go_wp2
                go_ret
                exact ⟨by rw [HF.out]; rfl, HX.out.trans HBq.out⟩
        · have HE : Hid (M.cmpE R num den l = 1) := M.cmpE_no (by unfold M.cmpOk; rw [decide_eq_false (fun k => hN (by rw [← HL.out, k, hRl]))]; simp)
          have hne : ((N : Int) != (n : Int)) = true := by simp; omega
          have hne2 : ((N : Int) == (n : Int)) = false := by simp; omega
          have hne3 : (N == n) = false := by simpa using hN
          clear h h' hs hr hv hRl
          go_enter Tryz.func131, Tryz.ntmps131
          go_wp2_with fail
          simp only [← hwd] at *
          clear hwd
          refine (sSquare_b _ _ _ R _ true HS.out HA.out).mono ?_
          rintro e w' ⟨rfl, q, rfl⟩
          obtain ⟨p0, p1⟩ := HCe.out _ (b_draws w q)
          have HI0 : Hid (Ints .i64 (w.drewN q) a' N l) := HI.out.below (b_draws w q)
          go_wp2_with fail
          refine (sIsRatio_b _ _ true HR.out _).mono ?_
          rintro e w1 ⟨rfl, hb1⟩
          have HB1 : Hid (Below w.heap.size w w1) := (b_draws w q).trans hb1
          have HI1 : Hid (Ints .i64 w1 a' N l) := HI0.out.below hb1
          obtain ⟨p2, p3⟩ := HCe.out _ HB1.out
          clear hb1
          go_wp2_with fail
          refine (sVector_b _ _ _ l _ true HV.out HI1.out).mono ?_
          rintro e w' ⟨rfl, rfl⟩
          go_wp2
          go_ret
          exact ⟨by rw [HE.out]; rfl, HX.out.trans HB1.out⟩
end V
end Go.Proofs.YtihpbgjiohnekabGreat

namespace Go.Proofs.YtihpbgjiohnekabGreat
namespace M
def strRes (R : List (List Int)) (k : Int) : List (List Int) × Int := if sqB R then (if 1 ≤ k ∧ k ≤ 1000000 then (if isMat (shM R 0 k) then (shM R 0 k, 0) else ([], 3)) else ([], 2)) else ([], 1)
theorem strRes_ok (R : List (List Int)) (k : Int) : okM (strRes R k).1 := by
  unfold strRes
  split
  · split
    · split
      · next h => exact .inr h
      · exact .inl rfl
    · exact .inl rfl
  · exact .inl rfl
end M
namespace V
open Go.RowKit
set_option maxRecDepth 100000 in
set_option maxHeartbeats 400000 in
theorem sIsEigenVector (a : Option Addr) (n cap : Nat) (R : List (List Int)) (num den : Int) (a' : Option Addr) (N cap' : Nat) (l : List Int) (w : World) (h : Mat w a n R) (h' : Ints .i64 w a' N l) :
    Calls Tryz.prog 58 #[.slice a n cap, .agg #[.int .i64 num, .int .i64 den], .slice a' N cap'] w fun e w' => e = .returned (.bool (M.eigB R num den l)) ∧ Below w.heap.size w w' := by
  obtain ⟨wb, hwb⟩ : ∃ x, x = w.alloc (rbox num den) := ⟨_, rfl⟩
  have HX : Hid (Boxed w wb num den) := by show Boxed _ _ _ _; rw [hwb]; exact boxed _ _ _
  have HA := Lib.hid (h.below HX.out.below)
  have HI := Lib.hid (h'.below HX.out.below)
  obtain ⟨c0, c1⟩ := HX.out.cells (Below.refl _ _)
  have hz := HX.out.size
  obtain ⟨k, hk⟩ : ∃ k, k = M.cmpE R num den l := ⟨_, rfl⟩
  have HK := Lib.hid hk
  have HE : Hid (M.eigB R num den l = (k == 0)) := by show _ = _; rw [M.eig_cmp, hk]; rfl
  clear h h' hk
  go_enter Tryz.func58, Tryz.ntmps58
  go_wp2_with fail
  simp only [← hwb] at *
  clear hwb
  refine (sCompareE _ _ _ R num den _ _ _ l _ HA.out HI.out).mono ?_
  rintro e w1 ⟨rfl, hb⟩
  rw [← HK.out]
  have HB := Lib.hid (HX.out.trans hb)
  clear hb
  go_wp2
  go_ret
  exact ⟨retB HE.out.symm, HB.out⟩
set_option maxRecDepth 100000 in
set_option maxHeartbeats 400000 in
theorem sIsSubEigen (a : Option Addr) (n cap : Nat) (R : List (List Int)) (num den : Int) (a' : Option Addr) (N cap' : Nat) (l : List Int) (w : World) (h : Mat w a n R) (h' : Ints .i64 w a' N l) :
    Calls Tryz.prog 60 #[.slice a n cap, .agg #[.int .i64 num, .int .i64 den], .slice a' N cap'] w fun e w' => e = .returned (.bool (M.subB R num den l)) ∧ Below w.heap.size w w' := by
  obtain ⟨wb, hwb⟩ : ∃ x, x = w.alloc (rbox num den) := ⟨_, rfl⟩
  have HX : Hid (Boxed w wb num den) := by show Boxed _ _ _ _; rw [hwb]; exact boxed _ _ _
  have HA := Lib.hid (h.below HX.out.below)
  have HI := Lib.hid (h'.below HX.out.below)
  obtain ⟨c0, c1⟩ := HX.out.cells (Below.refl _ _)
  have hz := HX.out.size
  obtain ⟨k, hk⟩ : ∃ k, k = M.cmpE R num den l := ⟨_, rfl⟩
  have HK := Lib.hid hk
  have HE : Hid (M.subB R num den l = decide (k ≤ 0)) := by show _ = _; rw [M.sub_cmp, hk]
  clear h h' hk
  go_enter Tryz.func60, Tryz.ntmps60
  go_wp2_with fail
  simp only [← hwb] at *
  clear hwb
  refine (sCompareE _ _ _ R num den _ _ _ l _ HA.out HI.out).mono ?_
  rintro e w1 ⟨rfl, hb⟩
  rw [← HK.out]
  have HB := Lib.hid (HX.out.trans hb)
  clear hb
  go_wp2
  go_ret
  exact ⟨retB HE.out.symm, HB.out⟩
set_option maxRecDepth 100000 in
set_option maxHeartbeats 1000000 in
theorem stretchMatrix (a : Option Addr) (n cap : Nat) (R : List (List Int)) (k : Int) (w : World) (h : Mat w a n R) :
    Calls Tryz.prog 55 #[.slice a n cap, .int .i64 k] w (MRes (M.strRes R k) w) := by
  have HA := Lib.hid h
  have HRn := Lib.hid h.1
  by_cases hs : M.sqB R = true
  · have HS := Lib.hid hs
    by_cases hk : 1 ≤ k ∧ k ≤ 1000000
    · obtain ⟨r1, n1, n2, r4⟩ := sq_parts HA.out hs
      have HQ := Lib.hid r1
      have HSm := Lib.hid r4
      obtain ⟨k1, k2⟩ := hk
      obtain ⟨b, hb⟩ : ∃ b, b = M.isMat (M.shM R 0 k) := ⟨_, rfl⟩
      have HM := Lib.hid hb.symm
      have HE : Hid (M.strRes R k = if b then (M.shM R 0 k, 0) else ([], 3)) := by
        show _ = _; rw [hb]; unfold M.strRes; rw [if_pos hs, if_pos ⟨k1, k2⟩]
      have HSh : Hid (M.mk n n (M.shf (M.ent R) 0 k) = M.shM R 0 k) := by show _ = _; unfold M.shM; rw [HRn.out]
      have HNr : Hid (M.Near 0 k) := by show M.Near 0 k; unfold M.Near; omega
      clear h hs hb r1 r4
      go_enter Tryz.func55, Tryz.ntmps55
      go_wp2_with fail
      refine (isSquare_b _ _ _ R _ true HS.out HA.out).mono ?_
      rintro e w' ⟨rfl, rfl⟩
      go_wp2_with fail
      refine (shiftedBy _ _ _ R _ _ _ HA.out HQ.out n1 n2 HSm.out HNr.out).mono ?_
      rintro e w2 ⟨a2, cap2, rfl, hO, hb⟩
      rw [HSh.out] at hO
      have HO := Lib.hid hO
      have HB2 := Lib.hid hb
      clear hO hb
      cases b with
      | true =>
        go_wp2_with fail
        refine (checkedMatrix_t _ _ _ _ _ HM.out HO.out.mat).mono ?_
        rintro e w' ⟨rfl, rfl⟩
        go_wp2
        go_ret2
        rw [HE.out]
        exact ⟨_, _, _, rfl, HO.out, HB2.out⟩
      | false =>
        go_wp2_with fail
        refine (checkedMatrix_f _ _ _ _ _ HM.out HO.out.mat).mono ?_
        rintro e w' ⟨rfl, rfl⟩
        go_wp2
        go_ret2
        exact MRes.nil HE.out HB2.out
    · have HE : Hid (M.strRes R k = ([], 2)) := by show _ = _; unfold M.strRes; rw [if_pos hs, if_neg hk]
      have hk' : k < 1 ∨ 1000000 < k := by omega
      clear h hs hk
      rcases hk' with hk | hk
      · go_enter Tryz.func55, Tryz.ntmps55
        go_wp2_with fail
        refine (isSquare_b _ _ _ R _ true HS.out HA.out).mono ?_
        rintro e w' ⟨rfl, rfl⟩
        go_wp2
        go_ret2
        exact MRes.nil HE.out (Below.refl _ _)
      · have hk1 : ¬ k < 1 := by omega
        go_enter Tryz.func55, Tryz.ntmps55
        go_wp2_with fail
        refine (isSquare_b _ _ _ R _ true HS.out HA.out).mono ?_
        rintro e w' ⟨rfl, rfl⟩
        go_wp2
        go_ret2
        exact MRes.nil HE.out (Below.refl _ _)
  · simp only [Bool.not_eq_true] at hs
    have HS := Lib.hid hs
    have HE : Hid (M.strRes R k = ([], 1)) := by show _ = _; unfold M.strRes; rw [hs]; rfl
    clear h hs
    go_enter Tryz.func55, Tryz.ntmps55
    go_wp2_with fail
    refine (isSquare_b _ _ _ R _ false HS.out HA.out).mono ?_
    rintro e w' ⟨rfl, rfl⟩
    go_wp2
    go_ret2
    exact MRes.nil HE.out (Below.refl _ _)
set_option maxRecDepth 100000 in
set_option maxHeartbeats 1000000 in
theorem sStretchMatrix (a : Option Addr) (n cap : Nat) (R : List (List Int)) (k : Int) (w : World) (h : Mat w a n R) :
    Calls Tryz.prog 56 #[.slice a n cap, .int .i64 k] w (MRes (M.strRes R k) w) := by
  have HA := Lib.hid h
  have HRn := Lib.hid h.1
  by_cases hs : M.sqB R = true
  · have HS := Lib.hid hs
    obtain ⟨c, hc⟩ : ∃ c, c = (decide (1 ≤ k) && decide (k ≤ 1000000)) := ⟨_, rfl⟩
    have HC := Lib.hid hc
    cases c with
    | true =>
      have hk : 1 ≤ k ∧ k ≤ 1000000 := by simpa using hc.symm
      obtain ⟨r1, n1, n2, r4⟩ := sq_parts HA.out hs
      have HQ := Lib.hid r1
      have HSm := Lib.hid r4
      obtain ⟨k1, k2⟩ := hk
      obtain ⟨b, hb⟩ : ∃ b, b = M.isMat (M.shM R 0 k) := ⟨_, rfl⟩
      have HM := Lib.hid hb.symm
      have HE : Hid (M.strRes R k = if b then (M.shM R 0 k, 0) else ([], 3)) := by
        show _ = _; rw [hb]; unfold M.strRes; rw [if_pos hs, if_pos ⟨k1, k2⟩]
      have HSh : Hid (M.mk n n (M.shf (M.ent R) 0 k) = M.shM R 0 k) := by show _ = _; unfold M.shM; rw [HRn.out]
      clear h hs hb r1 r4 hc
      go_enter Tryz.func56, Tryz.ntmps56
      go_wp2_with fail
      refine (sSquare_b _ _ _ R _ true HS.out HA.out).mono ?_
      rintro e w' ⟨rfl, q, rfl⟩
      go_wp2_with fail
      refine (sIn _ _ _ _).mono ?_
      rintro e w' ⟨rfl, rfl⟩
      rw [← HC.out]
      go_wp2_with fail
      refine (sStretch _ _ _ R k _ (HA.out.below (b_draws _ _)) HQ.out n1 n2 HSm.out k1 k2).mono ?_
      rintro e w2 ⟨a2, cap2, rfl, hO, hb⟩
      rw [HSh.out] at hO
      have HO := Lib.hid hO
      have HB2 := Lib.hid ((b_draws w q).trans hb)
      clear hO hb
      cases b with
      | true =>
        go_wp2_with fail
        refine (sResult _ _ _ _ true HM.out _ HO.out.mat).mono ?_
        rintro e w' ⟨rfl, q2, rfl⟩
        go_wp2
        go_ret2
        rw [HE.out]
        exact ⟨_, _, _, rfl, HO.out.below (b_draws _ _), below_drewN HB2.out _⟩
      | false =>
        go_wp2_with fail
        refine (sResult _ _ _ _ false HM.out _ HO.out.mat).mono ?_
        rintro e w' ⟨rfl, q2, rfl⟩
        go_wp2
        go_ret2
        exact MRes.nil HE.out (below_drewN HB2.out _)
    | false =>
      have HE : Hid (M.strRes R k = ([], 2)) := by
        show _ = _
        unfold M.strRes
        rw [if_pos hs, if_neg]
        intro k
        rw [decide_eq_true k.1, decide_eq_true k.2] at hc
        cases hc
      clear h hs hc
      go_enter Tryz.func56, Tryz.ntmps56
      go_wp2_with fail
      refine (sSquare_b _ _ _ R _ true HS.out HA.out).mono ?_
      rintro e w' ⟨rfl, q, rfl⟩
      go_wp2_with fail
      refine (sIn _ _ _ _).mono ?_
      rintro e w' ⟨rfl, rfl⟩
      rw [← HC.out]
      go_wp2
      go_ret2
      exact MRes.nil HE.out (b_draws _ _)
  · simp only [Bool.not_eq_true] at hs
    have HS := Lib.hid hs
    have HE : Hid (M.strRes R k = ([], 1)) := by show _ = _; unfold M.strRes; rw [hs]; rfl
    clear h hs
    go_enter Tryz.func56, Tryz.ntmps56
    go_wp2_with fail
    refine (sSquare_b _ _ _ R _ false HS.out HA.out).mono ?_
    rintro e w' ⟨rfl, q, rfl⟩
    go_wp2
    go_ret2
    exact MRes.nil HE.out (b_draws _ _)
end V
end Go.Proofs.YtihpbgjiohnekabGreat

namespace Go.Proofs.YtihpbgjiohnekabGreat
namespace M
theorem imgB_s {R : List (List Int)} {a b : Int} {x : List Int} (h : sqB R = false) : imgB R a b x = false := by unfold imgB; rw [h]; rfl
theorem imgB_r {R : List (List Int)} {a b : Int} {x : List Int} (h : isRat a b = false) : imgB R a b x = false := by unfold imgB; rw [h]; simp
theorem imgB_v {R : List (List Int)} {a b : Int} {x : List Int} (h : isVec x = false) : imgB R a b x = false := by unfold imgB; rw [h]; simp
theorem imgB_l {R : List (List Int)} {a b : Int} {x : List Int} (h : ¬ x.length = R.length) : imgB R a b x = false := by unfold imgB; rw [decide_eq_false h]; simp
def imgR (R : List (List Int)) (a b : Int) (x : List Int) : List Int := if imgB R a b x then imgL R a b x else []
theorem imgR_f {R : List (List Int)} {a b : Int} {x : List Int} (h : imgB R a b x = false) : imgR R a b x = [] := by unfold imgR; rw [h]; rfl
theorem imgR_t {R : List (List Int)} {a b : Int} {x : List Int} (h : imgB R a b x = true) : imgR R a b x = imgL R a b x := by unfold imgR; rw [h]; rfl
end M
namespace V
open Go.RowKit
theorem M.top_any {x : List Int} (hv : M.isVec x = true) : (x.any fun v => decide (v ≠ -1000000000000000)) = decide (M.topN (fun i => x.getD i 0) (x.length - 1) ≠ -1000000000000000) := by
  obtain ⟨v1, v2, v3⟩ := M.isVec_t hv
  rw [Bool.eq_iff_iff, List.any_eq_true, decide_eq_true_eq]
  constructor
  · rintro ⟨v, hm, hne⟩
    rw [decide_eq_true_eq] at hne
    obtain ⟨k, hk, rfl⟩ := List.mem_iff_getElem.1 hm
    have h1 := M.topN_ge (fun i => x.getD i 0) (x.length - 1) k (by omega)
    have h2 := M.isVal_t (v3 k hk)
    have e : x.getD k 0 = x[k] := by simp [hk]
    have h1 : x.getD k 0 ≤ _ := h1
    rw [e] at h1 h2
    omega
  · intro h
    obtain ⟨k, hk, e⟩ := M.topN_at (fun i => x.getD i 0) (x.length - 1)
    have hk' : k < x.length := by omega
    have e : _ = x.getD k 0 := e
    refine ⟨x[k], List.getElem_mem hk', ?_⟩
    rw [decide_eq_true_eq]
    rw [e] at h
    simpa [hk'] using h
set_option maxRecDepth 100000 in
set_option maxHeartbeats 400000 in
theorem isAtMost (a : Option Addr) (n cap : Nat) (y : List Int) (a' : Option Addr) (cap' : Nat) (x : List Int) (w : World) (h : Ints .i64 w a n y) (h' : Ints .i64 w a' n x) (hn : n ≤ 1000) :
    Calls Tryz.prog 85 #[.slice a n cap, .slice a' n cap'] w fun e w' => e = .returned (.bool (M.atMostB y x)) ∧ w = w' := by
  have HY := Lib.hid h
  have HXx := Lib.hid h'
  have HL := Lib.hid h.1
  clear h h'
  go_enter Tryz.func85, Tryz.ntmps85
  go_wp2
  go_loop [5, 6, 9] (fun _ _ i => ∃ k : Nat, k ≤ n ∧ i = .int .i64 k ∧ Hid (∀ i, i < k → y.getD i 0 ≤ x.getD i 0)) (fun _ _ i => n - (intOf i).toNat)
  case atStart => exact ⟨0, Nat.zero_le _, rfl, fun i hi => absurd hi (Nat.not_lt_zero i)⟩
  case round =>
    obtain ⟨k, hk, rfl, HK⟩ := hrel
    by_cases hlt : k < n
    · have hki : (k : Int) < (n : Int) := by omega
      obtain ⟨d1, d2, u, rfl, -, hu, cu⟩ := HY.out.at k hlt
      obtain ⟨d3, d4, v, rfl, -, hv, cv⟩ := HXx.out.at k hlt
      have HU := Lib.hid hu
      have HV := Lib.hid hv
      clear hu hv
      by_cases hgt : v < u
      · have HF : Hid (M.atMostB y x = false) := by
          show _ = _
          unfold M.atMostB
          cases e : (List.range y.length).all fun i => decide (y.getD i 0 ≤ x.getD i 0) with
          | false => rfl
          | true =>
            have := List.all_eq_true.1 e k (List.mem_range.2 (by rw [HL.out]; exact hlt))
            rw [decide_eq_true_eq, ← HU.out, ← HV.out] at this
            omega
        go_wp2
        go_ret
        exact ⟨retB HF.out.symm, rfl⟩
      · have HK2 : Hid (∀ i, i < k + 1 → y.getD i 0 ≤ x.getD i 0) := fun i hi => by
          by_cases e : i = k
          · subst e; rw [← HU.out, ← HV.out]; omega
          · exact HK.out i (by omega)
        have hgt2 : u ≤ v := by omega
        go_wp2
        go_round
        case rel => exact ⟨k + 1, by omega, by go_num, HK2⟩
        case measure => simp [intOf]; omega
    · obtain rfl : k = n := by omega
      have HF : Hid (M.atMostB y x = true) := by
        show _ = _
        unfold M.atMostB
        rw [List.all_eq_true]
        intro i hi
        rw [decide_eq_true_eq]
        exact HK.out i (by have := List.mem_range.1 hi; rw [HL.out] at this; exact this)
      go_wp2
      go_ret
      exact ⟨retB HF.out.symm, rfl⟩
set_option maxRecDepth 100000 in
set_option maxHeartbeats 2000000 in
theorem shiftedImage (a : Option Addr) (n cap : Nat) (R : List (List Int)) (num den : Int) (a' : Option Addr) (N cap' : Nat) (l : List Int) (w0 : World) (h : Mat w0 a n R) (h' : Ints .i64 w0 a' N l) :
    Calls Tryz.prog 83 #[.slice a n cap, .agg #[.int .i64 num, .int .i64 den], .slice a' N cap'] w0 fun e w' => ∃ b m c, e = .returned (.tuple #[.slice b m c, .bool (M.imgB R num den l)]) ∧ Own w' w0.heap.size (.slice b m c) (M.imgR R num den l) ∧ Below w0.heap.size w0 w' := by
  obtain ⟨w, hwd⟩ : ∃ w, w = w0.alloc (rbox num den) := ⟨_, rfl⟩
  have HX : Hid (Boxed w0 w num den) := by show Boxed _ _ _ _; rw [hwd]; exact boxed _ _ _
  have HA : Hid (Mat w a n R) := h.below HX.out.below
  have HI : Hid (Ints .i64 w a' N l) := h'.below HX.out.below
  have HL := Lib.hid h'.1
  have HZ := Lib.hid HX.out.size
  obtain ⟨c0, c1⟩ := HX.out.cells (Below.refl _ _)
  obtain ⟨bs, hs⟩ : ∃ b, b = M.sqB R := ⟨_, rfl⟩
  have HS := Lib.hid hs.symm
  cases bs with
  | false =>
    have HE : Hid (M.imgB R num den l = false) := M.imgB_s hs.symm
    clear h h' hs
    go_enter Tryz.func83, Tryz.ntmps83
    go_wp2_with fail
    simp only [← hwd] at *
    clear hwd
    refine (isSquare_b _ _ _ R _ false HS.out HA.out).mono ?_
    rintro e w' ⟨rfl, rfl⟩
    go_wp2
    go_ret2
    rw [HE.out]
    exact ⟨none, 0, 0, rfl, by rw [M.imgR_f HE.out]; exact own_nil _ _, HX.out.below⟩
  | true =>
    have hss := hs.symm
    obtain ⟨rR, n1, n2, hsm⟩ := sq_parts HA.out hss
    obtain ⟨br, hr⟩ : ∃ b, b = M.isRat num den := ⟨_, rfl⟩
    have HR := Lib.hid hr.symm
    have HRe := Lib.hid rR
    have HSm := Lib.hid hsm
    have hRl := HA.out.1
    have HRl := Lib.hid hRl
    cases br with
    | false =>
      have HE : Hid (M.imgB R num den l = false) := M.imgB_r hr.symm
      clear h h' hs hss rR hsm hr hRl
      go_enter Tryz.func83, Tryz.ntmps83
      go_wp2_with fail
      simp only [← hwd] at *
      clear hwd
      refine (isSquare_b _ _ _ R _ true HS.out HA.out).mono ?_
      rintro e w' ⟨rfl, rfl⟩
      go_wp2_with fail
      refine (isRatio_b _ _ false HR.out _).mono ?_
      rintro e w1 ⟨rfl, hb1⟩
      have HB1 := Lib.hid hb1
      have HI1 : Hid (Ints .i64 w1 a' N l) := HI.out.below hb1
      obtain ⟨p0, p1⟩ := HX.out.cells hb1
      clear hb1
      go_wp2
      go_ret2
      rw [HE.out]
      exact ⟨none, 0, 0, rfl, by rw [M.imgR_f HE.out]; exact own_nil _ _, HX.out.trans HB1.out⟩
    | true =>
      obtain ⟨bv, hv⟩ : ∃ b, b = M.isVec l := ⟨_, rfl⟩
      have HV := Lib.hid hv.symm
      cases bv with
      | false =>
        have HE : Hid (M.imgB R num den l = false) := M.imgB_v hv.symm
        clear h h' hs hss rR hsm hr hv hRl
        go_enter Tryz.func83, Tryz.ntmps83
        go_wp2_with fail
        simp only [← hwd] at *
        clear hwd
        refine (isSquare_b _ _ _ R _ true HS.out HA.out).mono ?_
        rintro e w' ⟨rfl, rfl⟩
        go_wp2_with fail
        refine (isRatio_b _ _ true HR.out _).mono ?_
        rintro e w1 ⟨rfl, hb1⟩
        have HB1 := Lib.hid hb1
        have HI1 : Hid (Ints .i64 w1 a' N l) := HI.out.below hb1
        obtain ⟨p0, p1⟩ := HX.out.cells hb1
        clear hb1
        go_wp2_with fail
        refine (isVector_b _ _ _ l _ false HV.out HI1.out).mono ?_
        rintro e w' ⟨rfl, rfl⟩
        go_wp2
        go_ret2
        rw [HE.out]
        exact ⟨none, 0, 0, rfl, by rw [M.imgR_f HE.out]; exact own_nil _ _, HX.out.trans HB1.out⟩
      | true =>
        by_cases hN : N = n
        · subst hN
          obtain ⟨v1, v2, v3⟩ := M.isVec_t hv.symm
          obtain ⟨t, ht⟩ : ∃ t, t = M.topN (fun i => l.getD i 0) (N - 1) := ⟨_, rfl⟩
          have HT := Lib.hid ht
          have hany : (l.any fun v => decide (v ≠ -1000000000000000)) = decide (t ≠ -1000000000000000) := by rw [M.top_any hv.symm, HL.out, ht]
          by_cases ht0 : t = -1000000000000000
          · have HE : Hid (M.imgB R num den l = false) := by show _ = _; rw [M.imgB_cmp, hany, ht0]; simp
            clear h h' hs hss rR hsm hr hv hRl ht hany v1 v2 v3
            subst ht0
            go_enter Tryz.func83, Tryz.ntmps83
            go_wp2_with fail
            simp only [← hwd] at *
            clear hwd
            refine (isSquare_b _ _ _ R _ true HS.out HA.out).mono ?_
            rintro e w' ⟨rfl, rfl⟩
            go_wp2_with fail
            refine (isRatio_b _ _ true HR.out _).mono ?_
            rintro e w1 ⟨rfl, hb1⟩
            have HB1 := Lib.hid hb1
            have HI1 : Hid (Ints .i64 w1 a' N l) := HI.out.below hb1
            obtain ⟨p0, p1⟩ := HX.out.cells hb1
            clear hb1
            go_wp2_with fail
            refine (isVector_b _ _ _ l _ true HV.out HI1.out).mono ?_
            rintro e w' ⟨rfl, rfl⟩
            go_wp2_with fail
            refine (slicesMax _ _ _ _ _ HI1.out n1).mono ?_
            rintro e w' ⟨rfl, rfl⟩
            rw [← HT.out]
            go_wp2
            go_ret2
            rw [HE.out]
            exact ⟨none, 0, 0, rfl, by rw [M.imgR_f HE.out]; exact own_nil _ _, HX.out.trans HB1.out⟩
          · have hE : M.imgB R num den l = true := by
              rw [M.imgB_cmp, hany, decide_eq_true ht0, Bool.and_true]
              unfold M.cmpOk
              rw [← hs, ← hr, ← hv, HL.out, hRl]
              simp
            have HE := Lib.hid hE
            have htb : (t == -1000000000000000) = false := by simpa using ht0
            have HSh : Hid (∀ i j, i < N → j < N → M.Sm 1000001000000 (M.shf (M.ent R) num den i j)) := fun i j hi hj => M.shf_sm (M.near_rat hr.symm) (hsm i j hi hj)
            have HB : Hid (∀ k, k < N → M.Big (l.getD k 0)) := fun k hk => M.big_val (v3 k (by rw [HL.out]; exact hk))
            have HM : Hid (∀ i k, i < N → k < N → M.Big (M.ent (M.mk N N (M.shf (M.ent R) num den)) i k)) := fun i k hi hk => by
              rw [M.ent_mk _ _ _ _ _ hi hk]; exact M.big_sm (HSh.out i k hi hk) (by omega)
            have HY : Hid (M.applyM (M.mk N N (M.shf (M.ent R) num den)) l = M.imgL R num den l) := by show _ = _; unfold M.imgL M.shM; rw [hRl]
            clear h h' hs hss rR hsm hr hv hRl ht hany v1 v2 v3 hE ht0
            go_enter Tryz.func83, Tryz.ntmps83
            go_wp2_with fail
            simp only [← hwd] at *
            clear hwd
            refine (isSquare_b _ _ _ R _ true HS.out HA.out).mono ?_
            rintro e w' ⟨rfl, rfl⟩
            go_wp2_with fail
            refine (isRatio_b _ _ true HR.out _).mono ?_
            rintro e w1 ⟨rfl, hb1⟩
            have HB1 := Lib.hid hb1
            have HI1 : Hid (Ints .i64 w1 a' N l) := HI.out.below hb1
            obtain ⟨p0, p1⟩ := HX.out.cells hb1
            clear hb1
            go_wp2_with fail
            refine (isVector_b _ _ _ l _ true HV.out HI1.out).mono ?_
            rintro e w' ⟨rfl, rfl⟩
            go_wp2_with fail
            refine (slicesMax _ _ _ _ _ HI1.out n1).mono ?_
            rintro e w' ⟨rfl, rfl⟩
            rw [← HT.out]
            go_wp2_with fail
            refine (shiftedBy _ _ _ R _ _ _ (HA.out.below HB1.out) HRe.out n1 n2 HSm.out (M.near_rat HR.out)).mono ?_
            rintro e w2 ⟨a2, cap2, rfl, hO, hb⟩
            have HO := Lib.hid hO
            have HB2 := Lib.hid (HB1.out.trans (hb.mono HB1.out.size))
            have HI2 : Hid (Ints .i64 w2 a' N l) := HI1.out.below hb
            clear hO hb
            go_wp2_with fail
            refine (timesColumn _ _ _ _ _ _ _ l _ HO.out.mat HI2.out (rect_mk _ _ _) HM.out HB.out n1 n2 n1 n2).mono ?_
            rintro e w3 ⟨b3, c3, rfl, hx, hb⟩
            rw [HY.out] at hx
            have HB3 := Lib.hid (HX.out.trans (HB2.out.trans (hb.mono HB2.out.size)))
            have HXx := Lib.hid (hx.mono (Nat.le_trans HX.out.below.size HB2.out.size))
            clear hx hb
            go_wp2
            go_ret2
            rw [HE.out]
            exact ⟨b3, N, c3, rfl, by rw [M.imgR_t HE.out]; exact HXx.out, HB3.out⟩
        · have HE : Hid (M.imgB R num den l = false) := M.imgB_l (fun k => hN (by rw [← HL.out, k, hRl]))
          have hne : ((N : Int) != (n : Int)) = true := by simp; omega
          have hne2 : ((N : Int) == (n : Int)) = false := by simp; omega
          have hne3 : (N == n) = false := by simpa using hN
          clear h h' hs hss rR hsm hr hv hRl
          go_enter Tryz.func83, Tryz.ntmps83
          go_wp2_with fail
          simp only [← hwd] at *
          clear hwd
          refine (isSquare_b _ _ _ R _ true HS.out HA.out).mono ?_
          rintro e w' ⟨rfl, rfl⟩
          go_wp2_with fail
          refine (isRatio_b _ _ true HR.out _).mono ?_
          rintro e w1 ⟨rfl, hb1⟩
          have HB1 := Lib.hid hb1
          have HI1 : Hid (Ints .i64 w1 a' N l) := HI.out.below hb1
          obtain ⟨p0, p1⟩ := HX.out.cells hb1
          clear hb1
          go_wp2_with fail
          refine (isVector_b _ _ _ l _ true HV.out HI1.out).mono ?_
          rintro e w' ⟨rfl, rfl⟩
          go_wp2
          go_ret2
          rw [HE.out]
          exact ⟨none, 0, 0, rfl, by rw [M.imgR_f HE.out]; exact own_nil _ _, HX.out.trans HB1.out⟩
end V
end Go.Proofs.YtihpbgjiohnekabGreat

namespace Go.Proofs.YtihpbgjiohnekabGreat
namespace V
open Go.RowKit
theorem M.ext_at {l l' : List Int} {n : Nat} (h1 : l.length = n) (h2 : l'.length = n) (h : ∀ i, i < n → l.getD i 0 = l'.getD i 0) : l = l' := by
  apply List.ext_getElem (by omega)
  intro k k1 k2
  have := h k (by omega)
  simpa [k1, k2] using this
set_option maxRecDepth 100000 in
set_option maxHeartbeats 400000 in
theorem slicesEqual (a : Option Addr) (n cap : Nat) (y : List Int) (a' : Option Addr) (cap' : Nat) (x : List Int) (w : World) (h : Ints .i64 w a n y) (h' : Ints .i64 w a' n x) (hn : n ≤ 1000) :
    Calls Tryz.prog 130 #[.slice a n cap, .slice a' n cap'] w fun e w' => e = .returned (.bool (decide (y = x))) ∧ ∃ q, w' = w.drewN q := by
  have HY := Lib.hid h
  have HXx := Lib.hid h'
  have HL := Lib.hid h.1
  have HL' := Lib.hid h'.1
  clear h h'
  go_enter Tryz.func130, Tryz.ntmps130
  go_wp2
  go_loopw [5, 13] (fun _ i wr => ∃ k : Nat, k ≤ n ∧ i = .int .i64 k ∧ Hid (∀ i, i < k → y.getD i 0 = x.getD i 0) ∧ ∃ q, wr = w.drewN q) (fun _ i _ => n - (intOf i).toNat)
  case atStart => exact ⟨0, Nat.zero_le _, rfl, fun i hi => absurd hi (Nat.not_lt_zero i), 0, rfl⟩
  case round =>
    obtain ⟨k, hk, rfl, HK, q, rfl⟩ := hrel
    by_cases hlt : k < n
    · have hki : (k : Int) < (n : Int) := by omega
      obtain ⟨d1, d2, u, rfl, -, hu, cu⟩ := HY.out.at k hlt
      obtain ⟨d3, d4, v, rfl, -, hv, cv⟩ := HXx.out.at k hlt
      have HU := Lib.hid hu
      have HV := Lib.hid hv
      clear hu hv
      by_cases hgt : u = v
      · have HK2 : Hid (∀ i, i < k + 1 → y.getD i 0 = x.getD i 0) := fun i hi => by
          by_cases e : i = k
          · subst e; rw [← HU.out, ← HV.out]; exact hgt
          · exact HK.out i (by omega)
        have hb : (u != v) = false := by simp [hgt]
        clear hgt
        go_wp2
        go_quiet (fail)
        go_wp2
        go_roundw
        case rel => exact ⟨k + 1, by omega, by go_num, HK2, _, rfl⟩
        case measure => simp [intOf]; omega
      · have HF : Hid (decide (y = x) = false) := decide_eq_false fun e => hgt (by rw [HU.out, HV.out, e])
        have hb : (u != v) = true := by simpa using hgt
        go_wp2
        go_quiet (fail)
        go_wp2
        go_ret
        exact ⟨retB HF.out.symm, _, World.drewN_drewN _ _ _⟩
    · obtain rfl : k = n := by omega
      have HF : Hid (decide (y = x) = true) := decide_eq_true (M.ext_at HL.out HL'.out HK.out)
      go_wp2
      go_ret
      exact ⟨retB HF.out.symm, _, rfl⟩
set_option maxRecDepth 100000 in
set_option maxHeartbeats 1000000 in
theorem isEigenVector (a : Option Addr) (n cap : Nat) (R : List (List Int)) (num den : Int) (a' : Option Addr) (N cap' : Nat) (l : List Int) (w0 : World) (h : Mat w0 a n R) (h' : Ints .i64 w0 a' N l) :
    Calls Tryz.prog 57 #[.slice a n cap, .agg #[.int .i64 num, .int .i64 den], .slice a' N cap'] w0 fun e w' => e = .returned (.bool (M.eigB R num den l)) ∧ Below w0.heap.size w0 w' := by
  obtain ⟨w, hwd⟩ : ∃ w, w = w0.alloc (rbox num den) := ⟨_, rfl⟩
  have HX : Hid (Boxed w0 w num den) := by show Boxed _ _ _ _; rw [hwd]; exact boxed _ _ _
  have HA : Hid (Mat w a n R) := h.below HX.out.below
  have HI : Hid (Ints .i64 w a' N l) := h'.below HX.out.below
  have HL := Lib.hid h'.1
  have HRn := Lib.hid h.1
  have HZ := Lib.hid HX.out.size
  obtain ⟨c0, c1⟩ := HX.out.cells (Below.refl _ _)
  obtain ⟨b, hb⟩ : ∃ b, b = M.imgB R num den l := ⟨_, rfl⟩
  have HB := Lib.hid hb.symm
  cases b with
  | false =>
    have HE : Hid (M.eigB R num den l = false) := by show _ = _; unfold M.eigB; rw [← hb]; rfl
    clear h h' hb
    go_enter Tryz.func57, Tryz.ntmps57
    go_wp2_with fail
    simp only [← hwd] at *
    clear hwd
    refine (shiftedImage _ _ _ R _ _ _ _ _ l _ HA.out HI.out).mono ?_
    rintro e w1 ⟨b1, m, c, rfl, ho, hb⟩
    rw [HB.out]
    have HB1 := Lib.hid (HX.out.trans hb)
    clear ho hb
    go_wp2
    go_ret
    exact ⟨retB HE.out.symm, HB1.out⟩
  | true =>
    obtain ⟨y, hy⟩ : ∃ y, y = M.imgL R num den l := ⟨_, rfl⟩
    have HE : Hid (M.eigB R num den l = decide (y = l)) := by show _ = _; unfold M.eigB; rw [← hb, hy]; rfl
    have HY : Hid (M.imgR R num den l = y) := by show _ = _; rw [M.imgR_t hb.symm, hy]
    have hyl : y.length = N := by rw [hy, M.imgL_len, h.1, ← (M.cmpOk_t (by rw [M.imgB_cmp, eq_comm, Bool.and_eq_true] at hb; exact hb.1)).2.2.2.trans h.1, h'.1]
    have hN10 : N ≤ 1000 := by
      have := M.cmpOk_t (R := R) (a := num) (b := den) (x := l) (by rw [M.imgB_cmp, eq_comm, Bool.and_eq_true] at hb; exact hb.1)
      have h2 := (M.isVec_t this.2.2.1).2.1
      rw [h'.1] at h2; omega
    have HYl := Lib.hid hyl
    clear h h' hb hy hyl
    go_enter Tryz.func57, Tryz.ntmps57
    go_wp2_with fail
    simp only [← hwd] at *
    clear hwd
    refine (shiftedImage _ _ _ R _ _ _ _ _ l _ HA.out HI.out).mono ?_
    rintro e w1 ⟨b1, m, c, rfl, ho, hb⟩
    rw [HB.out]
    rw [HY.out] at ho
    obtain rfl : m = N := by rw [ho.len, HYl.out]
    have HO := Lib.hid ho.ints'
    have HB1 := Lib.hid (HX.out.trans hb)
    have HI1 := Lib.hid (HI.out.below hb)
    clear ho hb
    go_wp2_with fail
    refine (slicesEqual _ _ _ y _ _ l _ HO.out HI1.out hN10).mono ?_
    rintro e w' ⟨rfl, q, rfl⟩
    go_wp2
    go_ret
    exact ⟨retB HE.out.symm, below_drewN HB1.out _⟩
set_option maxRecDepth 100000 in
set_option maxHeartbeats 1000000 in
theorem isSubEigen (a : Option Addr) (n cap : Nat) (R : List (List Int)) (num den : Int) (a' : Option Addr) (N cap' : Nat) (l : List Int) (w0 : World) (h : Mat w0 a n R) (h' : Ints .i64 w0 a' N l) :
    Calls Tryz.prog 59 #[.slice a n cap, .agg #[.int .i64 num, .int .i64 den], .slice a' N cap'] w0 fun e w' => e = .returned (.bool (M.subB R num den l)) ∧ Below w0.heap.size w0 w' := by
  obtain ⟨w, hwd⟩ : ∃ w, w = w0.alloc (rbox num den) := ⟨_, rfl⟩
  have HX : Hid (Boxed w0 w num den) := by show Boxed _ _ _ _; rw [hwd]; exact boxed _ _ _
  have HA : Hid (Mat w a n R) := h.below HX.out.below
  have HI : Hid (Ints .i64 w a' N l) := h'.below HX.out.below
  have HL := Lib.hid h'.1
  have HRn := Lib.hid h.1
  have HZ := Lib.hid HX.out.size
  obtain ⟨c0, c1⟩ := HX.out.cells (Below.refl _ _)
  obtain ⟨b, hb⟩ : ∃ b, b = M.imgB R num den l := ⟨_, rfl⟩
  have HB := Lib.hid hb.symm
  cases b with
  | false =>
    have HE : Hid (M.subB R num den l = false) := by show _ = _; unfold M.subB; rw [← hb]; rfl
    clear h h' hb
    go_enter Tryz.func59, Tryz.ntmps59
    go_wp2_with fail
    simp only [← hwd] at *
    clear hwd
    refine (shiftedImage _ _ _ R _ _ _ _ _ l _ HA.out HI.out).mono ?_
    rintro e w1 ⟨b1, m, c, rfl, ho, hb⟩
    rw [HB.out]
    have HB1 := Lib.hid (HX.out.trans hb)
    clear ho hb
    go_wp2
    go_ret
    exact ⟨retB HE.out.symm, HB1.out⟩
  | true =>
    obtain ⟨y, hy⟩ : ∃ y, y = M.imgL R num den l := ⟨_, rfl⟩
    have HE : Hid (M.subB R num den l = M.atMostB y l) := by show _ = _; unfold M.subB; rw [← hb, hy]; rfl
    have HY : Hid (M.imgR R num den l = y) := by show _ = _; rw [M.imgR_t hb.symm, hy]
    have hyl : y.length = N := by rw [hy, M.imgL_len, h.1, ← (M.cmpOk_t (by rw [M.imgB_cmp, eq_comm, Bool.and_eq_true] at hb; exact hb.1)).2.2.2.trans h.1, h'.1]
    have hN10 : N ≤ 1000 := by
      have := M.cmpOk_t (R := R) (a := num) (b := den) (x := l) (by rw [M.imgB_cmp, eq_comm, Bool.and_eq_true] at hb; exact hb.1)
      have h2 := (M.isVec_t this.2.2.1).2.1
      rw [h'.1] at h2; omega
    have HYl := Lib.hid hyl
    clear h h' hb hy hyl
    go_enter Tryz.func59, Tryz.ntmps59
    go_wp2_with fail
    simp only [← hwd] at *
    clear hwd
    refine (shiftedImage _ _ _ R _ _ _ _ _ l _ HA.out HI.out).mono ?_
    rintro e w1 ⟨b1, m, c, rfl, ho, hb⟩
    rw [HB.out]
    rw [HY.out] at ho
    obtain rfl : m = N := by rw [ho.len, HYl.out]
    have HO := Lib.hid ho.ints'
    have HB1 := Lib.hid (HX.out.trans hb)
    have HI1 := Lib.hid (HI.out.below hb)
    clear ho hb
    go_wp2_with fail
    refine (isAtMost _ _ _ y _ _ l _ HO.out HI1.out hN10).mono ?_
    rintro e w' ⟨rfl, rfl⟩
    go_wp2
    go_ret
    exact ⟨retB HE.out.symm, HB1.out⟩
set_option maxRecDepth 100000 in
set_option maxHeartbeats 1000000 in
theorem isPotential (a : Option Addr) (n cap : Nat) (R : List (List Int)) (num den : Int) (a' : Option Addr) (N cap' : Nat) (l : List Int) (w0 : World) (h : Mat w0 a n R) (h' : Ints .i64 w0 a' N l) :
    Calls Tryz.prog 19 #[.slice a n cap, .agg #[.int .i64 num, .int .i64 den], .slice a' N cap'] w0 fun e w' => e = .returned (.bool (M.isPotB R num den l)) ∧ Below w0.heap.size w0 w' := by
  obtain ⟨w, hwd⟩ : ∃ w, w = w0.alloc (rbox num den) := ⟨_, rfl⟩
  have HX : Hid (Boxed w0 w num den) := by show Boxed _ _ _ _; rw [hwd]; exact boxed _ _ _
  have HA : Hid (Mat w a n R) := h.below HX.out.below
  have HI : Hid (Ints .i64 w a' N l) := h'.below HX.out.below
  have HL := Lib.hid h'.1
  have HRn := Lib.hid h.1
  have HZ := Lib.hid HX.out.size
  obtain ⟨c0, c1⟩ := HX.out.cells (Below.refl _ _)
  obtain ⟨b, hb⟩ : ∃ b, b = M.imgB R num den l := ⟨_, rfl⟩
  have HB := Lib.hid hb.symm
  cases b with
  | false =>
    have HE : Hid (M.isPotB R num den l = false) := by show _ = _; rw [M.pot_img, ← hb]; rfl
    clear h h' hb
    go_enter Tryz.func19, Tryz.ntmps19
    go_wp2_with fail
    simp only [← hwd] at *
    clear hwd
    refine (shiftedImage _ _ _ R _ _ _ _ _ l _ HA.out HI.out).mono ?_
    rintro e w1 ⟨b1, m, c, rfl, ho, hb⟩
    rw [HB.out]
    have HB1 := Lib.hid (HX.out.trans hb)
    clear ho hb
    go_wp2
    go_ret
    exact ⟨retB HE.out.symm, HB1.out⟩
  | true =>
    obtain ⟨y, hy⟩ : ∃ y, y = M.imgL R num den l := ⟨_, rfl⟩
    obtain ⟨d, hd⟩ : ∃ d, d = l.any fun v => decide (v = -1000000000000000) := ⟨_, rfl⟩
    have HD : Hid (d = true ↔ (-1000000000000000 : Int) ∈ l) := by
      show _ ↔ _
      rw [hd, List.any_eq_true]
      exact ⟨fun ⟨x, hx, e⟩ => by rw [decide_eq_true_eq] at e; rw [← e]; exact hx, fun h => ⟨_, h, by simp⟩⟩
    have HE : Hid (M.isPotB R num den l = (!d && M.atMostB y l)) := by show _ = _; rw [M.pot_img, ← hb, hy, hd]; rfl
    have HY : Hid (M.imgR R num den l = y) := by show _ = _; rw [M.imgR_t hb.symm, hy]
    have hyl : y.length = N := by rw [hy, M.imgL_len, h.1, ← (M.cmpOk_t (by rw [M.imgB_cmp, eq_comm, Bool.and_eq_true] at hb; exact hb.1)).2.2.2.trans h.1, h'.1]
    have hN10 : N ≤ 1000 := by
      have := M.cmpOk_t (R := R) (a := num) (b := den) (x := l) (by rw [M.imgB_cmp, eq_comm, Bool.and_eq_true] at hb; exact hb.1)
      have h2 := (M.isVec_t this.2.2.1).2.1
      rw [h'.1] at h2; omega
    have HYl := Lib.hid hyl
    clear h h' hb hy hyl hd
    cases d with
    | true =>
      have HDm : Hid ((-1000000000000000 : Int) ∈ l) := HD.out.1 rfl
      clear HD
      go_enter Tryz.func19, Tryz.ntmps19
      go_wp2_with fail
      simp only [← hwd] at *
      clear hwd
      refine (shiftedImage _ _ _ R _ _ _ _ _ l _ HA.out HI.out).mono ?_
      rintro e w1 ⟨b1, m, c, rfl, ho, hb⟩
      rw [HB.out]
      have HB1 := Lib.hid (HX.out.trans hb)
      have HI1 := Lib.hid (HI.out.below hb)
      clear ho hb
      go_wp2_with fail
      refine (containsI _ _ _ l _ true _ HI1.out ⟨fun _ => HDm.out, fun _ => rfl⟩).mono ?_
      rintro e w' ⟨rfl, rfl⟩
      go_wp2
      go_ret
      exact ⟨retB HE.out.symm, HB1.out⟩
    | false =>
      have HDn : Hid (¬ (-1000000000000000 : Int) ∈ l) := fun k => by have := HD.out.2 k; cases this
      clear HD
      go_enter Tryz.func19, Tryz.ntmps19
      go_wp2_with fail
      simp only [← hwd] at *
      clear hwd
      refine (shiftedImage _ _ _ R _ _ _ _ _ l _ HA.out HI.out).mono ?_
      rintro e w1 ⟨b1, m, c, rfl, ho, hb⟩
      rw [HB.out]
      rw [HY.out] at ho
      obtain rfl : m = N := by rw [ho.len, HYl.out]
      have HO := Lib.hid ho.ints'
      have HB1 := Lib.hid (HX.out.trans hb)
      have HI1 := Lib.hid (HI.out.below hb)
      clear ho hb
      go_wp2_with fail
      refine (containsI _ _ _ l _ false _ HI1.out ⟨fun k => absurd k Bool.false_ne_true, fun k => absurd k HDn.out⟩).mono ?_
      rintro e w' ⟨rfl, rfl⟩
      go_wp2_with fail
      refine (isAtMost _ _ _ y _ _ l _ HO.out HI1.out hN10).mono ?_
      rintro e w' ⟨rfl, rfl⟩
      go_wp2
      go_ret
      exact ⟨retB HE.out.symm, HB1.out⟩
end V
end Go.Proofs.YtihpbgjiohnekabGreat
