/- Texts laid together: Sst, Ist. -/
import Derived.Test.YtjljplolonpldaaQa14
import Derived.Test.YtjljplolonpldaaQa16
import Derived.Test.YtjljplolonpldaaQa15
import Derived.Test.YtjljplolonpldaaQa6
import Derived.Test.YtjljplolonpldaaQa9
import Derived.StillTailTactics
set_option linter.unusedSimpArgs false
set_option linter.unusedVariables false
set_option linter.unusedSectionVars false
namespace Go.Proofs.Ytjljplolonpldaa
namespace M
theorem stRes_of {R : List (List Int)} {x : List Int} (h : orbCode R x = 0) : stRes R x = if (fnd R (colF R.length x)).2.2.2 = 0 then (if isVec (nrm (orb R x (fnd R (colF R.length x)).1.toNat)) then (nrm (orb R x (fnd R (colF R.length x)).1.toNat), 0) else ([], 3)) else ([], (fnd R (colF R.length x)).2.2.2) := by
  unfold stRes
  rw [if_pos h]
  rfl
theorem take_max {X : List Int} {q : Nat} (h : q < X.length) : maxL (X.take (q + 1)) = max (maxL (X.take q)) (X.getD q 0) := by rw [take_snoc X q h, maxL_snoc]
end M
namespace V
set_option maxRecDepth 100000
open Go.RowKit
set_option maxRecDepth 100000 in
set_option maxHeartbeats 4000000 in
theorem sSteadyState (a : Option Addr) (n cap : Nat) (R : List (List Int)) (a' : Option Addr) (N cap' : Nat) (l : List Int) (w : World) (h : Mat w a n R) (h' : Ints .i64 w a' N l) :
    Calls Try.prog 20 #[.slice a n cap, .slice a' N cap'] w (VRes (M.stRes R l) w) := by
  have HA := Lib.hid h
  have HI := Lib.hid h'
  obtain ⟨k0, hk0⟩ : ∃ k, k = M.orbCode R l := ⟨_, rfl⟩
  have HK := Lib.hid hk0.symm
  by_cases hk : k0 = 0
  · subst hk
    obtain ⟨hs, hx, hl⟩ := M.orbCode_t hk0.symm
    obtain ⟨hr, n1, n2, hsm⟩ := sq_parts7 h hs
    have hRn : R.length = n := h.1
    have hNn : N = n := by rw [← h'.1, hl]; exact hRn
    subst hNn
    have HE := Lib.hid (M.stRes_of hk0.symm)
    have HSB : Hid (∀ w' : World, Below w.heap.size w w' → SerB w' a N 1 R (M.colF N l)) := fun w' hb => serB_col (HA.out.below hb) hs
    have HFr : Hid (Rect (M.colF N l) N 1) := rect_mk _ _ _
    have H0 : Hid (M.okTo R (M.colF N l) 0) := Lib.hid (okTo_col hRn hx hl n1 n2)
    have HL := Lib.hid (show l.length = R.length from hl)
    have HRn := Lib.hid hRn
    clear h h' hk0 hs hx hl hr hsm hRn
    go_enter Try.func20, Try.ntmps20
    go_wp2_with (go_at_call 86; refine (sCode7 _ _ _ R _ _ _ l _ HA.out HI.out).mono ?_; rintro e w1 ⟨rfl, hb⟩; have HB1 := Lib.hid hb; clear hb; rw [HK.out])
    refine (sColumn7 _ _ _ l _ (HI.out.below HB1.out) n1 n2).mono ?_
    rintro e w2 ⟨b2, c2, rfl, ho, hb⟩
    have HO2 := Lib.hid ho
    have HB2 := Lib.hid hb
    clear ho hb
    go_wp2_with fail
    refine (sStart7 w1 a N cap 1 R (M.colF N l) b2 c2 _ HB2.out HO2.out HFr.out n2 (Nat.le_refl _) (by omega)).mono ?_
    rintro e w3 ⟨p, rfl, hs⟩
    have HS3 := Lib.hid hs
    clear hs
    go_wp2_with fail
    refine (sFind w1 a N cap 1 R (M.colF N l) p _ (HSB.out _ HB1.out) HS3.out H0.out).mono ?_
    rintro e w4 ⟨s, c, g, d, hf, rfl, hb, hser⟩
    have HB4 := Lib.hid (HB1.out.trans (hb.mono HB1.out.size))
    have HE4 : Hid (M.stRes R l = if d = 0 then (if M.isVec (M.nrm (M.orb R l s.toNat)) then (M.nrm (M.orb R l s.toNat), 0) else ([], 3)) else ([], d)) := by
      show _ = _
      rw [HE.out, HRn.out, hf]
    by_cases hd : d = 0
    · subst hd
      obtain ⟨kn, cn, k, rfl, rfl, c1, hk, hk2, hok, hsr⟩ := hser rfl
      have hokn : M.okQ R (M.colF N l) kn = true := hok kn (by omega)
      have hvec : M.isVec (M.orb R l kn) = true := by
        rw [← HRn.out, M.ok_col HL.out (by have := HRn.out; omega) (by have := HRn.out; omega)] at hokn
        exact hokn
      have hfl : (M.sq7 R (M.colF N l) kn).flatten = M.orb R l kn := by rw [← HRn.out]; exact M.orb_flat HL.out kn
      have hlen : (M.orb R l kn).length = N := (M.orb_len HL.out kn).trans HRn.out
      obtain ⟨hb0, hp, b5, c5, b6, c6, hrow, -, ho2⟩ := id hsr
      obtain ⟨g6, q6, rc6, rfl, hcr, hro6, -, -⟩ := ho2.rowg kn (by omega) (by rw [M.sqL_get (show kn < k + 1 by omega), hfl, hlen]; omega)
      rw [M.sqL_get (show kn < k + 1 by omega), hfl, hlen] at hcr hro6
      have s2 : w4.cell? ⟨p, 2, none⟩ = some (.slice (some ⟨g6, 0, none⟩) (k + 1) c6) := World.rowIs.cell hrow (i := 2) (by omega)
      have HE5 : Hid (M.stRes R l = if M.isVec (M.nrm (M.orb R l kn)) then (M.nrm (M.orb R l kn), 0) else ([], 3)) := by
        show _ = _
        rw [HE4.out, if_pos rfl, Int.toNat_natCast]
      have hkk : (kn : Int) < (k : Int) + 1 := by omega
      have HRo := Lib.hid hro6
      have HVc := Lib.hid hvec
      have HB5 := Lib.hid hb0
      clear hser hf hb hok hsr hb0 hrow ho2 hro6 hokn hvec hfl
      generalize M.orb R l kn = X at *
      have HXl := Lib.hid hlen
      clear hlen
      have hvs : M.Vals X := fun i hi => (M.isVec_t HVc.out).2.2 i hi
      have hmx := M.isVal_t (M.maxL_vals hvs)
      go_wp2
      go_loop [12, 13] (fun m i => ∃ q : Nat, q ≤ N ∧ i = .int .i64 q ∧ m = .int .i64 (M.maxL (X.take q))) (fun _ i => N - (intOf i).toNat)
      case atStart => exact ⟨0, Nat.zero_le _, rfl, rfl⟩
      case round =>
        obtain ⟨q, hq, rfl, rfl⟩ := hrel
        by_cases hlt : q < N
        · have hck := HRo.out.cellAt q hlt
          have hqi : (q : Int) < (N : Int) := by omega
          have HM := Lib.hid (M.take_max (X := X) (q := q) (by have := HXl.out; omega))
          generalize X.getD q 0 = x at *
          generalize M.maxL (X.take q) = m at *
          go_wp2
          all_goals
            go_round
            case rel => exact ⟨q + 1, by omega, by go_num, by rw [HM.out]; first | rfl | (congr 1; omega)⟩
            case measure => simp [intOf]; omega
        · obtain rfl : q = N := by omega
          have HT : Hid (X.take q = X) := M.take_all X q (by have := HXl.out; omega)
          rw [HT.out]
          by_cases hB : M.maxL X = -1000000000000000
          · have HN : Hid (M.stRes R l = (X, 0)) := by
              have e := M.nrm_bot hB hvs
              show _ = _
              rw [HE5.out, e, HVc.out]
              rfl
            rw [hB]
            clear hB hmx
            go_wp2_with (go_at_call 88; refine (sOwn _ _ _ X _ HRo.out.ints' (by omega) (by omega)).mono ?_; rintro e w7 ⟨b7, c7, rfl, ho7, hb7⟩; have HO7 := Lib.hid ho7; have HB7 := Lib.hid hb7; clear ho7 hb7)
            go_ret2
            rw [HN.out]
            exact ⟨_, _, _, rfl, HO7.out.mono HB4.out.size, HB4.out.trans (HB7.out.mono HB4.out.size)⟩
          · have hwl : ∀ i, i < q → Wid (X.getD i 0) := fun i hi => wid_val (hvs i (by have := HXl.out; omega))
            have hwg : Wid (-(M.maxL X)) := ⟨by omega, by omega⟩
            obtain ⟨bv, hbv⟩ : ∃ b, b = M.isVec (M.nrm X) := ⟨_, rfl⟩
            have HBv := Lib.hid hbv.symm
            have HN : Hid (M.shvL X (-(M.maxL X)) = M.nrm X) := Lib.hid rfl
            rw [← hbv] at HE5
            generalize M.maxL X = m at *
            have hBn : (m == -1000000000000000) = false := by simpa using hB
            clear hbv
            go_wp2_with (go_at_call 89; refine (sShift7 _ _ _ X (-m) _ HRo.out.ints' (by omega) hwl hwg).mono ?_; rintro e w7 ⟨b7, c7, rfl, ho7, hb7⟩; rw [HN.out] at ho7; have HO7 := Lib.hid ho7; have HB7 := Lib.hid hb7; clear ho7 hb7)
            refine (sVector_b _ _ _ _ _ bv HBv.out HO7.out.ints').mono ?_
            rintro e w' ⟨rfl, rfl⟩
            cases bv with
            | true =>
              go_wp2
              go_ret2
              rw [HE5.out]
              exact ⟨_, _, _, rfl, HO7.out.mono HB4.out.size, HB4.out.trans (HB7.out.mono HB4.out.size)⟩
            | false =>
              go_wp2
              go_ret2
              exact VRes.nil HE5.out (HB4.out.trans (HB7.out.mono HB4.out.size))
    · have HE5 : Hid (M.stRes R l = ([], d)) := Lib.hid (HE4.out.trans (if_neg hd))
      clear hser hf hb
      go_wp2
      go_ret2
      exact VRes.nil HE5.out HB4.out
  · have HE : Hid (M.stRes R l = ([], k0)) := by show _ = _; unfold M.stRes; rw [← hk0, if_neg hk]
    clear h h' hk0
    go_enter Try.func20, Try.ntmps20
    go_wp2_with (go_at_call 86; refine (sCode7 _ _ _ R _ _ _ l _ HA.out HI.out).mono ?_; rintro e w1 ⟨rfl, hb⟩; have HB1 := Lib.hid hb; clear hb; rw [HK.out])
    go_wp2
    go_ret2
    exact VRes.nil HE.out HB1.out
end V
end Go.Proofs.Ytjljplolonpldaa

namespace Go.Proofs.Ytjljplolonpldaa
namespace V
set_option maxRecDepth 100000
open Go.RowKit
theorem els_row10 {w : World} {B k i r g c : Nat} {R F : List (List Int)} (h : w.ownsRow B 93 101 (.slice (some ⟨g, 0, none⟩) k c) k (elvs R F k)) (hi : i < k) (hr : r < 10) :
    w.rangeAt g (i * 101 + r * 10) ((List.range 10).map fun t => Value.int .i64 ((M.patC (M.sq7 R F i) (M.maxL (M.sq7 R F i).flatten)).getD (r * 10 + t) 0)) := fun j v hv => by
  have hj : j < 10 := by
    have := (List.getElem?_eq_some_iff.1 hv).1
    simpa using this
  have e : i * 101 + r * 10 + j = i * 101 + (r * 10 + j) := by omega
  have hl := M.patC_len (M.sq7 R F i) (M.maxL (M.sq7 R F i).flatten)
  rw [e, World.ownsRow.cellAt h _ (by omega), elvs_at R F i (r * 10 + j) (by omega) k hi, elV_pat (by omega)]
  rw [List.getElem?_map, List.getElem?_range hj, Option.map_some] at hv
  rw [List.getElem?_map, List.getElem?_eq_getElem (by omega)]
  rw [List.getD_eq_getElem?_getD, List.getElem?_eq_getElem (by omega)] at hv
  exact hv
set_option maxRecDepth 100000 in
set_option maxHeartbeats 4000000 in
theorem steadyState (a : Option Addr) (n cap : Nat) (R : List (List Int)) (a' : Option Addr) (N cap' : Nat) (l : List Int) (w : World) (h : Mat w a n R) (h' : Ints .i64 w a' N l) :
    Calls Try.prog 22 #[.slice a n cap, .slice a' N cap'] w (VRes (M.stRes R l) w) := by
  have HA := Lib.hid h
  have HI := Lib.hid h'
  have HNl := Lib.hid h'.1
  go_enter Try.func22, Try.ntmps22
  go_wp2_with fail
  refine (orbitRepeat _ _ _ R _ _ _ l _ HA.out HI.out).mono ?_
  rintro e w4 ⟨s, c, g, d, pv, hor, rfl, hb, hels⟩
  have HB4 := Lib.hid hb
  by_cases hd : d = 0
  · subst hd
    have hk0 : M.orbCode R l = 0 := by
      by_cases z : M.orbCode R l = 0
      · exact z
      · unfold M.orRes at hor
        rw [if_neg z] at hor
        simp at hor
        exact absurd hor.2.2.2 z
    obtain ⟨wb, p, kn, cn, k, rfl, rfl, rfl, c1, hk, hk2, hok, hsr⟩ := hels rfl
    obtain ⟨hs, hx, hl⟩ := M.orbCode_t hk0
    obtain ⟨hr, n1, n2, hsm⟩ := sq_parts7 h hs
    have hRn : R.length = n := h.1
    have hNn : N = n := by rw [← h'.1, hl]; exact hRn
    subst hNn
    have hokn : M.okQ R (M.colF R.length l) kn = true := hok kn (by omega)
    have hvec : M.isVec (M.orb R l kn) = true := by
      rw [M.ok_col hl (by omega) (by omega)] at hokn
      exact hokn
    have hlen : (M.orb R l kn).length = N := (M.orb_len hl kn).trans hRn
    have hE5 : M.stRes R l = if M.isVec (M.nrm (M.orb R l kn)) then (M.nrm (M.orb R l kn), 0) else ([], 3) := by
      rw [M.stRes_of hk0]
      have hf : M.fnd R (M.colF R.length l) = ((kn : Int), (cn : Int), g, 0) := by
        unfold M.orRes at hor
        rw [if_pos hk0] at hor
        exact hor
      rw [hf, if_pos rfl, Int.toNat_natCast]
    have HE5 := Lib.hid hE5
    have hpc : ∀ i, i < N → (M.patC (M.sq7 R (M.colF R.length l) kn) (M.maxL (M.sq7 R (M.colF R.length l) kn).flatten)).getD (i * 10) 0 = (M.nrm (M.orb R l kn)).getD i 0 := fun i hi => M.pat_col hl (by omega) (by omega)
    obtain ⟨v0, v1, g3, c3, hrow, hown⟩ := hsr
    have HOw := Lib.hid hown
    have s2 : w4.cell? ⟨p, 2, none⟩ = some (.slice (some ⟨g3, 0, none⟩) (k + 1) c3) := World.rowIs.cell hrow (i := 2) (by omega)
    have hpl : p < w4.heap.size := World.rowIs.lt hrow
    have hkk : (kn : Int) < (k : Int) + 1 := by omega
    have hknl : kn ≤ 100 := by omega
    have hN10 : (N : Int) ≤ 10 := by omega
    obtain ⟨Y, hY⟩ : ∃ Y, Y = M.nrm (M.orb R l kn) := ⟨_, rfl⟩
    rw [← hY] at hE5 hpc
    have hYl : Y.length = N := by rw [hY, M.nrm_len]; exact hlen
    have HY : Hid (Y = (List.range N).map fun j => Y.getD j 0) := Lib.hid (M.list_ext0 (by simp [hYl]) fun i hi => by simp [show i < N by omega])
    have HEy := Lib.hid hE5
    have HPc := Lib.hid hpc
    obtain ⟨bv, hbv⟩ : ∃ b, b = M.isVec Y := ⟨_, rfl⟩
    have HBv := Lib.hid hbv.symm
    obtain ⟨P, hP⟩ : ∃ P, P = M.patC (M.sq7 R (M.colF R.length l) kn) (M.maxL (M.sq7 R (M.colF R.length l) kn).flatten) := ⟨_, rfl⟩
    have HRg : Hid (∀ (wx : World) (i : Nat), i < 10 → (∀ j, j < w4.heap.size → wx.heap[j]? = w4.heap[j]?) → wx.rangeAt g3 (kn * 101 + i * 10) ((List.range 10).map fun t => Value.int .i64 (P.getD (i * 10 + t) 0))) := Lib.hid fun wx i hi hk => by
      rw [hP]
      exact els_row10 (ownE_keep HOw.out fun j hj => hk j (World.ownsRow.lt HOw.out j hj).2) (by omega) hi
    rw [← hP] at HPc
    have hmk := run_make_row' (P := Try.prog) 29 2 (.int .i64 0) 8 Try.underlying29 info64 rfl .i64 .i64 N (by omega) (by omega)
    clear hels hor hok hs hx hl hr hsm hRn hokn hvec hlen hE5 HE5 hpc hrow hown hb h h' hY hYl hbv hP hk0 HOw HNl
    go_wp2
    obtain ⟨w6, hw6⟩ : ∃ x, x = (w4.alloc (.cells #[.int .i64 kn, .int .i64 cn, .int .i64 g] 85)).alloc (.cells (madeCells #[.int .i64 0] N) 2) := ⟨_, rfl⟩
    have hsz : (w4.alloc (.cells #[.int .i64 kn, .int .i64 cn, .int .i64 g] 85)).heap.size = w4.heap.size + 1 := by simp
    have hO6 : Own w6 w4.heap.size (.slice (some ⟨w4.heap.size + 1, 0, none⟩) N N) ((List.range N).map fun _ => 0) := by
      have := own_made (w4.alloc (.cells #[.int .i64 kn, .int .i64 cn, .int .i64 g] 85)) w4.heap.size N (by simp) (by unfold maxLen; omega)
      rw [hsz, ← hw6] at this
      exact this
    have hB6 : Below w4.heap.size w4 w6 := by
      rw [hw6]
      exact (b_alloc w4 _).alloc (by simp) _
    have HO6 := Lib.hid hO6
    have HB6 := Lib.hid hB6
    have HW6 := Lib.hid hw6
    clear hO6 hB6 hsz hw6
    go_region
    go_wp2
    rw [← HW6.out]
    clear HW6
    go_loopw [10, 11, 37] (fun _ _ i wr => ∃ q : Nat, q ≤ N ∧ i = .int .i64 q ∧ Hid (Own wr w4.heap.size (.slice (some ⟨w4.heap.size + 1, 0, none⟩) N N) (vPart N (fun j => Y.getD j 0) q)) ∧ Hid (Below w4.heap.size w4 wr)) (fun _ _ i _ => N - (intOf i).toNat)
    case atStart => exact ⟨0, Nat.zero_le _, rfl, by rw [vPart_zero]; exact Lib.hid (HO6.out.drew), Lib.hid HB6.out.drew⟩
    case round =>
      obtain ⟨q, hq, rfl, HO, HB⟩ := hrel
      clear HO6 HB6
      by_cases hlt : q < N
      · have hqi : (q : Int) < (N : Int) := by omega
        have hrg := HRg.out wr q (by omega) (fun j hj => HB.out.block j hj)
        have hy := HPc.out q hlt
        have r0 : wr.cell? ⟨g3, kn * 101 + q * 10, none⟩ = some (.int .i64 (P.getD (q * 10) 0)) := hrg 0 _ rfl
        rw [hy] at r0
        have r1 : wr.cell? ⟨g3, kn * 101 + q * 10 + 1, none⟩ = some (.int .i64 (P.getD (q * 10 + 1) 0)) := hrg 1 _ rfl
        generalize P.getD (q * 10 + 1) 0 = y1 at r1
        have r2 : wr.cell? ⟨g3, kn * 101 + q * 10 + 2, none⟩ = some (.int .i64 (P.getD (q * 10 + 2) 0)) := hrg 2 _ rfl
        generalize P.getD (q * 10 + 2) 0 = y2 at r2
        have r3 : wr.cell? ⟨g3, kn * 101 + q * 10 + 3, none⟩ = some (.int .i64 (P.getD (q * 10 + 3) 0)) := hrg 3 _ rfl
        generalize P.getD (q * 10 + 3) 0 = y3 at r3
        have r4 : wr.cell? ⟨g3, kn * 101 + q * 10 + 4, none⟩ = some (.int .i64 (P.getD (q * 10 + 4) 0)) := hrg 4 _ rfl
        generalize P.getD (q * 10 + 4) 0 = y4 at r4
        have r5 : wr.cell? ⟨g3, kn * 101 + q * 10 + 5, none⟩ = some (.int .i64 (P.getD (q * 10 + 5) 0)) := hrg 5 _ rfl
        generalize P.getD (q * 10 + 5) 0 = y5 at r5
        have r6 : wr.cell? ⟨g3, kn * 101 + q * 10 + 6, none⟩ = some (.int .i64 (P.getD (q * 10 + 6) 0)) := hrg 6 _ rfl
        generalize P.getD (q * 10 + 6) 0 = y6 at r6
        have r7 : wr.cell? ⟨g3, kn * 101 + q * 10 + 7, none⟩ = some (.int .i64 (P.getD (q * 10 + 7) 0)) := hrg 7 _ rfl
        generalize P.getD (q * 10 + 7) 0 = y7 at r7
        have r8 : wr.cell? ⟨g3, kn * 101 + q * 10 + 8, none⟩ = some (.int .i64 (P.getD (q * 10 + 8) 0)) := hrg 8 _ rfl
        generalize P.getD (q * 10 + 8) 0 = y8 at r8
        have r9 : wr.cell? ⟨g3, kn * 101 + q * 10 + 9, none⟩ = some (.int .i64 (P.getD (q * 10 + 9) 0)) := hrg 9 _ rfl
        generalize P.getD (q * 10 + 9) 0 = y9 at r9
        obtain ⟨v, hst⟩ : ∃ v, wr.cell? ⟨w4.heap.size + 1, q, none⟩ = some v := ⟨_, HO.out.cellAt q hlt⟩
        have hfz := HO.out.frozenAt q
        have hlw : w4.heap.size + 1 < wr.heap.size := (own_lt HO.out (show (Value.slice (some ⟨w4.heap.size + 1, 0, none⟩) N N).ownBlock = some (w4.heap.size + 1) from rfl)).2
        have hlo := HB.out.size
        obtain ⟨x, hx⟩ : ∃ x, x = Y.getD q 0 := ⟨_, rfl⟩
        have HN : Hid (Own (wr.setCell ⟨w4.heap.size + 1, q, none⟩ (.int .i64 x)) w4.heap.size (.slice (some ⟨w4.heap.size + 1, 0, none⟩) N N) (vPart N (fun j => Y.getD j 0) (q + 1))) := by
          show Own _ _ _ _
          have := Own.set HO.out q x
          rw [hx, vPart_set N (fun j => Y.getD j 0) q, ← hx] at this
          exact this
        rw [← hx] at r0
        clear hrg hy hx
        go_wp2
        go_roundw
        case rel => exact ⟨q + 1, by omega, by go_num, Lib.hid (HN.out.below (b_alloc _ _)), Lib.hid ((HB.out.setCell (by show w4.heap.size ≤ w4.heap.size + 1; omega) _).alloc (by simp; omega) _)⟩
        case measure => simp [intOf]; omega
      · obtain rfl : q = N := by omega
        have hOY : Own wr w4.heap.size (.slice (some ⟨w4.heap.size + 1, 0, none⟩) q q) Y := by
          have e : vPart q (fun j => Y.getD j 0) q = Y := (vPart_end _ _).trans HY.out.symm
          have := HO.out
          rw [e] at this
          exact this
        have HOY := Lib.hid hOY
        have HBf := Lib.hid (HB4.out.trans (HB.out.mono HB4.out.size))
        have hz := HB4.out.size
        clear hOY
        cases bv with
        | true =>
          have HE6 : Hid (M.stRes R l = (Y, 0)) := by
            show _ = _
            rw [HEy.out, HBv.out]; rfl
          go_wp2_with fail
          refine (checkedVector_t _ _ _ Y _ HBv.out HOY.out.ints').mono ?_
          rintro e w' ⟨rfl, rfl⟩
          go_wp2
          go_ret2
          rw [HE6.out]
          exact ⟨_, _, _, rfl, HOY.out.mono hz, HBf.out⟩
        | false =>
          have HE6 : Hid (M.stRes R l = ([], 3)) := by
            show _ = _
            rw [HEy.out, HBv.out]; rfl
          go_wp2_with fail
          refine (checkedVector_f _ _ _ Y _ HBv.out HOY.out.ints').mono ?_
          rintro e w' ⟨rfl, rfl⟩
          go_wp2
          go_ret2
          exact VRes.nil HE6.out HBf.out
  · have HE5 : Hid (M.stRes R l = ([], d)) := by
      show _ = _
      by_cases z : M.orbCode R l = 0
      · rw [M.stRes_of z]
        unfold M.orRes at hor
        rw [if_pos z] at hor
        rw [hor, if_neg hd]
      · unfold M.stRes
        unfold M.orRes at hor
        rw [if_neg z] at hor ⊢
        simp at hor
        rw [hor.2.2.2]
    clear hor hels hb h h'
    go_wp2
    go_ret2
    exact VRes.nil HE5.out (HB4.out.alloc HB4.out.size _)
end V
end Go.Proofs.Ytjljplolonpldaa
