/- Texts laid together: BstZ, TabQ, TabS. -/
import Derived.Test.YtnnajlehhfmjfaaQe10
import Derived.Test.YtnnajlehhfmjfaaQe7
import Derived.Test.YtnnajlehhfmjfaaQe9
import Derived.Test.YtnnajlehhfmjfaaQe6
import Derived.Deep.RegionWith
import Derived.StillTailTactics
import Derived.Deep.RegionHeld3
set_option linter.unusedSimpArgs false
set_option linter.unusedVariables false
set_option linter.unusedSectionVars false
namespace Go.Proofs.Ytnnajlehhfmjfaa
namespace M
/-- A list that the search may stand at. -/
def Cyc0 (A : Nat → Nat → Int) (n : Nat) (q : List Int) : Prop :=
  (q = [] ∧ hasCyc A n = false) ∨ (nodesB n q = true ∧ diffB q = true ∧ 1 ≤ q.length ∧ arW A q ≠ -1000000000000000)
def best2 (R : List (List Int)) : List Int := if hasCyc (ent R) R.length then bestCyc R else []
theorem fnd_arW {A : Nat → Nat → Int} {n : Nat} {ov : Int} {q : List Int} (hn : n ≤ 10) (hA : ∀ i j, i < n → j < n → Sm 1000000 (A i j)) (h : Fnd A n ov q) : arW A q ≠ -1000000000000000 := by
  obtain ⟨g1, g2, g3, g4, g5, g6⟩ := h
  have hw : arW A q = wkc A (vx q) (q.length - 1) + A (vx q 0) (lastV q) := times_fin g4 g5
  intro e
  have hs := arW_sm hA g1 g3
  have hl := diffB_len g1 g2
  have h1 := hA (vx q 0) (lastV q) (vx_lt g1 (by omega)) (vx_lt g1 (by omega))
  have h2 := wkc_sm (A := A) (v := vx q) (t := q.length - 1) (fun u hu => sm_wide (hA _ _ (vx_lt g1 (by omega)) (vx_lt g1 (by omega))))
  unfold Sm at h1 h2 hs
  have hk : ((q.length - 1 : Nat) : Int) ≤ 9 := by omega
  generalize ((q.length - 1 : Nat) : Int) = k at *
  omega
theorem cyc0_start {A : Nat → Nat → Int} {n : Nat} (hn : n ≤ 10) (hA : ∀ i j, i < n → j < n → Sm 1000000 (A i j)) : Cyc0 A n (overL A n (-1000000000000000)) := by
  have hW : ∀ i j, i < n → j < n → Sm 1000001000000 (A i j) := fun i j hi hj => sm_wide (hA i j hi hj)
  have h := over_bot hn hA
  by_cases e : (overL A n (-1000000000000000)).length = 0
  · left
    rw [← h]
    exact ⟨List.eq_nil_of_length_eq_zero e, decide_eq_false (fun k => k e)⟩
  · right
    have hf := over_fnd hn hW e
    exact ⟨hf.1, hf.2.1, hf.2.2.1, fnd_arW hn hA hf⟩
theorem cyc0_mean {R : List (List Int)} {q : List Int} (h : nodesB R.length q = true ∧ diffB q = true ∧ 1 ≤ q.length ∧ arW (ent R) q ≠ -1000000000000000) : mean2 R q = (cMean (ent R) q, true) := by
  obtain ⟨h1, h2, h3, h4⟩ := h
  unfold mean2
  rw [if_pos (by unfold cycB; rw [h1, h2, around_arW, decide_eq_true h3, decide_eq_true h4]; rfl)]
  rfl
end M
namespace V
open Go.RowKit
/-- The integers of a slice, as the world has them. -/
def readL (w : World) : Value → List Int
  | .slice (some ⟨b, off, _⟩) n _ => (List.range n).map fun i => match w.cell? ⟨b, off + i, none⟩ with | some (.int _ x) => x | _ => 0
  | _ => []
theorem readL_ints {w : World} {a : Option Addr} {n c : Nat} {l : List Int} (h : Ints .i64 w a n l) : readL w (.slice a n c) = l := by
  obtain ⟨h1, -, h3⟩ := h
  rcases h3 with h3 | ⟨b, off, rfl, -, h3⟩
  · subst h3
    obtain rfl : l = [] := List.eq_nil_of_length_eq_zero h1
    cases a <;> rfl
  · show (List.range n).map _ = l
    apply List.ext_getElem
    · simp [h1]
    · intro k k1 k2
      have e := h3 k (by omega)
      simp only [List.getElem_map, List.getElem_range, e]
      simp [k2]
theorem readL_own {w : World} {B n c : Nat} {a : Option Addr} {l : List Int} (h : Own w B (.slice a n c) l) : readL w (.slice a n c) = l := by
  exact readL_ints h.ints'
theorem own_caps {w : World} {B n c : Nat} {a : Option Addr} {l : List Int} (h : Own w B (.slice a n c) l) : n ≤ c ∧ c ≤ maxLen := by
  have hl := h.len
  obtain ⟨a', c', hv, h1, h2, -⟩ := own_form h
  injection hv with e1 e2 e3
  subst e3
  exact ⟨by omega, h2⟩
set_option maxRecDepth 100000 in
set_option maxHeartbeats 2000000 in
theorem sBest (a : Option Addr) (n cap : Nat) (R : List (List Int)) (w : World) (h : Mat w a n R) (hs : M.sqB R = true) :
    Calls Try.prog 50 #[.slice a n cap] w fun e w' => ∃ b' n' c', e = .returned (.tuple #[.slice b' n' c', .bool (M.hasCyc (M.ent R) n)]) ∧ Own w' w.heap.size (.slice b' n' c') (M.best2 R) ∧ Below w.heap.size w w' := by
  have HS := Lib.hid (sq_of h hs)
  have HMt := Lib.hid h
  have HQ := Lib.hid hs
  have HSm := Lib.hid (sm_of h hs)
  have hRn : R.length = n := h.1
  have HRn := Lib.hid hRn
  obtain ⟨n1, n2⟩ := (sq_of h hs).2.2.2
  clear h hs hRn
  go_enter Try.func50, Try.ntmps50
  go_wp2_with fail
  refine (sOver _ _ _ R (-1000000000000000) _ HS.out).mono ?_
  rintro e w1 ⟨b1, N1, c1, rfl, ho, hb⟩
  have HO1 := Lib.hid ho
  have HB1 := Lib.hid hb
  have HC1 := Lib.hid (M.cyc0_start n2 HSm.out)
  clear ho hb
  go_wp2
  go_loopw [4, 5, 6, 7] (fun v _ _ _ wr => ∃ (b : Option Addr) (N c : Nat) (q : List Int), v = .slice b N c ∧ Hid (Own wr w.heap.size (.slice b N c) q) ∧ Hid (M.Cyc0 (M.ent R) n q) ∧ Hid (Below w.heap.size w wr)) (fun v _ _ _ wr => M.mu (M.ent R) (readL wr v))
  case atStart => exact ⟨b1, N1, c1, _, rfl, HO1, HC1, HB1⟩
  case round =>
    clear HO1 HB1 HC1
    obtain ⟨b, N, c, q, rfl, HO, HC, HB⟩ := hrel
    obtain ⟨wo, rfl⟩ : ∃ x, x = wr := ⟨_, rfl⟩
    have hNl := HO.out.len
    rcases HC.out with ⟨hq0, hno⟩ | hq
    · have hN0 : N = 0 := by rw [hNl, hq0]; rfl
      have HE : Hid (M.best2 R = []) := by show _ = _; unfold M.best2; rw [HRn.out, hno]; rfl
      have HNo := Lib.hid hno
      subst hN0
      clear hq0 hno hNl
      go_wp2
      go_ret2
      refine ⟨none, 0, 0, ?_, ?_, HB.out⟩
      · rw [HNo.out]; rfl
      · rw [HE.out]; exact own_nil _ _
    · have hlen := M.diffB_len hq.1 hq.2.1
      have hN1 : 0 < N := by omega
      have hcap := own_caps HO.out
      have HM2 : Hid (M.mean2 R q = (M.cMean (M.ent R) q, true)) := M.cyc0_mean (by rw [HRn.out]; exact hq)
      have HCap := Lib.hid hcap
      have HNear := Lib.hid (M.cMean_near HSm.out hq.2.2.1 (by omega) hq.1 hq.2.2.2).1
      have HQq := Lib.hid hq
      have HLen := Lib.hid hlen
      have HNl := Lib.hid hNl
      obtain ⟨r, hr⟩ : ∃ r, r = M.cMean (M.ent R) q := ⟨_, rfl⟩
      have HR := Lib.hid hr
      obtain ⟨r1, r2⟩ := r
      have HSh : Hid (∀ i j, i < n → j < n → M.Sm 1000001000000 (M.shf (M.ent R) r1 r2 i j)) := by
        show ∀ i j, _
        have := M.sh_sm HSm.out HNear.out
        rw [← hr] at this; exact this
      have HNe : Hid (M.Near r1 r2) := by show M.Near r1 r2; have := HNear.out; rw [← hr] at this; exact this
      clear hq hlen hcap hr hNl
      go_wp2_with fail
      refine (sMean _ _ _ R _ _ _ q _ (HMt.out.below HB.out) HQ.out HO.out.ints' HCap.out.1 HCap.out.2).mono ?_
      rintro e w2 ⟨rfl, hb2⟩
      rw [HM2.out, ← HR.out]
      have HB2 := Lib.hid hb2
      clear hb2
      go_wp2_with fail
      obtain ⟨wb, hwb⟩ : ∃ x, x = w2.alloc (rbox r1 r2) := ⟨_, rfl⟩
      have HX : Hid (Boxed w2 wb r1 r2) := by show Boxed _ _ _ _; rw [hwb]; exact boxed _ _ _
      have HBw := Lib.hid (HB.out.trans (HB2.out.mono HB.out.size))
      have HBx := Lib.hid (HBw.out.trans (HX.out.below.mono HBw.out.size))
      change Calls _ _ _ (w2.alloc (rbox r1 r2)) _
      rw [← hwb]
      clear hwb
      refine (sShift _ _ _ R r1 r2 _ (HMt.out.below HBx.out) HS.out.2.1 n1 n2 HSm.out HNe.out).mono ?_
      rintro e w3 ⟨b3, c3, rfl, ho, hb⟩
      have HO3 := Lib.hid ho
      have HB3 := Lib.hid hb
      clear ho hb
      obtain ⟨q', hq'⟩ : ∃ q', q' = M.overL (M.shf (M.ent R) r1 r2) n 0 := ⟨_, rfl⟩
      have HOv : Hid (M.overL (M.ent (M.mk n n (M.shf (M.ent R) r1 r2))) n 0 = q') := by
        show _ = _
        rw [hq']; exact M.over_congr n2 HSh.out fun i j hi hj => M.ent_mk _ _ _ _ _ hi hj
      have HQ' := Lib.hid hq'
      clear hq'
      have HSq : ∀ wx b c, OwnM wx wb.heap.size (.slice b n c) (M.mk n n (M.shf (M.ent R) r1 r2)) → Sq wx b n (M.mk n n (M.shf (M.ent R) r1 r2)) := fun wx b c ho =>
        ⟨ho.mat, rect_mk _ _ _, fun i j hi hj => by rw [M.ent_mk _ _ _ _ _ hi hj]; exact HSh.out i j hi hj, n1, n2⟩
      have HSQ := Lib.hid HSq
      clear HSq
      go_wp2_with fail
      refine (sOver _ _ _ (M.mk n n (M.shf (M.ent R) r1 r2)) 0 _ (HSQ.out _ _ _ HO3.out)).mono ?_
      rintro e w4 ⟨b4, N4, c4, rfl, ho, hb⟩
      rw [HOv.out] at ho
      have HO4 := Lib.hid ho
      have HB4 := Lib.hid (HB3.out.trans (hb.mono HB3.out.size))
      obtain ⟨p0, p1⟩ := HX.out.cells HB4.out
      have hN4 := ho.len
      have HN4 := Lib.hid hN4
      clear ho hb
      by_cases h4 : N4 = 0
      · have hfi := M.fnd_is n2 HSm.out HQq.out.1 HQq.out.2.1 HQq.out.2.2.1 HQq.out.2.2.2 (by rw [← HR.out, ← HQ'.out, ← hN4, h4])
        have HNo : Hid (M.hasCyc (M.ent R) n = true) := hfi.1
        have HE : Hid (M.best2 R = M.overL (M.shf (M.ent R) r1 r2) n (-1)) := by
          show _ = _
          unfold M.best2
          rw [HRn.out, hfi.1, if_pos rfl]
          unfold M.bestCyc
          rw [HRn.out, ← hfi.2, ← HR.out]
        clear hfi hN4
        subst h4
        go_wp2_with fail
        refine (sShift _ _ _ R r1 r2 _ (HMt.out.below (HBx.out.trans (HB4.out.mono HBx.out.size))) HS.out.2.1 n1 n2 HSm.out HNe.out).mono ?_
        rintro e w5 ⟨b5, c5, rfl, ho, hb⟩
        have HO5 := Lib.hid ho
        have HB5 := Lib.hid (HB4.out.trans (hb.mono HB4.out.size))
        have HSQ5 : Hid (Sq w5 b5 n (M.mk n n (M.shf (M.ent R) r1 r2))) := HSQ.out _ _ _ (ho.mono HB4.out.size)
        clear ho hb
        go_wp2_with fail
        refine (sOver _ _ _ (M.mk n n (M.shf (M.ent R) r1 r2)) (-1) _ HSQ5.out).mono ?_
        rintro e w6 ⟨b6, N6, c6, rfl, ho, hb⟩
        rw [M.over_congr (A := M.shf (M.ent R) r1 r2) n2 HSh.out fun i j hi hj => M.ent_mk _ _ _ _ _ hi hj, ← HE.out] at ho
        have HB6 := Lib.hid (HBx.out.trans ((HB5.out.trans (hb.mono HB5.out.size)).mono HBx.out.size))
        have HO6 := Lib.hid (ho.mono (Nat.le_trans HBx.out.size HB5.out.size))
        clear ho hb
        go_wp2
        go_ret2
        exact ⟨b6, N6, c6, by rw [HNo.out]; rfl, HO6.out, HB6.out⟩
      · have hf : M.Fnd (M.shf (M.ent R) (M.cMean (M.ent R) q).1 (M.cMean (M.ent R) q).2) n 0 q' := by
          have hne : (M.overL (M.shf (M.ent R) r1 r2) n 0).length ≠ 0 := by rw [← HQ'.out]; omega
          have := M.over_fnd n2 HSh.out hne
          rw [← HQ'.out] at this
          rw [← HR.out]; exact this
        obtain ⟨g1, g2, g3, g4, g5, g6⟩ := M.fnd_up n2 HSm.out HQq.out.1 HQq.out.2.1 HQq.out.2.2.1 HQq.out.2.2.2 hf
        have HC' : Hid (M.Cyc0 (M.ent R) n q') := .inr ⟨g1, g2, g3, g5⟩
        have HL : Hid (M.mu (M.ent R) q' < M.mu (M.ent R) q) := M.mu_lt HQq.out.2.2.1 (Nat.le_trans HLen.out n2) g3 g4 (M.cMean_near HSm.out g3 g4 g1 g5).2.2.1 g6
        have HB6 := Lib.hid (HBx.out.trans (HB4.out.mono HBx.out.size))
        have HO6 := Lib.hid (HO4.out.mono (Nat.le_trans HBx.out.size HB3.out.size))
        have hN4p : 0 < N4 := by omega
        clear hf g1 g2 g3 g4 g5 g6 hN4
        go_wp2
        go_roundw
        case rel => exact ⟨b4, N4, c4, q', rfl, HO6, HC', HB6⟩
        case measure =>
          show M.mu _ (readL w4 (.slice b4 N4 c4)) < M.mu _ (readL wo (.slice b N c))
          rw [readL_own HO6.out, readL_own HO.out]; exact HL.out
end V
end Go.Proofs.Ytnnajlehhfmjfaa

namespace Go.Proofs.Ytnnajlehhfmjfaa
namespace V
open Go.RowKit
set_option maxRecDepth 100000 in
set_option maxHeartbeats 1000000 in
theorem sCycleMean (a : Option Addr) (n cap : Nat) (R : List (List Int)) (w : World) (h : Mat w a n R) :
    Calls Try.prog 16 #[.slice a n cap] w fun e w' => e = .returned (.tuple #[.agg #[.int .i64 (M.cycMeanRes R).1.1, .int .i64 (M.cycMeanRes R).1.2], .int .i64 (M.cycMeanRes R).2]) ∧ Below w.heap.size w w' := by
  have HA := Lib.hid h
  have HRn := Lib.hid h.1
  by_cases hs : M.sqB R = true
  · have HS := Lib.hid hs
    have HB0 : ∀ qd, Below (w.alloc (.cells #[.int .i64 0, .int .i64 0] 27)).heap.size (w.alloc (.cells #[.int .i64 0, .int .i64 0] 27)) ((w.alloc (.cells #[.int .i64 0, .int .i64 0] 27)).drewN qd) := fun qd => b_draws _ _
    have HB0 := Lib.hid HB0
    have HA0 : Hid (∀ qd, Mat ((w.alloc (.cells #[.int .i64 0, .int .i64 0] 27)).drewN qd) a n R) := fun qd => HA.out.below ((b_alloc _ _).trans ((HB0.out qd).mono (by simp)))
    by_cases hc : M.hasCyc (M.ent R) n = true
    · have hb := M.best_cyc hs (by rw [h.1]; exact hc)
      have HC : Hid (M.mean2 R (M.best2 R) = (M.bestR (M.ent R) n, true)) := by
        show _ = _
        unfold M.best2
        rw [HRn.out, hc, if_pos rfl]
        unfold M.mean2
        rw [if_pos hb.1, hb.2.1, HRn.out]
      have HNo := Lib.hid hc
      obtain ⟨x, hx⟩ : ∃ x, x = M.bestR (M.ent R) n := ⟨_, rfl⟩
      have HE : Hid (M.cycMeanRes R = M.lim x) := by show _ = _; unfold M.cycMeanRes; rw [if_pos hs, HRn.out, if_pos hc, hx]
      rw [← hx] at HC
      clear h hs hc hb hx
      obtain ⟨x1, x2⟩ := x
      go_enter Try.func16, Try.ntmps16
      go_wp2_with fail
      refine (sSquare_b _ _ _ R _ true HS.out (HA.out.below (b_alloc _ _))).mono ?_
      rintro e w' ⟨rfl, qd, rfl⟩
      go_wp2_with fail
      refine (sBest _ _ _ R _ (HA0.out qd) HS.out).mono ?_
      rintro e w0 ⟨b', n', c', rfl, ho, hb0⟩
      rw [HNo.out]
      have HO := Lib.hid ho
      have HBb := Lib.hid ((HB0.out qd).trans (hb0.mono (HB0.out qd).size))
      have HM0 : Hid (Mat w0 a n R) := (HA0.out qd).below hb0
      have HCp := Lib.hid (own_caps ho)
      clear ho hb0
      go_wp2_with fail
      refine (sMean _ _ _ R _ _ _ (M.best2 R) _ HM0.out HS.out HO.out.ints' HCp.out.1 HCp.out.2).mono ?_
      rintro e w1 ⟨rfl, hb⟩
      rw [HC.out]
      have hb1 := HBb.out.trans (hb.mono HBb.out.size)
      have hz := hb1.size
      simp at hz
      obtain ⟨hcc, hff⟩ := bcell hb1
      have z1 : w.heap.size < w1.heap.size := by omega
      clear hb
      go_wp2_with fail
      refine (sResultR _ _ _).mono ?_
      rintro e w2 ⟨rfl, hb2⟩
      obtain ⟨r, hr⟩ : ∃ r, r = M.lim (x1, x2) := ⟨_, rfl⟩
      rw [← hr] at HE ⊢
      clear hr
      unfold retQ
      obtain ⟨⟨r1, r2⟩, r3⟩ := r
      have hbb := hb1.trans (((b_alloc w1 _).trans (hb2.mono (by simp))).mono hb1.size)
      have hz2 := hbb.size
      simp at hz2
      obtain ⟨hc2, hf2⟩ := bcell hbb
      have z2 : w.heap.size < w2.heap.size := by omega
      go_wp2
      exact bodyPost_ret (v := .tuple #[.agg #[.int .i64 r1, .int .i64 r2], .int .i64 r3]) (by simp [results, Try.results16, go_sem, z2, hc2]) rfl ⟨by rw [HE.out], bel1s hbb⟩
    · simp only [Bool.not_eq_true] at hc
      have HNo := Lib.hid hc
      have HE : Hid (M.cycMeanRes R = ((0, 0), 4)) := by show _ = _; unfold M.cycMeanRes; rw [if_pos hs, HRn.out, if_neg (by rw [hc]; exact Bool.false_ne_true)]
      clear h hs hc
      go_enter Try.func16, Try.ntmps16
      go_wp2_with fail
      refine (sSquare_b _ _ _ R _ true HS.out (HA.out.below (b_alloc _ _))).mono ?_
      rintro e w' ⟨rfl, qd, rfl⟩
      go_wp2_with fail
      refine (sBest _ _ _ R _ (HA0.out qd) HS.out).mono ?_
      rintro e w1 ⟨b', n', c', rfl, ho, hb0⟩
      rw [HNo.out]
      have hb1 := (HB0.out qd).trans (hb0.mono (HB0.out qd).size)
      have hz := hb1.size
      simp at hz
      obtain ⟨hcc, hff⟩ := bcell hb1
      have z1 : w.heap.size < w1.heap.size := by omega
      clear ho hb0
      go_wp2
      exact bodyPost_ret (v := .tuple #[.agg #[.int .i64 0, .int .i64 0], .int .i64 4]) (by simp [results, Try.results16, go_sem, z1, hcc]) rfl ⟨by rw [HE.out], bel1s hb1⟩
  · simp only [Bool.not_eq_true] at hs
    have HS := Lib.hid hs
    have HE : Hid (M.cycMeanRes R = ((0, 0), 1)) := by show _ = _; unfold M.cycMeanRes; rw [if_neg (by rw [hs]; exact Bool.false_ne_true)]
    clear h hs
    go_enter Try.func16, Try.ntmps16
    go_wp2_with fail
    refine (sSquare_b _ _ _ R _ false HS.out (HA.out.below (b_alloc _ _))).mono ?_
    rintro e w' ⟨rfl, qd, rfl⟩
    go_wp2
    exact bodyPost_ret (v := .tuple #[.agg #[.int .i64 0, .int .i64 0], .int .i64 1]) (by simp [results, Try.results16, go_sem]) rfl ⟨by rw [HE.out], bel1s (b_draws _ _)⟩
set_option maxRecDepth 100000 in
set_option maxHeartbeats 1000000 in
theorem sBestCycle (a : Option Addr) (n cap : Nat) (R : List (List Int)) (w : World) (h : Mat w a n R) :
    Calls Try.prog 29 #[.slice a n cap] w (VRes (M.bestRes R) w) := by
  have HA := Lib.hid h
  have HRn := Lib.hid h.1
  by_cases hs : M.sqB R = true
  · have HS := Lib.hid hs
    obtain ⟨c, hc⟩ : ∃ c, c = M.hasCyc (M.ent R) n := ⟨_, rfl⟩
    have HNo := Lib.hid hc.symm
    have HE : Hid (M.bestRes R = if c then (M.best2 R, 0) else ([], 4)) := by
      show _ = _; unfold M.bestRes M.best2; rw [if_pos hs, HRn.out, ← hc]; cases c <;> rfl
    clear h hs hc
    go_enter Try.func29, Try.ntmps29
    go_wp2_with fail
    refine (sSquare_b _ _ _ R _ true HS.out HA.out).mono ?_
    rintro e w' ⟨rfl, qd, rfl⟩
    go_wp2_with fail
    refine (sBest _ _ _ R _ (HA.out.below (b_draws _ _)) HS.out).mono ?_
    rintro e w1 ⟨b', n', c', rfl, ho, hb0⟩
    rw [HNo.out]
    have HO := Lib.hid ho
    have HB := Lib.hid ((b_draws w qd).trans hb0)
    clear ho hb0
    cases c with
    | false =>
      go_wp2
      go_ret2
      exact VRes.nil HE.out HB.out
    | true =>
      go_wp2
      go_ret2
      rw [HE.out]
      exact ⟨_, _, _, rfl, HO.out, HB.out⟩
  · simp only [Bool.not_eq_true] at hs
    have HS := Lib.hid hs
    have HE : Hid (M.bestRes R = ([], 1)) := by show _ = _; unfold M.bestRes; rw [if_neg (by rw [hs]; exact Bool.false_ne_true)]
    clear h hs
    go_enter Try.func29, Try.ntmps29
    go_wp2_with fail
    refine (sSquare_b _ _ _ R _ false HS.out HA.out).mono ?_
    rintro e w' ⟨rfl, qd, rfl⟩
    go_wp2
    go_ret2
    exact VRes.nil HE.out (b_draws _ _)
end V
end Go.Proofs.Ytnnajlehhfmjfaa

namespace Go.Proofs.Ytnnajlehhfmjfaa.M
theorem tbL_has {A : Nat → Nat → Int} (n : Nat) : decide (1 ≤ (tbL A n n).length) = hasCyc A n := by
  unfold hasCyc
  apply Bool.eq_iff_iff.2
  rw [decide_eq_true_eq, List.any_eq_true]
  constructor
  · intro h
    cases e : tbL A n n with
    | nil => rw [e] at h; simp at h
    | cons p l =>
      obtain ⟨v, hv, hf, -⟩ := mem_tbL.1 (show p ∈ tbL A n n by rw [e]; exact List.mem_cons_self ..)
      exact ⟨v, List.mem_range.2 hv, by simpa using hf⟩
  · rintro ⟨v, hv, hf⟩
    have hm : minR (slL A n v n) ∈ tbL A n n := mem_tbL.2 ⟨v, List.mem_range.1 hv, by simpa using hf, rfl⟩
    exact List.length_pos_of_mem hm
end Go.Proofs.Ytnnajlehhfmjfaa.M
namespace Go.Proofs.Ytnnajlehhfmjfaa.V
open Go.RowKit
set_option maxRecDepth 100000 in
set_option maxHeartbeats 400000 in
theorem sCompareB (x p : Int × Int) (y : Int) (w : World) (hx : M.Rb x) (hp : M.Rb p) (hy : M.cmpZ (x.1 * p.2) (p.1 * x.2) = y) :
    Calls Try.prog 86 #[.agg #[.int .i64 x.1, .int .i64 x.2], .agg #[.int .i64 p.1, .int .i64 p.2]] w fun e w' => e = .returned (.int .i64 y) ∧ Below w.heap.size w w' := by
  subst hy
  obtain ⟨a1, a2, a3, a4⟩ := hx
  obtain ⟨b1, b2, b3, b4⟩ := hp
  obtain ⟨p1, p2⟩ := M.mul_rb a1 a2 b3 b4
  obtain ⟨q1, q2⟩ := M.mul_rb b1 b2 a3 a4
  go_enter Try.func86, Try.ntmps86
  go_wp2
  go_region
  all_goals go_wp2
  all_goals
    go_ret
    exact ⟨retI (by unfold M.cmpZ; split <;> (try split) <;> omega), (b_alloc2 _ _ _).drew⟩
/-- A box of a ratio, first above the world w. -/
def RBox (w wr : World) (p : Int × Int) : Prop :=
  Below w.heap.size w wr ∧ w.heap.size < wr.heap.size ∧ wr.cell? ⟨w.heap.size, 0, none⟩ = some (.int .i64 p.1) ∧ wr.cell? ⟨w.heap.size, 1, none⟩ = some (.int .i64 p.2) ∧ wr.frozen? ⟨w.heap.size, 0, none⟩ = false ∧ wr.frozen? ⟨w.heap.size, 1, none⟩ = false
theorem RBox.keep {w w1 w2 : World} {p : Int × Int} (h : RBox w w1 p) (hb : Below (w.heap.size + 1) w1 w2) : RBox w w2 p := by
  obtain ⟨h1, h2, a1, a2, a3, a4⟩ := h
  have hs := hb.size
  refine ⟨h1.trans (hb.mono (by omega)), by omega, ?_, ?_, ?_, ?_⟩
  · rw [hb.cell (p := ⟨w.heap.size, 0, none⟩) (by show w.heap.size < _; omega)]; exact a1
  · rw [hb.cell (p := ⟨w.heap.size, 1, none⟩) (by show w.heap.size < _; omega)]; exact a2
  · rw [hb.frozen (p := ⟨w.heap.size, 0, none⟩) (by show w.heap.size < _; omega)]; exact a3
  · rw [hb.frozen (p := ⟨w.heap.size, 1, none⟩) (by show w.heap.size < _; omega)]; exact a4
theorem RBox.set {w w1 : World} {p : Int × Int} (h : RBox w w1 p) (q : Int × Int) : RBox w ((w1.setCell ⟨w.heap.size, 0, none⟩ (.int .i64 q.1)).setCell ⟨w.heap.size, 1, none⟩ (.int .i64 q.2)) q := by
  obtain ⟨h1, h2, b1, b2, b3, b4⟩ := h
  refine ⟨(h1.setCell (Nat.le_refl _) _).setCell (Nat.le_refl _) _, by simpa using h2, ?_⟩
  simp [go_sem, b1, b2, b3, b4]
theorem RBox.new (w : World) : RBox w (w.alloc (.cells #[.int .i64 0, .int .i64 0] 27)) (0, 0) := ⟨b_alloc _ _, by simp, by simp [go_sem], by simp [go_sem], by simp [go_sem], by simp [go_sem]⟩
theorem freshA {w w2 : World} (hb : Below (w.alloc (.cells #[.int .i64 0, .int .i64 0] 27)).drew.heap.size (w.alloc (.cells #[.int .i64 0, .int .i64 0] 27)).drew w2) : w.heap.size < w2.heap.size ∧ w2.cell? ⟨w.heap.size, 0, none⟩ = some (.int .i64 0) ∧ w2.cell? ⟨w.heap.size, 1, none⟩ = some (.int .i64 0) ∧ w2.frozen? ⟨w.heap.size, 0, none⟩ = false ∧ w2.frozen? ⟨w.heap.size, 1, none⟩ = false := by
  have hs := hb.size
  simp at hs
  refine ⟨by omega, ?_, ?_, ?_, ?_⟩
  · rw [hb.cell (p := ⟨w.heap.size, 0, none⟩) (by simp)]; simp [go_sem]
  · rw [hb.cell (p := ⟨w.heap.size, 1, none⟩) (by simp)]; simp [go_sem]
  · rw [hb.frozen (p := ⟨w.heap.size, 0, none⟩) (by simp)]; simp [go_sem]
  · rw [hb.frozen (p := ⟨w.heap.size, 1, none⟩) (by simp)]; simp [go_sem]
theorem freshB {w w2 : World} (hb : Below (w.drew.alloc (.cells #[.int .i64 0, .int .i64 0] 27)).heap.size (w.drew.alloc (.cells #[.int .i64 0, .int .i64 0] 27)) w2) : w.heap.size < w2.heap.size ∧ w2.cell? ⟨w.heap.size, 0, none⟩ = some (.int .i64 0) ∧ w2.cell? ⟨w.heap.size, 1, none⟩ = some (.int .i64 0) ∧ w2.frozen? ⟨w.heap.size, 0, none⟩ = false ∧ w2.frozen? ⟨w.heap.size, 1, none⟩ = false := by
  have hs := hb.size
  simp at hs
  refine ⟨by omega, ?_, ?_, ?_, ?_⟩
  · rw [hb.cell (p := ⟨w.heap.size, 0, none⟩) (by simp)]; simp [go_sem]
  · rw [hb.cell (p := ⟨w.heap.size, 1, none⟩) (by simp)]; simp [go_sem]
  · rw [hb.frozen (p := ⟨w.heap.size, 0, none⟩) (by simp)]; simp [go_sem]
  · rw [hb.frozen (p := ⟨w.heap.size, 1, none⟩) (by simp)]; simp [go_sem]
theorem cell_block {w : World} {a : Addr} {v : Value} (h : w.cell? a = some v) : a.block < w.heap.size := by
  unfold World.cell? at h
  split at h
  · rename_i hb; exact (Array.getElem?_eq_some_iff.1 hb).1
  · cases h
theorem keepT {w0 w1 w2 : World} {p q r u : Addr} {x y z v : Value} (h : w1.cell? p = some x ∧ w1.cell? q = some y ∧ w1.cell? r = some z ∧ w1.cell? u = some v ∧ Below w0.heap.size w0 w1) (hp : p.block < w0.heap.size) (hq : q.block < w0.heap.size) (hr : r.block < w0.heap.size) (hu : u.block < w0.heap.size) (hb : Below w1.heap.size w1 w2) :
    w2.cell? p = some x ∧ w2.cell? q = some y ∧ w2.cell? r = some z ∧ w2.cell? u = some v ∧ Below w0.heap.size w0 w2 := by
  obtain ⟨h1, h2, h3, h5, h4⟩ := h
  have hs := h4.size
  exact ⟨(hb.cell (by omega)).trans h1, (hb.cell (by omega)).trans h2, (hb.cell (by omega)).trans h3, (hb.cell (by omega)).trans h5, h4.trans (hb.mono hs)⟩
theorem keepTs {w0 w1 : World} {p q r u : Addr} {x y z v val : Value} {b i : Nat} (h : w1.cell? p = some x ∧ w1.cell? q = some y ∧ w1.cell? r = some z ∧ w1.cell? u = some v ∧ Below w0.heap.size w0 w1) (hp : p.block < w0.heap.size) (hq : q.block < w0.heap.size) (hr : r.block < w0.heap.size) (hu : u.block < w0.heap.size) (hb : w0.heap.size ≤ b) :
    (w1.setCell ⟨b, i, none⟩ val).cell? p = some x ∧ (w1.setCell ⟨b, i, none⟩ val).cell? q = some y ∧ (w1.setCell ⟨b, i, none⟩ val).cell? r = some z ∧ (w1.setCell ⟨b, i, none⟩ val).cell? u = some v ∧ Below w0.heap.size w0 (w1.setCell ⟨b, i, none⟩ val) := by
  obtain ⟨h1, h2, h3, h5, h4⟩ := h
  have hk : ∀ a : Addr, a.block < w0.heap.size → (w1.setCell ⟨b, i, none⟩ val).cell? a = w1.cell? a := fun a ha => World.cell?_of_block (w := w1) (a := a) (Below.heap_setCell w1 ⟨b, i, none⟩ _ _ (by show a.block ≠ b; omega))
  exact ⟨(hk p hp).trans h1, (hk q hq).trans h2, (hk r hr).trans h3, (hk u hu).trans h5, h4.setCell hb _⟩
set_option maxRecDepth 100000 in
set_option maxHeartbeats 40000000 in
theorem sTab (a : Option Addr) (n cap : Nat) (R : List (List Int)) (w : World) (h : Mat w a n R) (hs : M.sqB R = true) :
    Calls Try.prog 53 #[.slice a n cap] w fun e w' => e = .returned (.tuple #[.agg #[.int .i64 (if M.hasCyc (M.ent R) n then M.tabR (M.ent R) n else (0, 0)).1, .int .i64 (if M.hasCyc (M.ent R) n then M.tabR (M.ent R) n else (0, 0)).2], .bool (M.hasCyc (M.ent R) n)]) ∧ Below w.heap.size w w' := by
  have HS := Lib.hid (sq_of h hs)
  have HMt := Lib.hid h
  have HSm := Lib.hid (sm_of h hs)
  have HRn := Lib.hid h.1
  obtain ⟨n1, n2⟩ := (sq_of h hs).2.2.2
  have HRB : Hid (∀ i j, i < n → j < n → M.Big (M.ent R i j)) := fun i j hi hj => M.big_sm (HSm.out i j hi hj) (by omega)
  clear h hs
  obtain ⟨⟨Q1, Q2⟩, hQ⟩ : ∃ q, q = (if M.hasCyc (M.ent R) n then M.tabR (M.ent R) n else (0, 0)) := ⟨_, rfl⟩
  rw [← hQ]
  obtain ⟨Fl, hFl⟩ : ∃ f, f = M.hasCyc (M.ent R) n := ⟨_, rfl⟩
  rw [← hFl]
  have HQQ := Lib.hid hQ
  have HFF := Lib.hid hFl
  clear hQ hFl
  show Calls _ _ _ _ (fun e w' => e = .returned (.tuple #[.agg #[.int .i64 Q1, .int .i64 Q2], .bool Fl]) ∧ Below w.heap.size w w')
  have HB0 : Hid (Below (w.alloc (.cells #[.int .i64 0, .int .i64 0] 27)).heap.size (w.alloc (.cells #[.int .i64 0, .int .i64 0] 27)) ((w.alloc (.cells #[.int .i64 0, .int .i64 0] 27)).alloc (.cells (madeCells #[.int .i64 0] n) 2))) := b_alloc _ _
  have HO0 : Hid (Own ((w.alloc (.cells #[.int .i64 0, .int .i64 0] 27)).alloc (.cells (madeCells #[.int .i64 0] n) 2)) (w.alloc (.cells #[.int .i64 0, .int .i64 0] 27)).heap.size (.slice (some ⟨(w.alloc (.cells #[.int .i64 0, .int .i64 0] 27)).heap.size, 0, none⟩) n n) (M.fkL (M.ent R) n 0)) := own_made _ _ n (Nat.le_refl _) (by unfold maxLen; omega)
  have HO1 : Hid (OwnM (((w.alloc (.cells #[.int .i64 0, .int .i64 0] 27)).alloc (.cells (madeCells #[.int .i64 0] n) 2)).alloc (.cells #[.slice (some ⟨(w.alloc (.cells #[.int .i64 0, .int .i64 0] 27)).heap.size, 0, none⟩) n n] 30)) (w.alloc (.cells #[.int .i64 0, .int .i64 0] 27)).heap.size (.slice (some ⟨((w.alloc (.cells #[.int .i64 0, .int .i64 0] 27)).alloc (.cells (madeCells #[.int .i64 0] n) 2)).heap.size, 0, none⟩) 1 1) (M.endM (M.ent R) n 1)) := ownM_first _ _ HB0.out.size HO0.out
  have HB1 : Hid (Below (w.alloc (.cells #[.int .i64 0, .int .i64 0] 27)).heap.size (w.alloc (.cells #[.int .i64 0, .int .i64 0] 27)) (((w.alloc (.cells #[.int .i64 0, .int .i64 0] 27)).alloc (.cells (madeCells #[.int .i64 0] n) 2)).alloc (.cells #[.slice (some ⟨(w.alloc (.cells #[.int .i64 0, .int .i64 0] 27)).heap.size, 0, none⟩) n n] 30))) := HB0.out.alloc HB0.out.size _
  have hmk := run_make_row' (P := Try.prog) 30 2 (.int .i64 0) 8 Try.underlying30 info64 rfl .i64 .i64 n (by omega) (by omega)
  clear HB0 HO0
  go_enter Try.func53, Try.ntmps53
  go_wp2
  clear hmk
  go_loopw [5, 6] (fun rows i wr => ∃ (k : Nat) (b : Option Addr) (c : Nat), k ≤ n ∧ i = .int .i64 k ∧ rows = .slice b (k + 1) c ∧ Hid (OwnM wr (w.heap.size + 1) (.slice b (k + 1) c) (M.endM (M.ent R) n (k + 1))) ∧ Hid (Below (w.heap.size + 1) (w.alloc (.cells #[.int .i64 0, .int .i64 0] 27)) wr)) (fun _ i _ => n - (intOf i).toNat)
  case atStart => exact ⟨0, _, _, Nat.zero_le _, rfl, rfl, by show OwnM _ _ _ _; simpa using HO1.out, by show Below _ _ _; simpa using HB1.out⟩
  case round =>
    clear HO1 HB1
    obtain ⟨k, b, c, hk, rfl, rfl, HO, HB⟩ := hrel
    obtain ⟨wo, rfl⟩ : ∃ x, x = wr := ⟨_, rfl⟩
    have hzo : w.heap.size + 1 ≤ wo.heap.size := by have := HB.out.size; simpa using this
    by_cases hlt : k < n
    · have hki : (k : Int) < (n : Int) := by omega
      have hrow := HO.out.rowOf k (by omega)
      rw [M.end_row _ _ _ _ (Nat.lt_succ_self k), M.fkL_len] at hrow
      obtain ⟨g, ra, rc, rfl, hcr, hro⟩ := hrow
      have HI := Lib.hid hro.ints'
      have HLB : Hid (∀ i, i < n → M.Big ((M.fkL (M.ent R) n k).getD i 0)) := fun i hi => by
        rw [M.fkL_at _ _ _ _ hi]
        exact M.big_sm (M.Fk_sm HSm.out k i hi) (by omega)
      have HBw := Lib.hid ((b_alloc w (.cells #[.int .i64 0, .int .i64 0] 27)).trans (HB.out.mono (by simp)))
      clear hro
      go_wp2_with fail
      refine (sApplyB _ _ _ R _ _ _ _ _ (HMt.out.below HBw.out) HI.out HS.out.2.1 HRB.out HLB.out n2 n1 n2).mono ?_
      rintro e w3 ⟨b3, c3, rfl, ho3, hb3⟩
      rw [M.end_next HRn.out] at ho3
      have HR3 := Lib.hid ho3
      have HB3 := Lib.hid hb3
      have hml : (M.endM (M.ent R) n (k + 1)).length = k + 1 := M.mk_length _ _ _
      have HML := Lib.hid hml
      have HAS : Hid (M.endM (M.ent R) n (k + 1) ++ [M.fkL (M.ent R) n (k + 1)] = M.endM (M.ent R) n (k + 1 + 1)) := (M.mk_snoc _ _ _).symm
      clear ho3 hb3 hml hcr
      go_wp2_with (at_builtin; refine appendRow wo _ rfl (.tmp 24) (.tmp 31) rfl (w.heap.size + 1) _ _ _ _ (k + 1) HML.out rfl HO.out HB3.out HR3.out rfl (by rw [HML.out]; omega) hzo ?_)
      intro b4 c4 w4 hO4 hb4 hkeep
      rw [HAS.out] at hO4
      have HO4 := Lib.hid hO4
      have HB4 := Lib.hid ((HB.out.trans (HB3.out.mono hzo)).trans hb4)
      clear hO4 hb4 hkeep
      go_wp2
      go_roundw
      case rel => exact ⟨k + 1, _, _, by omega, by go_num, rfl, HO4, HB4⟩
      case measure => simp [intOf]; omega
    · obtain rfl : n = k := by omega
      have HTM := Lib.hid HO.out.mat
      have HTR : Hid (Rect (M.endM (M.ent R) n (n + 1)) (n + 1) n) := rect_mk _ _ _
      obtain ⟨d, od, -, -, -, -, rfl, -⟩ := HTM.out.rect_ent HTR.out n 0 (by omega) (by omega)
      clear HO
      go_wp2
      go_loopw [8, 9, 10, 11, 12, 13] (fun fd i _ _ _ _ wr => ∃ (v : Nat) (fb : Bool), v ≤ n ∧ i = .int .i64 v ∧ fd = .bool fb ∧ Hid (fb = decide (1 ≤ (M.tbL (M.ent R) n v).length)) ∧ Hid (RBox wo wr (M.maxR (M.tbL (M.ent R) n v)))) (fun _ i _ _ _ _ _ => n - (intOf i).toNat)
      case atStart => exact ⟨0, false, Nat.zero_le _, rfl, rfl, rfl, RBox.new wo⟩
      case round =>
        obtain ⟨v, fb, hv, rfl, rfl, HF, HBx⟩ := hrel
        obtain ⟨wv, rfl⟩ : ∃ x, x = wr := ⟨_, rfl⟩
        have hzv := HBx.out.2.1
        by_cases hvl : v < n
        · have hvi : (v : Int) < (n : Int) := by omega
          obtain ⟨d2, od2, rd, rdo, rc4, y, hdd, hy, c41, c42⟩ := (HTM.out.below HBx.out.1).rect_ent HTR.out n v (by omega) hvl
          injection hdd with hdd
          injection hdd with e1 e2
          subst e1 e2
          have HY : Hid (y = M.Fk (M.ent R) n n v) := hy.trans (M.ent_mk _ _ _ _ _ (Nat.lt_succ_self n) hvl)
          clear hy
          by_cases hyb : y = -1000000000000000
          · have hyb2 : (y == -1000000000000000) = true := by simp [hyb]
            have HNe : Hid (M.tbL (M.ent R) n (v + 1) = M.tbL (M.ent R) n v) := by show _ = _; rw [M.tbL_next, if_pos (HY.out.symm.trans hyb), List.append_nil]
            clear hyb
            go_wp2
            go_roundw
            case rel => exact ⟨v + 1, fb, by omega, by go_num, rfl, by rw [HNe.out]; exact HF, by rw [HNe.out]; exact HBx⟩
            case measure => simp [intOf]; omega
          · have hyb2 : (y == -1000000000000000) = false := by simp [hyb]
            have HYB := Lib.hid hyb
            have HNe : Hid (M.tbL (M.ent R) n (v + 1) = M.tbL (M.ent R) n v ++ [M.minR (M.slL (M.ent R) n v n)]) := by show _ = _; rw [M.tbL_next, if_neg (fun q => hyb (HY.out.trans q))]
            clear hyb
            go_wp2
            clear c41 c42
            go_loopw [11, 12, 13] (fun sm i _ wr => ∃ (k : Nat) (sb : Bool), k ≤ n ∧ i = .int .i64 k ∧ sm = .bool sb ∧ Hid (sb = decide (1 ≤ k)) ∧ Hid (RBox wv wr (M.minR (M.slL (M.ent R) n v k)))) (fun _ i _ _ => n - (intOf i).toNat)
            case atStart => exact ⟨0, false, Nat.zero_le _, rfl, rfl, rfl, RBox.new wv⟩
            case round =>
              obtain ⟨k, sb, hk, rfl, rfl, HSb, HLx⟩ := hrel
              obtain ⟨wk, rfl⟩ : ∃ x, x = wr := ⟨_, rfl⟩
              have hzk := HLx.out.2.1
              have HBk := Lib.hid (HBx.out.1.trans (HLx.out.1.mono (by omega)))
              by_cases hkl : k < n
              · have hkk : (k : Int) < (n : Int) := by omega
                obtain ⟨d2, od2, rd, rdo, rc4, y2, hdd, hy, c41, c42⟩ := (HTM.out.below HBk.out).rect_ent HTR.out n v (by omega) hvl
                injection hdd with hdd
                injection hdd with e1 e2
                subst e1 e2
                obtain rfl : y = y2 := HY.out.trans (hy.trans (M.ent_mk _ _ _ _ _ (Nat.lt_succ_self n) hvl)).symm
                clear hy
                obtain ⟨d2, od2, rk, rko, rk4, z, hdd, hz, k41, k42⟩ := (HTM.out.below HBk.out).rect_ent HTR.out k v (by omega) hvl
                injection hdd with hdd
                injection hdd with e1 e2
                subst e1 e2
                have hze : z = M.Fk (M.ent R) n k v := hz.trans (M.ent_mk _ _ _ _ _ (by omega) hvl)
                have hzb : z ≠ -1000000000000000 := by
                  rw [hze]
                  exact M.Fk_less HSm.out (m := n) (by omega) hvl (by omega) (fun q => HYB.out (HY.out.trans q))
                have hzb2 : (z == -1000000000000000) = false := by simp [hzb]
                have hb1 : -10000000 ≤ z ∧ z ≤ 10000000 := by
                  have := M.Fk_sm HSm.out k v hvl
                  rw [← hze] at this
                  rcases this with q | q
                  · exact absurd q hzb
                  · omega
                have hb2 : -10000000 ≤ y ∧ y ≤ 10000000 := by
                  have := M.Fk_sm HSm.out n v hvl
                  rw [← HY.out] at this
                  rcases this with q | q
                  · exact absurd q HYB.out
                  · omega
                obtain ⟨z1, z2⟩ := hb1
                obtain ⟨y1, y2⟩ := hb2
                have e : M.slL (M.ent R) n v (k + 1) = M.slL (M.ent R) n v k ++ [M.meanR (y - z) ((n : Int) - k)] := by rw [M.slL_next, ← HY.out, ← hze]
                have HNk := Lib.hid e
                have HLk := Lib.hid (M.slL_len (M.ent R) n v k)
                clear e hz hze hzb
                have ew : IntKind.i64.wrap (y - z) = y - z := IntWalk.i64_in _ (by omega)
                have ew2 : IntKind.i64.wrap ((n : Int) - k) = (n : Int) - k := IntWalk.i64_in _ (by omega)
                have l1 : d < wk.heap.size := cell_block c41
                have l2 : rd < wk.heap.size := cell_block c42
                have l3 : rk < wk.heap.size := cell_block k42
                have hnn : (n : Int) < (n : Int) + 1 := by omega
                have hkn : (k : Int) < (n : Int) + 1 := by omega
                have HKp : Hid (∀ W, Below wk.heap.size wk W → W.cell? ⟨d, od + n, none⟩ = some (.slice (some ⟨rd, rdo, none⟩) n rc4) ∧ W.cell? ⟨rd, rdo + v, none⟩ = some (.int .i64 y) ∧ W.cell? ⟨d, od + k, none⟩ = some (.slice (some ⟨rk, rko, none⟩) n rk4) ∧ W.cell? ⟨rk, rko + v, none⟩ = some (.int .i64 z) ∧ Below wk.heap.size wk W) := fun W hb => keepT (w1 := wk) ⟨c41, c42, k41, k42, Below.refl _ _⟩ l1 l2 l1 l3 hb
                go_wp2
                go_region_held3 (fun w' => w'.cell? ⟨d, od + n, none⟩ = some (.slice (some ⟨rd, rdo, none⟩) n rc4) ∧ w'.cell? ⟨rd, rdo + v, none⟩ = some (.int .i64 y) ∧ w'.cell? ⟨d, od + k, none⟩ = some (.slice (some ⟨rk, rko, none⟩) n rk4) ∧ w'.cell? ⟨rk, rko + v, none⟩ = some (.int .i64 z) ∧ Below wk.heap.size wk w')
                  (first | exact HKp.out _ (Below.refl _ _).drew | exact HKp.out _ (b_alloc _ _).drew | exact HKp.out _ ((Below.refl _ _).drew.alloc (Nat.le_refl _) _) | exact HKp.out _ (bnext (Below.refl _ _).drew hb2) | exact HKp.out _ (bnext (b_alloc _ _).drew hb2) | exact HKp.out _ (bnext ((Below.refl _ _).drew.alloc (Nat.le_refl _) _) hb2) | exact HKp.out _ ((bnext (Below.refl _ _).drew hb2).alloc (bnext (Below.refl _ _).drew hb2).size _) | exact HKp.out _ ((bnext (b_alloc _ _).drew hb2).alloc (bnext (b_alloc _ _).drew hb2).size _) | exact HKp.out _ ((bnext ((Below.refl _ _).drew.alloc (Nat.le_refl _) _) hb2).alloc (bnext ((Below.refl _ _).drew.alloc (Nat.le_refl _) _) hb2).size _) | exact HKp.out _ (((bnext (Below.refl _ _).drew hb2).setCell (Nat.le_refl _) _).setCell (Nat.le_refl _) _) | exact HKp.out _ (((bnext (b_alloc _ _).drew hb2).setCell (Nat.le_refl _) _).setCell (Nat.le_refl _) _) | exact HKp.out _ (((bnext ((Below.refl _ _).drew.alloc (Nat.le_refl _) _) hb2).setCell (Nat.le_refl _) _).setCell (Nat.le_refl _) _))
                  (first | (go_at_call 85; refine (sRatio _ _ _ (by omega) (by omega) (by omega) (by omega) (by omega)).mono ?_; rintro e w2 ⟨rfl, hb2⟩; first | (have hh := freshA hb2; obtain ⟨ez, e0, e1, f0, f1⟩ := hh) | (have hh := freshB hb2; obtain ⟨ez, e0, e1, f0, f1⟩ := hh) | skip))
                · generalize hwz : World.alloc w2 _ = wz
                  have hBz : Below wk.heap.size wk wz := by
                    rw [← hwz]
                    first
                      | exact (bnext (Below.refl _ _).drew hb2).alloc (bnext (Below.refl _ _).drew hb2).size _
                      | exact (bnext (b_alloc _ _).drew hb2).alloc (bnext (b_alloc _ _).drew hb2).size _
                  have x0 : wz.cell? ⟨w2.heap.size, 0, none⟩ = some (.int .i64 (M.ratN (y - z) ((n : Int) - k))) := by rw [← hwz]; simp [go_sem]
                  have x1 : wz.cell? ⟨w2.heap.size, 1, none⟩ = some (.int .i64 (M.ratD (y - z) ((n : Int) - k))) := by rw [← hwz]; simp [go_sem]
                  have hbxl : wk.heap.size ≤ w2.heap.size := by have := hb2.size; simp at this; omega
                  have hbxw : w2.heap.size < wz.heap.size := by rw [← hwz]; simp
                  clear hwz hb2
                  generalize w2.heap.size = bx at *
                  clear c41 c42 k41 k42
                  clear ‹_ ∧ _ ∧ _ ∧ _ ∧ Below _ _ _›
                  have HBz := Lib.hid hBz
                  have HLz : Hid (RBox wv wz (M.minR (M.slL (M.ent R) n v k))) := HLx.out.keep (hBz.mono (by omega))
                  have hzz := hBz.size
                  obtain ⟨-, -, b0, b1, f0, f1⟩ := HLz.out
                  have hpe : ((M.ratN (y - z) ((n : Int) - k)), (M.ratD (y - z) ((n : Int) - k))) = M.meanR (y - z) ((n : Int) - k) := rfl
                  have HPm : Hid (M.meanR (y - z) ((n : Int) - k) ∈ M.slL (M.ent R) n v (k + 1)) := by show _ ∈ _; rw [HNk.out]; simp
                  have HPb : Hid (M.Rb (M.meanR (y - z) ((n : Int) - k))) := by
                    have := M.slL_bd n2 HSm.out hvl (fun q => HYB.out (HY.out.trans q)) (show k + 1 ≤ n by omega) HPm.out
                    exact ⟨by omega, by omega, by omega, by omega⟩
                  generalize M.ratN (y - z) ((n : Int) - k) = p1 at *
                  generalize M.ratD (y - z) ((n : Int) - k) = p2 at *
                  rw [← hpe] at HPb HNk HPm
                  clear hpe
                  by_cases hk0 : k = 0
                  · obtain rfl : sb = false := by rw [HSb.out, hk0]; rfl
                    have HN : Hid (M.minR (M.slL (M.ent R) n v (k + 1)) = (p1, p2)) := by
                      show _ = _
                      have : M.slL (M.ent R) n v k = [] := by rw [hk0]; rfl
                      rw [HNk.out, this]; rfl
                    clear hk0 hBz
                    go_wp2
                    go_roundw
                    case rel => exact ⟨k + 1, true, by omega, by go_num, rfl, by show _ = _; simp, by rw [HN.out]; exact HLz.out.set (p1, p2)⟩
                    case measure => simp [intOf]; omega
                  · obtain rfl : sb = true := by rw [HSb.out]; simp; omega
                    have hlk := HLk.out
                    have HLm : Hid (M.minR (M.slL (M.ent R) n v k) ∈ M.slL (M.ent R) n v k) := (M.minR_is (l := M.slL (M.ent R) n v k) (by omega) (fun p hp => by have := M.slL_bd n2 HSm.out hvl (fun q => HYB.out (HY.out.trans q)) (show k ≤ n by omega) hp; omega)).1
                    have HLb : Hid (M.Rb (M.minR (M.slL (M.ent R) n v k))) := by
                      have := M.slL_bd n2 HSm.out hvl (fun q => HYB.out (HY.out.trans q)) (show k ≤ n by omega) HLm.out
                      exact ⟨by omega, by omega, by omega, by omega⟩
                    have hmn : M.minR (M.slL (M.ent R) n v (k + 1)) = M.mn (M.minR (M.slL (M.ent R) n v k)) (p1, p2) := by rw [HNk.out]; exact M.minR_snoc (by omega) _
                    generalize M.minR (M.slL (M.ent R) n v k) = q at *
                    obtain ⟨q1, q2⟩ := q
                    obtain ⟨u, hu⟩ : ∃ u, u = M.cmpZ (p1 * q2) (q1 * p2) := ⟨_, rfl⟩
                    have HCu : Hid (∀ W : World, Calls Try.prog 86 #[.agg #[.int .i64 p1, .int .i64 p2], .agg #[.int .i64 q1, .int .i64 q2]] W fun e w' => e = .returned (.int .i64 u) ∧ Below W.heap.size W w') := fun W => sCompareB (p1, p2) (q1, q2) u W HPb.out HLb.out hu.symm
                    have hul : u < 0 ↔ p1 * q2 < q1 * p2 := by rw [hu]; unfold M.cmpZ; split <;> (try split) <;> omega
                    unfold M.mn M.less at hmn
                    clear hu hBz hlk hk0
                    by_cases hun : u < 0
                    · have HN : Hid (M.minR (M.slL (M.ent R) n v (k + 1)) = (p1, p2)) := by show _ = _; rw [hmn, decide_eq_true (show (p1, p2).1 * (q1, q2).2 < (q1, q2).1 * (p1, p2).2 from hul.1 hun), if_pos rfl]
                      have hun2 : decide (u < 0) = true := by simpa using hun
                      clear hmn hul
                      go_wp2_with (go_at_call 86; refine (HCu.out _).mono ?_; rintro e w5 ⟨rfl, hb5⟩; have HL5 := Lib.hid (HLz.out.keep (hb5.mono (by have := HLz.out.2.1; omega))); have y0 := ck x0 hb5; have y1 := ck x1 hb5; obtain ⟨-, -, k0, k1, g0, g1⟩ := HL5.out)
                      go_roundw
                      case rel => exact ⟨k + 1, true, by omega, by go_num, rfl, by show _ = _; simp, by rw [HN.out]; exact HL5.out.set (p1, p2)⟩
                      case measure => simp [intOf]; omega
                    · have HN : Hid (M.minR (M.slL (M.ent R) n v (k + 1)) = (q1, q2)) := by show _ = _; rw [hmn, decide_eq_false (show ¬ (p1, p2).1 * (q1, q2).2 < (q1, q2).1 * (p1, p2).2 from fun h => hun (hul.2 h))]; rfl
                      have hun2 : decide (u < 0) = false := by simpa using hun
                      clear hmn hul
                      go_wp2_with (go_at_call 86; refine (HCu.out _).mono ?_; rintro e w5 ⟨rfl, hb5⟩)
                      go_roundw
                      case rel => exact ⟨k + 1, true, by omega, by go_num, rfl, by show _ = _; simp, by rw [HN.out]; exact HLz.out.keep (hb5.mono (by have := HLz.out.2.1; omega))⟩
                      case measure => simp [intOf]; omega
                · generalize hwz : World.setCell (World.setCell _ _ _) _ _ = wz
                  have hBz : Below wk.heap.size wk wz := by
                    rw [← hwz]
                    first
                      | exact (((bnext (b_alloc _ _).drew hb2).setCell (Nat.le_refl _) _).setCell (Nat.le_refl _) _)
                      | exact (((bnext ((Below.refl _ _).drew.alloc (Nat.le_refl _) _) hb2).setCell (Nat.le_refl _) _).setCell (Nat.le_refl _) _)
                  have x0 : wz.cell? ⟨wk.heap.size, 0, none⟩ = some (.int .i64 (M.ratN (y - z) ((n : Int) - k))) := by rw [← hwz]; simp [go_sem, e0, e1, f0, f1]
                  have x1 : wz.cell? ⟨wk.heap.size, 1, none⟩ = some (.int .i64 (M.ratD (y - z) ((n : Int) - k))) := by rw [← hwz]; simp [go_sem, e0, e1, f0, f1]
                  have hbxl : wk.heap.size ≤ wk.heap.size := Nat.le_refl _
                  have hbxw : wk.heap.size < wz.heap.size := by rw [← hwz]; simpa using ez
                  clear hwz hb2 e0 e1 f0 f1 ez
                  clear c41 c42 k41 k42
                  clear ‹_ ∧ _ ∧ _ ∧ _ ∧ Below _ _ _›
                  have HBz := Lib.hid hBz
                  have HLz : Hid (RBox wv wz (M.minR (M.slL (M.ent R) n v k))) := HLx.out.keep (hBz.mono (by omega))
                  have hzz := hBz.size
                  obtain ⟨-, -, b0, b1, f0, f1⟩ := HLz.out
                  have hpe : ((M.ratN (y - z) ((n : Int) - k)), (M.ratD (y - z) ((n : Int) - k))) = M.meanR (y - z) ((n : Int) - k) := rfl
                  have HPm : Hid (M.meanR (y - z) ((n : Int) - k) ∈ M.slL (M.ent R) n v (k + 1)) := by show _ ∈ _; rw [HNk.out]; simp
                  have HPb : Hid (M.Rb (M.meanR (y - z) ((n : Int) - k))) := by
                    have := M.slL_bd n2 HSm.out hvl (fun q => HYB.out (HY.out.trans q)) (show k + 1 ≤ n by omega) HPm.out
                    exact ⟨by omega, by omega, by omega, by omega⟩
                  generalize M.ratN (y - z) ((n : Int) - k) = p1 at *
                  generalize M.ratD (y - z) ((n : Int) - k) = p2 at *
                  rw [← hpe] at HPb HNk HPm
                  clear hpe
                  by_cases hk0 : k = 0
                  · obtain rfl : sb = false := by rw [HSb.out, hk0]; rfl
                    have HN : Hid (M.minR (M.slL (M.ent R) n v (k + 1)) = (p1, p2)) := by
                      show _ = _
                      have : M.slL (M.ent R) n v k = [] := by rw [hk0]; rfl
                      rw [HNk.out, this]; rfl
                    clear hk0 hBz
                    go_wp2
                    go_roundw
                    case rel => exact ⟨k + 1, true, by omega, by go_num, rfl, by show _ = _; simp, by rw [HN.out]; exact HLz.out.set (p1, p2)⟩
                    case measure => simp [intOf]; omega
                  · obtain rfl : sb = true := by rw [HSb.out]; simp; omega
                    have hlk := HLk.out
                    have HLm : Hid (M.minR (M.slL (M.ent R) n v k) ∈ M.slL (M.ent R) n v k) := (M.minR_is (l := M.slL (M.ent R) n v k) (by omega) (fun p hp => by have := M.slL_bd n2 HSm.out hvl (fun q => HYB.out (HY.out.trans q)) (show k ≤ n by omega) hp; omega)).1
                    have HLb : Hid (M.Rb (M.minR (M.slL (M.ent R) n v k))) := by
                      have := M.slL_bd n2 HSm.out hvl (fun q => HYB.out (HY.out.trans q)) (show k ≤ n by omega) HLm.out
                      exact ⟨by omega, by omega, by omega, by omega⟩
                    have hmn : M.minR (M.slL (M.ent R) n v (k + 1)) = M.mn (M.minR (M.slL (M.ent R) n v k)) (p1, p2) := by rw [HNk.out]; exact M.minR_snoc (by omega) _
                    generalize M.minR (M.slL (M.ent R) n v k) = q at *
                    obtain ⟨q1, q2⟩ := q
                    obtain ⟨u, hu⟩ : ∃ u, u = M.cmpZ (p1 * q2) (q1 * p2) := ⟨_, rfl⟩
                    have HCu : Hid (∀ W : World, Calls Try.prog 86 #[.agg #[.int .i64 p1, .int .i64 p2], .agg #[.int .i64 q1, .int .i64 q2]] W fun e w' => e = .returned (.int .i64 u) ∧ Below W.heap.size W w') := fun W => sCompareB (p1, p2) (q1, q2) u W HPb.out HLb.out hu.symm
                    have hul : u < 0 ↔ p1 * q2 < q1 * p2 := by rw [hu]; unfold M.cmpZ; split <;> (try split) <;> omega
                    unfold M.mn M.less at hmn
                    clear hu hBz hlk hk0
                    by_cases hun : u < 0
                    · have HN : Hid (M.minR (M.slL (M.ent R) n v (k + 1)) = (p1, p2)) := by show _ = _; rw [hmn, decide_eq_true (show (p1, p2).1 * (q1, q2).2 < (q1, q2).1 * (p1, p2).2 from hul.1 hun), if_pos rfl]
                      have hun2 : decide (u < 0) = true := by simpa using hun
                      clear hmn hul
                      go_wp2_with (go_at_call 86; refine (HCu.out _).mono ?_; rintro e w5 ⟨rfl, hb5⟩; have HL5 := Lib.hid (HLz.out.keep (hb5.mono (by have := HLz.out.2.1; omega))); have y0 := ck x0 hb5; have y1 := ck x1 hb5; obtain ⟨-, -, k0, k1, g0, g1⟩ := HL5.out)
                      go_roundw
                      case rel => exact ⟨k + 1, true, by omega, by go_num, rfl, by show _ = _; simp, by rw [HN.out]; exact HL5.out.set (p1, p2)⟩
                      case measure => simp [intOf]; omega
                    · have HN : Hid (M.minR (M.slL (M.ent R) n v (k + 1)) = (q1, q2)) := by show _ = _; rw [hmn, decide_eq_false (show ¬ (p1, p2).1 * (q1, q2).2 < (q1, q2).1 * (p1, p2).2 from fun h => hun (hul.2 h))]; rfl
                      have hun2 : decide (u < 0) = false := by simpa using hun
                      clear hmn hul
                      go_wp2_with (go_at_call 86; refine (HCu.out _).mono ?_; rintro e w5 ⟨rfl, hb5⟩)
                      go_roundw
                      case rel => exact ⟨k + 1, true, by omega, by go_num, rfl, by show _ = _; simp, by rw [HN.out]; exact HLz.out.keep (hb5.mono (by have := HLz.out.2.1; omega))⟩
                      case measure => simp [intOf]; omega
              · obtain rfl : n = k := by omega
                have hsl := M.slL_len (M.ent R) n v n
                obtain rfl : sb = true := by rw [HSb.out]; simp; omega
                have HOx : Hid (RBox wo wk (M.maxR (M.tbL (M.ent R) n v))) := HBx.out.keep (HLx.out.1.mono (by omega))
                have hMm : M.minR (M.slL (M.ent R) n v n) ∈ M.slL (M.ent R) n v n := (M.minR_is (l := M.slL (M.ent R) n v n) (by omega) (fun p hp => by have := M.slL_bd n2 HSm.out hvl (fun q => HYB.out (HY.out.trans q)) (Nat.le_refl n) hp; omega)).1
                have HPb : Hid (M.Rb (M.minR (M.slL (M.ent R) n v n))) := by
                  have := M.slL_bd n2 HSm.out hvl (fun q => HYB.out (HY.out.trans q)) (Nat.le_refl n) hMm
                  exact ⟨by omega, by omega, by omega, by omega⟩
                clear hMm hsl
                generalize M.minR (M.slL (M.ent R) n v n) = p at *
                obtain ⟨p1, p2⟩ := p
                obtain ⟨-, -, x0, x1, -, -⟩ := HLx.out
                obtain ⟨-, hwz, b0, b1, f0, f1⟩ := HOx.out
                cases fb with
                | false =>
                  have HT0 : Hid (M.tbL (M.ent R) n v = []) := by
                    have h := HF.out
                    show _ = _
                    cases e : M.tbL (M.ent R) n v with
                    | nil => rfl
                    | cons x l => rw [e] at h; simp at h
                  have HN : Hid (M.maxR (M.tbL (M.ent R) n (v + 1)) = (p1, p2)) := by show _ = _; rw [HNe.out, HT0.out]; rfl
                  go_wp2
                  go_roundw
                  case rel => exact ⟨v + 1, true, by omega, by go_num, rfl, by show _ = _; rw [HNe.out]; simp, by rw [HN.out]; exact HOx.out.set (p1, p2)⟩
                  case measure => simp [intOf]; omega
                | true =>
                  have hge : 1 ≤ (M.tbL (M.ent R) n v).length := by have h := HF.out; simpa using h.symm
                  have hMm : M.maxR (M.tbL (M.ent R) n v) ∈ M.tbL (M.ent R) n v := (M.maxR_is (l := M.tbL (M.ent R) n v) hge (fun p hp => by have := M.tbL_bd n2 HSm.out hv hp; omega)).1
                  have HQb : Hid (M.Rb (M.maxR (M.tbL (M.ent R) n v))) := by
                    have := M.tbL_bd n2 HSm.out hv hMm
                    exact ⟨by omega, by omega, by omega, by omega⟩
                  have hmx : M.maxR (M.tbL (M.ent R) n (v + 1)) = M.mx (M.maxR (M.tbL (M.ent R) n v)) (p1, p2) := by rw [HNe.out]; exact M.maxR_snoc hge _
                  clear hMm hge
                  generalize M.maxR (M.tbL (M.ent R) n v) = q at *
                  obtain ⟨q1, q2⟩ := q
                  obtain ⟨u, hu⟩ : ∃ u, u = M.cmpZ (p1 * q2) (q1 * p2) := ⟨_, rfl⟩
                  have HCu : Hid (∀ W : World, Calls Try.prog 86 #[.agg #[.int .i64 p1, .int .i64 p2], .agg #[.int .i64 q1, .int .i64 q2]] W fun e w' => e = .returned (.int .i64 u) ∧ Below W.heap.size W w') := fun W => sCompareB (p1, p2) (q1, q2) u W HPb.out HQb.out hu.symm
                  have hul : 0 < u ↔ q1 * p2 < p1 * q2 := by rw [hu]; unfold M.cmpZ; split <;> (try split) <;> omega
                  unfold M.mx M.less at hmx
                  clear hu
                  by_cases hun : 0 < u
                  · have HN : Hid (M.maxR (M.tbL (M.ent R) n (v + 1)) = (p1, p2)) := by show _ = _; rw [hmx, decide_eq_true (show (q1, q2).1 * (p1, p2).2 < (p1, p2).1 * (q1, q2).2 from hul.1 hun), if_pos rfl]
                    clear hmx hul
                    go_wp2_with (go_at_call 86; refine (HCu.out _).mono ?_; rintro e w5 ⟨rfl, hb5⟩; have HL5 := Lib.hid (HOx.out.keep (hb5.mono (by have := HOx.out.2.1; omega))); have y0 := ck x0 hb5; have y1 := ck x1 hb5; obtain ⟨-, -, k0, k1, g0, g1⟩ := HL5.out)
                    go_roundw
                    case rel => exact ⟨v + 1, true, by omega, by go_num, rfl, by show _ = _; rw [HNe.out]; simp, by rw [HN.out]; exact HL5.out.set (p1, p2)⟩
                    case measure => simp [intOf]; omega
                  · have HN : Hid (M.maxR (M.tbL (M.ent R) n (v + 1)) = (q1, q2)) := by show _ = _; rw [hmx, decide_eq_false (show ¬ (q1, q2).1 * (p1, p2).2 < (p1, p2).1 * (q1, q2).2 from fun h => hun (hul.2 h))]; rfl
                    clear hmx hul
                    go_wp2_with (go_at_call 86; refine (HCu.out _).mono ?_; rintro e w5 ⟨rfl, hb5⟩; have HL5 := Lib.hid (HOx.out.keep (hb5.mono (by have := HOx.out.2.1; omega))))
                    go_roundw
                    case rel => exact ⟨v + 1, true, by omega, by go_num, rfl, by show _ = _; rw [HNe.out]; simp, by rw [HN.out]; exact HL5.out⟩
                    case measure => simp [intOf]; omega
        · obtain rfl : v = n := by omega
          have HFe : Hid (fb = M.hasCyc (M.ent R) v) := by show _ = _; rw [HF.out]; exact M.tbL_has v
          have HRe : Hid (M.maxR (M.tbL (M.ent R) v v) = if M.hasCyc (M.ent R) v then M.tabR (M.ent R) v else (0, 0)) := by
            show _ = _
            cases e : M.hasCyc (M.ent R) v with
            | true => rfl
            | false =>
              have h := M.tbL_has (A := M.ent R) v
              rw [e] at h
              have : M.tbL (M.ent R) v v = [] := by
                cases e2 : M.tbL (M.ent R) v v with
                | nil => rfl
                | cons x l => rw [e2] at h; simp at h
              rw [this]; rfl
          generalize M.maxR (M.tbL (M.ent R) v v) = q at *
          obtain ⟨q1, q2⟩ := q
          obtain rfl : fb = Fl := HFe.out.trans HFF.out.symm
          obtain ⟨rfl, rfl⟩ : q1 = Q1 ∧ q2 = Q2 := by have e := HRe.out.trans HQQ.out.symm; exact ⟨congrArg Prod.fst e, congrArg Prod.snd e⟩
          clear HRe HQQ HFe HFF
          obtain ⟨-, -, b0, b1, -, -⟩ := HBx.out
          have hbw : Below (w.heap.size + 1) (w.alloc (.cells #[.int .i64 0, .int .i64 0] 27)) wv := HB.out.trans (HBx.out.1.mono hzo)
          have hbw2 : Below (w.alloc (.cells #[.int .i64 0, .int .i64 0] 27)).heap.size (w.alloc (.cells #[.int .i64 0, .int .i64 0] 27)) wv := by simpa using hbw
          obtain ⟨hcc, hff⟩ := bcell hbw2
          have z1 : w.heap.size < wv.heap.size := by omega
          have HBw := Lib.hid hbw2
          clear hbw hbw2
          go_wp2
          exact bodyPost_ret (v := .tuple #[.agg #[.int .i64 q1, .int .i64 q2], .bool fb]) (by simp [results, Try.results53, go_sem, z1, hcc]) rfl ⟨rfl, bel1s HBw.out⟩
end Go.Proofs.Ytnnajlehhfmjfaa.V

namespace Go.Proofs.Ytnnajlehhfmjfaa.V
open Go.RowKit
set_option maxRecDepth 100000 in
set_option maxHeartbeats 4000000 in
theorem sTableMean (a : Option Addr) (n cap : Nat) (R : List (List Int)) (w : World) (h : Mat w a n R) :
    Calls Try.prog 18 #[.slice a n cap] w fun e w' => e = .returned (.tuple #[.agg #[.int .i64 (M.tabRes R).1.1, .int .i64 (M.tabRes R).1.2], .int .i64 (M.tabRes R).2]) ∧ Below w.heap.size w w' := by
  have HA := Lib.hid h
  have HRn := Lib.hid h.1
  by_cases hs : M.sqB R = true
  · have HS := Lib.hid hs
    have HB0 : ∀ qd, Below (w.alloc (.cells #[.int .i64 0, .int .i64 0] 27)).heap.size (w.alloc (.cells #[.int .i64 0, .int .i64 0] 27)) ((w.alloc (.cells #[.int .i64 0, .int .i64 0] 27)).drewN qd) := fun qd => b_draws _ _
    have HB0 := Lib.hid HB0
    have HA0 : Hid (∀ qd, Mat ((w.alloc (.cells #[.int .i64 0, .int .i64 0] 27)).drewN qd) a n R) := fun qd => HA.out.below ((b_alloc _ _).trans ((HB0.out qd).mono (by simp)))
    by_cases hc : M.hasCyc (M.ent R) n = true
    · obtain ⟨x, hx⟩ : ∃ x, x = M.tabR (M.ent R) n := ⟨_, rfl⟩
      have HNo := Lib.hid hc
      have HX : Hid ((if M.hasCyc (M.ent R) n then M.tabR (M.ent R) n else (0, 0)) = x) := by show _ = _; rw [if_pos hc, hx]
      have HE : Hid (M.tabRes R = M.lim x) := by show _ = _; unfold M.tabRes; rw [if_pos hs, HRn.out, if_pos hc, hx]
      clear h hs hc hx
      obtain ⟨x1, x2⟩ := x
      go_enter Try.func18, Try.ntmps18
      go_wp2_with fail
      refine (sSquare_b _ _ _ R _ true HS.out (HA.out.below (b_alloc _ _))).mono ?_
      rintro e w' ⟨rfl, qd, rfl⟩
      go_wp2_with fail
      refine (sTab _ _ _ R _ (HA0.out qd) HS.out).mono ?_
      rintro e w0 ⟨rfl, hb0⟩
      rw [HX.out, HNo.out]
      have hb1 := (HB0.out qd).trans (hb0.mono (HB0.out qd).size)
      have hz := hb1.size
      simp at hz
      obtain ⟨hcc, hff⟩ := bcell hb1
      have z1 : w.heap.size < w0.heap.size := by omega
      clear hb0
      go_wp2_with fail
      refine (sResultR _ _ _).mono ?_
      rintro e w2 ⟨rfl, hb2⟩
      obtain ⟨r, hr⟩ : ∃ r, r = M.lim (x1, x2) := ⟨_, rfl⟩
      rw [← hr] at HE ⊢
      clear hr
      unfold retQ
      obtain ⟨⟨r1, r2⟩, r3⟩ := r
      have hbb := hb1.trans (((b_alloc w0 _).trans (hb2.mono (by simp))).mono hb1.size)
      have hz2 := hbb.size
      simp at hz2
      obtain ⟨hc2, hf2⟩ := bcell hbb
      have z2 : w.heap.size < w2.heap.size := by omega
      go_wp2
      exact bodyPost_ret (v := .tuple #[.agg #[.int .i64 r1, .int .i64 r2], .int .i64 r3]) (by simp [results, Try.results18, go_sem, z2, hc2]) rfl ⟨by rw [HE.out], bel1s hbb⟩
    · simp only [Bool.not_eq_true] at hc
      have HNo := Lib.hid hc
      have HX : Hid ((if M.hasCyc (M.ent R) n then M.tabR (M.ent R) n else (0, 0)) = (0, 0)) := by show _ = _; rw [if_neg (by rw [hc]; exact Bool.false_ne_true)]
      have HE : Hid (M.tabRes R = ((0, 0), 4)) := by show _ = _; unfold M.tabRes; rw [if_pos hs, HRn.out, if_neg (by rw [hc]; exact Bool.false_ne_true)]
      clear h hs hc
      go_enter Try.func18, Try.ntmps18
      go_wp2_with fail
      refine (sSquare_b _ _ _ R _ true HS.out (HA.out.below (b_alloc _ _))).mono ?_
      rintro e w' ⟨rfl, qd, rfl⟩
      go_wp2_with fail
      refine (sTab _ _ _ R _ (HA0.out qd) HS.out).mono ?_
      rintro e w1 ⟨rfl, hb0⟩
      rw [HX.out, HNo.out]
      have hb1 := (HB0.out qd).trans (hb0.mono (HB0.out qd).size)
      have hz := hb1.size
      simp at hz
      obtain ⟨hcc, hff⟩ := bcell hb1
      have z1 : w.heap.size < w1.heap.size := by omega
      clear hb0
      go_wp2
      exact bodyPost_ret (v := .tuple #[.agg #[.int .i64 0, .int .i64 0], .int .i64 4]) (by simp [results, Try.results18, go_sem, z1, hcc]) rfl ⟨by rw [HE.out], (bel1s hb1).alloc (bel1s hb1).size _⟩
  · simp only [Bool.not_eq_true] at hs
    have HS := Lib.hid hs
    have HE : Hid (M.tabRes R = ((0, 0), 1)) := by show _ = _; unfold M.tabRes; rw [if_neg (by rw [hs]; exact Bool.false_ne_true)]
    clear h hs
    go_enter Try.func18, Try.ntmps18
    go_wp2_with fail
    refine (sSquare_b _ _ _ R _ false HS.out (HA.out.below (b_alloc _ _))).mono ?_
    rintro e w' ⟨rfl, qd, rfl⟩
    go_wp2
    exact bodyPost_ret (v := .tuple #[.agg #[.int .i64 0, .int .i64 0], .int .i64 1]) (by simp [results, Try.results18, go_sem]) rfl ⟨by rw [HE.out], bel1s (b_draws _ _)⟩
end Go.Proofs.Ytnnajlehhfmjfaa.V
