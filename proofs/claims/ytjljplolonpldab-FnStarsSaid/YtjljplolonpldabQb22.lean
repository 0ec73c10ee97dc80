/- Texts laid together: BstZ, Sct, Star, OpenM. -/
import Derived.Test.YtjljplolonpldabQb13
import Derived.Test.YtjljplolonpldabQb8
import Derived.Test.YtjljplolonpldabQb10
import Derived.Test.YtjljplolonpldabQb16
import Derived.Test.YtjljplolonpldabQb1
import Derived.Test.YtjljplolonpldabQb18
import Derived.Test.YtjljplolonpldabRows
import Derived.Test.YtjljplolonpldabQb2
import Derived.WalkKit
import Derived.ProofKit
import Derived.WalkSmall
import Derived.Deep.QuietTactic
import Derived.BigQuiet
import Derived.BigRegion
import Derived.Deep.Draws
import Derived.Deep.OwnRows
import Derived.Maps.AppendAt
import Derived.Deep.Onto
import Derived.Lib.Hide
import Derived.Deep.Matrix
set_option linter.unusedSimpArgs false
set_option linter.unusedVariables false
set_option linter.unusedSectionVars false
namespace Go.Proofs.Ytjljplolonpldab
namespace M
/-- A list that the search may stand at. -/
def Cyc0 (A : Nat → Nat → Int) (n : Nat) (q : List Int) : Prop :=
  (q = [] ∧ hasCyc A n = false) ∨ (nodesB n q = true ∧ diffB q = true ∧ 1 ≤ q.length ∧ arW A q ≠ -1000000000000000)
def best2 (R : List (List Int)) : List Int := if hasCyc (ent R) R.length then bestCyc R else []
theorem fnd_arW {A : Nat → Nat → Int} {n : Nat} {ov : Int} {q : List Int} (hn : n ≤ 10) (hA : ∀ i j, i < n → j < n → Sm 1000000 (A i j)) (h : Fnd A n ov q) : arW A q ≠ -1000000000000000 := by
  obtain ⟨g1, g2, g3, g4, g5, g6⟩ := h
  have hw : arW A q = wkc A (vx q) (q.length - 1) + A (vx q 0) (lastV q) := times_fin g4 g5
  intro e
  have hs := arW_sm hA g1 g3
  have hl := diffB_len g1 g2
  have h1 := hA (vx q 0) (lastV q) (vx_lt g1 (by omega)) (vx_lt g1 (by omega))
  have h2 := wkc_sm (A := A) (v := vx q) (t := q.length - 1) (fun u hu => sm_wide (hA _ _ (vx_lt g1 (by omega)) (vx_lt g1 (by omega))))
  unfold Sm at h1 h2 hs
  have hk : ((q.length - 1 : Nat) : Int) ≤ 9 := by omega
  generalize ((q.length - 1 : Nat) : Int) = k at *
  omega
theorem cyc0_start {A : Nat → Nat → Int} {n : Nat} (hn : n ≤ 10) (hA : ∀ i j, i < n → j < n → Sm 1000000 (A i j)) : Cyc0 A n (overL A n (-1000000000000000)) := by
  have hW : ∀ i j, i < n → j < n → Sm 1000001000000 (A i j) := fun i j hi hj => sm_wide (hA i j hi hj)
  have h := over_bot hn hA
  by_cases e : (overL A n (-1000000000000000)).length = 0
  · left
    rw [← h]
    exact ⟨List.eq_nil_of_length_eq_zero e, decide_eq_false (fun k => k e)⟩
  · right
    have hf := over_fnd hn hW e
    exact ⟨hf.1, hf.2.1, hf.2.2.1, fnd_arW hn hA hf⟩
theorem cyc0_mean {R : List (List Int)} {q : List Int} (h : nodesB R.length q = true ∧ diffB q = true ∧ 1 ≤ q.length ∧ arW (ent R) q ≠ -1000000000000000) : mean2 R q = (cMean (ent R) q, true) := by
  obtain ⟨h1, h2, h3, h4⟩ := h
  unfold mean2
  rw [if_pos (by unfold cycB; rw [h1, h2, around_arW, decide_eq_true h3, decide_eq_true h4]; rfl)]
  rfl
end M
namespace V
open Go.RowKit
/-- The integers of a slice, as the world has them. -/
def readL (w : World) : Value → List Int
  | .slice (some ⟨b, off, _⟩) n _ => (List.range n).map fun i => match w.cell? ⟨b, off + i, none⟩ with | some (.int _ x) => x | _ => 0
  | _ => []
theorem readL_ints {w : World} {a : Option Addr} {n c : Nat} {l : List Int} (h : Ints .i64 w a n l) : readL w (.slice a n c) = l := by
  obtain ⟨h1, -, h3⟩ := h
  rcases h3 with h3 | ⟨b, off, rfl, -, h3⟩
  · subst h3
    obtain rfl : l = [] := List.eq_nil_of_length_eq_zero h1
    cases a <;> rfl
  · show (List.range n).map _ = l
    apply List.ext_getElem
    · simp [h1]
    · intro k k1 k2
      have e := h3 k (by omega)
      simp only [List.getElem_map, List.getElem_range, e]
      simp [k2]
theorem readL_own {w : World} {B n c : Nat} {a : Option Addr} {l : List Int} (h : Own w B (.slice a n c) l) : readL w (.slice a n c) = l := by
  exact readL_ints h.ints'
theorem own_caps {w : World} {B n c : Nat} {a : Option Addr} {l : List Int} (h : Own w B (.slice a n c) l) : n ≤ c ∧ c ≤ maxLen := by
  have hl := h.len
  obtain ⟨a', c', hv, h1, h2, -⟩ := own_form h
  injection hv with e1 e2 e3
  subst e3
  exact ⟨by omega, h2⟩
set_option maxRecDepth 100000 in
set_option maxHeartbeats 2000000 in
theorem sBest (a : Option Addr) (n cap : Nat) (R : List (List Int)) (w : World) (h : Mat w a n R) (hs : M.sqB R = true) :
    Calls Try.prog 102 #[.slice a n cap] w fun e w' => ∃ b' n' c', e = .returned (.tuple #[.slice b' n' c', .bool (M.hasCyc (M.ent R) n)]) ∧ Own w' w.heap.size (.slice b' n' c') (M.best2 R) ∧ Below w.heap.size w w' := by
  have HS := Lib.hid (sq_of h hs)
  have HMt := Lib.hid h
  have HQ := Lib.hid hs
  have HSm := Lib.hid (sm_of h hs)
  have hRn : R.length = n := h.1
  have HRn := Lib.hid hRn
  obtain ⟨n1, n2⟩ := (sq_of h hs).2.2.2
  clear h hs hRn
  go_enter Try.func102, Try.ntmps102
  go_wp2_with fail
  refine (sOver _ _ _ R (-1000000000000000) _ HS.out).mono ?_
  rintro e w1 ⟨b1, N1, c1, rfl, ho, hb⟩
  have HO1 := Lib.hid ho
  have HB1 := Lib.hid hb
  have HC1 := Lib.hid (M.cyc0_start n2 HSm.out)
  clear ho hb
  go_wp2
  go_loopw [4, 5, 6, 7] (fun v _ _ _ wr => ∃ (b : Option Addr) (N c : Nat) (q : List Int), v = .slice b N c ∧ Hid (Own wr w.heap.size (.slice b N c) q) ∧ Hid (M.Cyc0 (M.ent R) n q) ∧ Hid (Below w.heap.size w wr)) (fun v _ _ _ wr => M.mu (M.ent R) (readL wr v))
  case atStart => exact ⟨b1, N1, c1, _, rfl, HO1, HC1, HB1⟩
  case round =>
    clear HO1 HB1 HC1
    obtain ⟨b, N, c, q, rfl, HO, HC, HB⟩ := hrel
    obtain ⟨wo, rfl⟩ : ∃ x, x = wr := ⟨_, rfl⟩
    have hNl := HO.out.len
    rcases HC.out with ⟨hq0, hno⟩ | hq
    · have hN0 : N = 0 := by rw [hNl, hq0]; rfl
      have HE : Hid (M.best2 R = []) := by show _ = _; unfold M.best2; rw [HRn.out, hno]; rfl
      have HNo := Lib.hid hno
      subst hN0
      clear hq0 hno hNl
      go_wp2
      go_ret2
      refine ⟨none, 0, 0, ?_, ?_, HB.out⟩
      · rw [HNo.out]; rfl
      · rw [HE.out]; exact own_nil _ _
    · have hlen := M.diffB_len hq.1 hq.2.1
      have hN1 : 0 < N := by omega
      have hcap := own_caps HO.out
      have HM2 : Hid (M.mean2 R q = (M.cMean (M.ent R) q, true)) := M.cyc0_mean (by rw [HRn.out]; exact hq)
      have HCap := Lib.hid hcap
      have HNear := Lib.hid (M.cMean_near HSm.out hq.2.2.1 (by omega) hq.1 hq.2.2.2).1
      have HQq := Lib.hid hq
      have HLen := Lib.hid hlen
      have HNl := Lib.hid hNl
      obtain ⟨r, hr⟩ : ∃ r, r = M.cMean (M.ent R) q := ⟨_, rfl⟩
      have HR := Lib.hid hr
      obtain ⟨r1, r2⟩ := r
      have HSh : Hid (∀ i j, i < n → j < n → M.Sm 1000001000000 (M.shf (M.ent R) r1 r2 i j)) := by
        show ∀ i j, _
        have := M.sh_sm HSm.out HNear.out
        rw [← hr] at this; exact this
      have HNe : Hid (M.Near r1 r2) := by show M.Near r1 r2; have := HNear.out; rw [← hr] at this; exact this
      clear hq hlen hcap hr hNl
      go_wp2_with fail
      refine (sMean _ _ _ R _ _ _ q _ (HMt.out.below HB.out) HQ.out HO.out.ints' HCap.out.1 HCap.out.2).mono ?_
      rintro e w2 ⟨rfl, hb2⟩
      rw [HM2.out, ← HR.out]
      have HB2 := Lib.hid hb2
      clear hb2
      go_wp2_with fail
      obtain ⟨wb, hwb⟩ : ∃ x, x = w2.alloc (rbox r1 r2) := ⟨_, rfl⟩
      have HX : Hid (Boxed w2 wb r1 r2) := by show Boxed _ _ _ _; rw [hwb]; exact boxed _ _ _
      have HBw := Lib.hid (HB.out.trans (HB2.out.mono HB.out.size))
      have HBx := Lib.hid (HBw.out.trans (HX.out.below.mono HBw.out.size))
      change Calls _ _ _ (w2.alloc (rbox r1 r2)) _
      rw [← hwb]
      clear hwb
      refine (sShift _ _ _ R r1 r2 _ (HMt.out.below HBx.out) HS.out.2.1 n1 n2 HSm.out HNe.out).mono ?_
      rintro e w3 ⟨b3, c3, rfl, ho, hb⟩
      have HO3 := Lib.hid ho
      have HB3 := Lib.hid hb
      clear ho hb
      obtain ⟨q', hq'⟩ : ∃ q', q' = M.overL (M.shf (M.ent R) r1 r2) n 0 := ⟨_, rfl⟩
      have HOv : Hid (M.overL (M.ent (M.mk n n (M.shf (M.ent R) r1 r2))) n 0 = q') := by
        show _ = _
        rw [hq']; exact M.over_congr n2 HSh.out fun i j hi hj => M.ent_mk _ _ _ _ _ hi hj
      have HQ' := Lib.hid hq'
      clear hq'
      have HSq : ∀ wx b c, OwnM wx wb.heap.size (.slice b n c) (M.mk n n (M.shf (M.ent R) r1 r2)) → Sq wx b n (M.mk n n (M.shf (M.ent R) r1 r2)) := fun wx b c ho =>
        ⟨ho.mat, rect_mk _ _ _, fun i j hi hj => by rw [M.ent_mk _ _ _ _ _ hi hj]; exact HSh.out i j hi hj, n1, n2⟩
      have HSQ := Lib.hid HSq
      clear HSq
      go_wp2_with fail
      refine (sOver _ _ _ (M.mk n n (M.shf (M.ent R) r1 r2)) 0 _ (HSQ.out _ _ _ HO3.out)).mono ?_
      rintro e w4 ⟨b4, N4, c4, rfl, ho, hb⟩
      rw [HOv.out] at ho
      have HO4 := Lib.hid ho
      have HB4 := Lib.hid (HB3.out.trans (hb.mono HB3.out.size))
      obtain ⟨p0, p1⟩ := HX.out.cells HB4.out
      have hN4 := ho.len
      have HN4 := Lib.hid hN4
      clear ho hb
      by_cases h4 : N4 = 0
      · have hfi := M.fnd_is n2 HSm.out HQq.out.1 HQq.out.2.1 HQq.out.2.2.1 HQq.out.2.2.2 (by rw [← HR.out, ← HQ'.out, ← hN4, h4])
        have HNo : Hid (M.hasCyc (M.ent R) n = true) := hfi.1
        have HE : Hid (M.best2 R = M.overL (M.shf (M.ent R) r1 r2) n (-1)) := by
          show _ = _
          unfold M.best2
          rw [HRn.out, hfi.1, if_pos rfl]
          unfold M.bestCyc
          rw [HRn.out, ← hfi.2, ← HR.out]
        clear hfi hN4
        subst h4
        go_wp2_with fail
        refine (sShift _ _ _ R r1 r2 _ (HMt.out.below (HBx.out.trans (HB4.out.mono HBx.out.size))) HS.out.2.1 n1 n2 HSm.out HNe.out).mono ?_
        rintro e w5 ⟨b5, c5, rfl, ho, hb⟩
        have HO5 := Lib.hid ho
        have HB5 := Lib.hid (HB4.out.trans (hb.mono HB4.out.size))
        have HSQ5 : Hid (Sq w5 b5 n (M.mk n n (M.shf (M.ent R) r1 r2))) := HSQ.out _ _ _ (ho.mono HB4.out.size)
        clear ho hb
        go_wp2_with fail
        refine (sOver _ _ _ (M.mk n n (M.shf (M.ent R) r1 r2)) (-1) _ HSQ5.out).mono ?_
        rintro e w6 ⟨b6, N6, c6, rfl, ho, hb⟩
        rw [M.over_congr (A := M.shf (M.ent R) r1 r2) n2 HSh.out fun i j hi hj => M.ent_mk _ _ _ _ _ hi hj, ← HE.out] at ho
        have HB6 := Lib.hid (HBx.out.trans ((HB5.out.trans (hb.mono HB5.out.size)).mono HBx.out.size))
        have HO6 := Lib.hid (ho.mono (Nat.le_trans HBx.out.size HB5.out.size))
        clear ho hb
        go_wp2
        go_ret2
        exact ⟨b6, N6, c6, by rw [HNo.out]; rfl, HO6.out, HB6.out⟩
      · have hf : M.Fnd (M.shf (M.ent R) (M.cMean (M.ent R) q).1 (M.cMean (M.ent R) q).2) n 0 q' := by
          have hne : (M.overL (M.shf (M.ent R) r1 r2) n 0).length ≠ 0 := by rw [← HQ'.out]; omega
          have := M.over_fnd n2 HSh.out hne
          rw [← HQ'.out] at this
          rw [← HR.out]; exact this
        obtain ⟨g1, g2, g3, g4, g5, g6⟩ := M.fnd_up n2 HSm.out HQq.out.1 HQq.out.2.1 HQq.out.2.2.1 HQq.out.2.2.2 hf
        have HC' : Hid (M.Cyc0 (M.ent R) n q') := .inr ⟨g1, g2, g3, g5⟩
        have HL : Hid (M.mu (M.ent R) q' < M.mu (M.ent R) q) := M.mu_lt HQq.out.2.2.1 (Nat.le_trans HLen.out n2) g3 g4 (M.cMean_near HSm.out g3 g4 g1 g5).2.2.1 g6
        have HB6 := Lib.hid (HBx.out.trans (HB4.out.mono HBx.out.size))
        have HO6 := Lib.hid (HO4.out.mono (Nat.le_trans HBx.out.size HB3.out.size))
        have hN4p : 0 < N4 := by omega
        clear hf g1 g2 g3 g4 g5 g6 hN4
        go_wp2
        go_roundw
        case rel => exact ⟨b4, N4, c4, q', rfl, HO6, HC', HB6⟩
        case measure =>
          show M.mu _ (readL w4 (.slice b4 N4 c4)) < M.mu _ (readL wo (.slice b N c))
          rw [readL_own HO6.out, readL_own HO.out]; exact HL.out
end V
end Go.Proofs.Ytjljplolonpldab

namespace Go.Proofs.Ytjljplolonpldab
namespace V
open Go.RowKit
set_option maxRecDepth 100000 in
set_option maxHeartbeats 1000000 in
theorem sCycleMean (a : Option Addr) (n cap : Nat) (R : List (List Int)) (w : World) (h : Mat w a n R) :
    Calls Try.prog 101 #[.slice a n cap] w fun e w' => e = .returned (.tuple #[.agg #[.int .i64 (M.cycMeanRes R).1.1, .int .i64 (M.cycMeanRes R).1.2], .int .i64 (M.cycMeanRes R).2]) ∧ Below w.heap.size w w' := by
  have HA := Lib.hid h
  have HRn := Lib.hid h.1
  by_cases hs : M.sqB R = true
  · have HS := Lib.hid hs
    have HB0 : ∀ qd, Below (w.alloc (.cells #[.int .i64 0, .int .i64 0] 39)).heap.size (w.alloc (.cells #[.int .i64 0, .int .i64 0] 39)) ((w.alloc (.cells #[.int .i64 0, .int .i64 0] 39)).drewN qd) := fun qd => b_draws _ _
    have HB0 := Lib.hid HB0
    have HA0 : Hid (∀ qd, Mat ((w.alloc (.cells #[.int .i64 0, .int .i64 0] 39)).drewN qd) a n R) := fun qd => HA.out.below ((b_alloc _ _).trans ((HB0.out qd).mono (by simp)))
    by_cases hc : M.hasCyc (M.ent R) n = true
    · have hb := M.best_cyc hs (by rw [h.1]; exact hc)
      have HC : Hid (M.mean2 R (M.best2 R) = (M.bestR (M.ent R) n, true)) := by
        show _ = _
        unfold M.best2
        rw [HRn.out, hc, if_pos rfl]
        unfold M.mean2
        rw [if_pos hb.1, hb.2.1, HRn.out]
      have HNo := Lib.hid hc
      obtain ⟨x, hx⟩ : ∃ x, x = M.bestR (M.ent R) n := ⟨_, rfl⟩
      have HE : Hid (M.cycMeanRes R = M.lim x) := by show _ = _; unfold M.cycMeanRes; rw [if_pos hs, HRn.out, if_pos hc, hx]
      rw [← hx] at HC
      clear h hs hc hb hx
      obtain ⟨x1, x2⟩ := x
      go_enter Try.func101, Try.ntmps101
      go_wp2_with fail
      refine (sSquare_b _ _ _ R _ true HS.out (HA.out.below (b_alloc _ _))).mono ?_
      rintro e w' ⟨rfl, qd, rfl⟩
      go_wp2_with fail
      refine (sBest _ _ _ R _ (HA0.out qd) HS.out).mono ?_
      rintro e w0 ⟨b', n', c', rfl, ho, hb0⟩
      rw [HNo.out]
      have HO := Lib.hid ho
      have HBb := Lib.hid ((HB0.out qd).trans (hb0.mono (HB0.out qd).size))
      have HM0 : Hid (Mat w0 a n R) := (HA0.out qd).below hb0
      have HCp := Lib.hid (own_caps ho)
      clear ho hb0
      go_wp2_with fail
      refine (sMean _ _ _ R _ _ _ (M.best2 R) _ HM0.out HS.out HO.out.ints' HCp.out.1 HCp.out.2).mono ?_
      rintro e w1 ⟨rfl, hb⟩
      rw [HC.out]
      have hb1 := HBb.out.trans (hb.mono HBb.out.size)
      have hz := hb1.size
      simp at hz
      obtain ⟨hcc, hff⟩ := bcell hb1
      have z1 : w.heap.size < w1.heap.size := by omega
      clear hb
      go_wp2_with fail
      refine (sResultR _ _ _).mono ?_
      rintro e w2 ⟨rfl, hb2⟩
      obtain ⟨r, hr⟩ : ∃ r, r = M.lim (x1, x2) := ⟨_, rfl⟩
      rw [← hr] at HE ⊢
      clear hr
      unfold retQ
      obtain ⟨⟨r1, r2⟩, r3⟩ := r
      have hbb := hb1.trans (((b_alloc w1 _).trans (hb2.mono (by simp))).mono hb1.size)
      have hz2 := hbb.size
      simp at hz2
      obtain ⟨hc2, hf2⟩ := bcell hbb
      have z2 : w.heap.size < w2.heap.size := by omega
      go_wp2
      exact bodyPost_ret (v := .tuple #[.agg #[.int .i64 r1, .int .i64 r2], .int .i64 r3]) (by simp [results, Try.results101, go_sem, z2, hc2]) rfl ⟨by rw [HE.out], bel1s hbb⟩
    · simp only [Bool.not_eq_true] at hc
      have HNo := Lib.hid hc
      have HE : Hid (M.cycMeanRes R = ((0, 0), 4)) := by show _ = _; unfold M.cycMeanRes; rw [if_pos hs, HRn.out, if_neg (by rw [hc]; exact Bool.false_ne_true)]
      clear h hs hc
      go_enter Try.func101, Try.ntmps101
      go_wp2_with fail
      refine (sSquare_b _ _ _ R _ true HS.out (HA.out.below (b_alloc _ _))).mono ?_
      rintro e w' ⟨rfl, qd, rfl⟩
      go_wp2_with fail
      refine (sBest _ _ _ R _ (HA0.out qd) HS.out).mono ?_
      rintro e w1 ⟨b', n', c', rfl, ho, hb0⟩
      rw [HNo.out]
      have hb1 := (HB0.out qd).trans (hb0.mono (HB0.out qd).size)
      have hz := hb1.size
      simp at hz
      obtain ⟨hcc, hff⟩ := bcell hb1
      have z1 : w.heap.size < w1.heap.size := by omega
      clear ho hb0
      go_wp2
      exact bodyPost_ret (v := .tuple #[.agg #[.int .i64 0, .int .i64 0], .int .i64 4]) (by simp [results, Try.results101, go_sem, z1, hcc]) rfl ⟨by rw [HE.out], bel1s hb1⟩
  · simp only [Bool.not_eq_true] at hs
    have HS := Lib.hid hs
    have HE : Hid (M.cycMeanRes R = ((0, 0), 1)) := by show _ = _; unfold M.cycMeanRes; rw [if_neg (by rw [hs]; exact Bool.false_ne_true)]
    clear h hs
    go_enter Try.func101, Try.ntmps101
    go_wp2_with fail
    refine (sSquare_b _ _ _ R _ false HS.out (HA.out.below (b_alloc _ _))).mono ?_
    rintro e w' ⟨rfl, qd, rfl⟩
    go_wp2
    exact bodyPost_ret (v := .tuple #[.agg #[.int .i64 0, .int .i64 0], .int .i64 1]) (by simp [results, Try.results101, go_sem]) rfl ⟨by rw [HE.out], bel1s (b_draws _ _)⟩
end V
end Go.Proofs.Ytjljplolonpldab

namespace Go.Proofs.Ytjljplolonpldab
namespace V
set_option maxRecDepth 100000
open Go.RowKit
set_option maxRecDepth 100000 in
set_option maxHeartbeats 4000000 in
theorem sCertifyMean (a : Option Addr) (n cap : Nat) (R : List (List Int)) (w : World) (h : Mat w a n R) :
    Calls Try.prog 51 #[.slice a n cap] w (CPost4 (M.certRes R) w) := by
  have HA := Lib.hid h
  have hRn : R.length = n := h.1
  have HB0 : Hid (Below w.heap.size w (w.alloc (.cells #[.int .i64 0, .int .i64 0] 39))) := b_alloc _ _
  by_cases hc : (M.cycMeanRes R).2 = 0
  · obtain ⟨c, L, hs, hcyc, hnear, hp, hq, hcl, hvx, hov⟩ := M.eig_t hc
    have hcm := (M.cyc_t hc).2.2.2
    rw [hRn] at hcyc hnear hp hcl hov hcm
    obtain ⟨hr, n1, n2, hsm⟩ := sq_parts h hs
    have HR := Lib.hid hr
    have HSm := Lib.hid hsm
    have HSs := Lib.hid hs
    obtain ⟨q, hq0⟩ : ∃ q, q = M.bestCyc R := ⟨_, rfl⟩
    have HBq : Hid (M.best2 R = q) := by show _ = _; unfold M.best2; rw [hRn, hcyc, if_pos rfl, hq0]
    obtain ⟨r, hrr⟩ : ∃ r, r = M.bestR (M.ent R) n := ⟨_, rfl⟩
    rw [← hrr] at hnear hp hov hcm
    have HNear := Lib.hid hnear
    have HP := Lib.hid hp
    have HOv := Lib.hid hov
    have HCm := Lib.hid hcm
    obtain ⟨r1, r2⟩ := r
    have HBm : Hid (∀ i j, i < n → j < n → M.Sm 1000001000000 (M.bestF (M.shf (M.ent R) r1 r2) n i j)) := fun i j hi hj => by
      unfold M.bestF
      split
      · exact M.sh_sm HSm.out HNear.out i j hi hj
      · exact .inl rfl
    obtain ⟨p, hpp⟩ : ∃ p, p = M.potRes R r1 r2 := ⟨_, rfl⟩
    have HPp := Lib.hid hpp.symm
    have hE : M.certRes R = if p.2 = 0 then ((r1, r2), M.bestCyc R, p.1, 0) else ((0, 0), [], [], p.2) := by
      unfold M.certRes; rw [if_pos hc, hcm, hpp]
    have HE := Lib.hid hE
    obtain ⟨pl, pc⟩ := p
    rw [← hq0] at HE HOv
    clear hq0 h hc hs hcyc hnear hp hq hvx hov hcm hr hsm hrr hpp hE hRn hcl
    by_cases hpc : pc = 0
    · subst hpc
      go_enter Try.func51, Try.ntmps51
      go_wp2_with fail
      refine (sCycleMean _ _ _ R _ (HA.out.below HB0.out)).mono ?_
      rintro e w1 ⟨rfl, hb⟩
      rw [HCm.out]
      have HB1 := Lib.hid hb
      clear hb
      obtain ⟨wb, hwb⟩ : ∃ x, x = w1.alloc (rbox r1 r2) := ⟨_, rfl⟩
      have HX : Hid (Boxed w1 wb r1 r2) := by show Boxed _ _ _ _; rw [hwb]; exact boxed _ _ _
      have HBx := Lib.hid (HB1.out.trans (HX.out.below.mono HB1.out.size))
      have HBy := Lib.hid (HB0.out.trans (HBx.out.mono HB0.out.size))
      go_wp2_with fail
      change Calls _ _ _ (w1.alloc (rbox r1 r2)) _
      rw [← hwb]
      clear hwb
      refine (sPotentialOf _ _ _ R r1 r2 _ (HA.out.below HBy.out)).mono ?_
      rintro e w2 ⟨b2, m2, c2, rfl, ho, hb⟩
      rw [HPp.out] at ho ⊢
      have HO2 := Lib.hid ho
      have HB2 := Lib.hid hb
      have HBz := Lib.hid (HBy.out.trans (hb.mono HBy.out.size))
      obtain ⟨p0, p1⟩ := HX.out.cells hb
      clear ho hb
      go_wp2_with fail
      refine (sBest _ _ _ R _ (HA.out.below HBz.out) HSs.out).mono ?_
      rintro e w4 ⟨b4, n4, c4, rfl, ho, hb⟩
      rw [HBq.out] at ho
      have HO4 := Lib.hid ho
      have HB4 := Lib.hid hb
      have HB3 := Lib.hid (Below.refl w2.heap.size w2)
      have hb8 := HBx.out.trans ((HB2.out.trans (hb.mono HB2.out.size)).mono HBx.out.size)
      have hz8 := hb8.size
      simp at hz8
      obtain ⟨hcc, hff⟩ := bcell hb8
      have z1 : w.heap.size < w4.heap.size := by omega
      obtain ⟨p2, p3⟩ := HX.out.cells (HB2.out.trans (hb.mono HB2.out.size))
      clear ho hb hb8 p0 p1
      go_wp2
      all_goals
        have hlt2 : w.heap.size < w2.heap.size := by have := HBx.out.size; have := HB2.out.size; simp at *; omega
        have hHE : M.certRes R = ((r1, r2), q, pl, 0) := HE.out
        refine bodyPost_ret (v := .tuple #[.agg #[.int .i64 r1, .int .i64 r2], .slice b4 n4 c4, .slice b2 m2 c2, .int .i64 0]) (by simp [results, Try.results51, go_sem, z1, hcc]) rfl ?_
        rw [hHE]
        refine ⟨(w2.setCell ⟨w.heap.size, 0, none⟩ (.int .i64 r1)).setCell ⟨w.heap.size, 1, none⟩ (.int .i64 r2), b4, n4, c4, b2, m2, c2, rfl, ?_, ?_, ?_, ?_⟩
        · refine (HO2.out.keep fun k k1 _ => ?_).mono HBy.out.size
          have k2 : w.heap.size ≠ k := by have := HBx.out.size; simp at this; omega
          exact (Below.heap_setCell _ _ _ k k2.symm).trans (Below.heap_setCell _ _ _ k k2.symm)
        · exact (HBz.out.setCell (p := ⟨w.heap.size, 0, none⟩) (Nat.le_refl _) _).setCell (p := ⟨w.heap.size, 1, none⟩) (Nat.le_refl _) _
        · refine (HO4.out.keep fun k k1 _ => ?_).mono ?_
          · have k2 : w.heap.size ≠ k := by have := HB3.out.size; omega
            exact (Below.heap_setCell _ _ _ k k2.symm).trans (Below.heap_setCell _ _ _ k k2.symm)
          · simp [World.setCell]
        · have e := below_set2 (below_set2 HB4.out ⟨w.heap.size, 0, none⟩ hlt2 (.int .i64 r1)) ⟨w.heap.size, 1, none⟩ hlt2 (.int .i64 r2)
          simpa [World.setCell] using e
    · have HEE : Hid (M.certRes R = ((0, 0), [], [], pc)) := HE.out.trans (if_neg hpc)
      have hpb : (pc != 0) = true := by simpa using hpc
      go_enter Try.func51, Try.ntmps51
      go_wp2_with fail
      refine (sCycleMean _ _ _ R _ (HA.out.below HB0.out)).mono ?_
      rintro e w1 ⟨rfl, hb⟩
      rw [HCm.out]
      have HB1 := Lib.hid hb
      clear hb
      obtain ⟨wb, hwb⟩ : ∃ x, x = w1.alloc (rbox r1 r2) := ⟨_, rfl⟩
      have HX : Hid (Boxed w1 wb r1 r2) := by show Boxed _ _ _ _; rw [hwb]; exact boxed _ _ _
      have HBx := Lib.hid (HB1.out.trans (HX.out.below.mono HB1.out.size))
      have HBy := Lib.hid (HB0.out.trans (HBx.out.mono HB0.out.size))
      go_wp2_with fail
      change Calls _ _ _ (w1.alloc (rbox r1 r2)) _
      rw [← hwb]
      clear hwb
      refine (sPotentialOf _ _ _ R r1 r2 _ (HA.out.below HBy.out)).mono ?_
      rintro e w2 ⟨b2, m2, c2, rfl, ho, hb⟩
      rw [HPp.out] at ho ⊢
      have hb8 := HBx.out.trans (hb.mono HBx.out.size)
      have hz := hb8.size
      simp at hz
      obtain ⟨hcc, hff⟩ := bcell hb8
      have z1 : w.heap.size < w2.heap.size := by omega
      clear ho hb
      go_wp2
      exact bodyPost_ret (v := .tuple #[.agg #[.int .i64 0, .int .i64 0], .slice none 0 0, .slice none 0 0, .int .i64 pc]) (by simp [results, Try.results51, go_sem, z1, hcc]) rfl (CPost4.nil HEE.out (bel1s hb8))
  · have HE : Hid (M.certRes R = ((0, 0), [], [], (M.cycMeanRes R).2)) := by show _ = _; unfold M.certRes; rw [if_neg hc]
    obtain ⟨r, hr⟩ : ∃ r, r = M.cycMeanRes R := ⟨_, rfl⟩
    rw [← hr] at hc HE
    have HR := Lib.hid hr.symm
    obtain ⟨⟨r1, r2⟩, r3⟩ := r
    have hr3 : (r3 != 0) = true := by simpa using hc
    clear h hc hr hRn
    go_enter Try.func51, Try.ntmps51
    go_wp2_with fail
    refine (sCycleMean _ _ _ R _ (HA.out.below HB0.out)).mono ?_
    rintro e w1 ⟨rfl, hb⟩
    rw [HR.out]
    have hz := hb.size
    simp at hz
    obtain ⟨hcc, hff⟩ := bcell hb
    have z1 : w.heap.size < w1.heap.size := by omega
    go_wp2
    exact bodyPost_ret (v := .tuple #[.agg #[.int .i64 0, .int .i64 0], .slice none 0 0, .slice none 0 0, .int .i64 r3]) (by simp [results, Try.results51, go_sem, z1, hcc]) rfl (CPost4.nil HE.out ((bel1s hb).alloc (bel1s hb).size _))
theorem M.certRes_len (R : List (List Int)) : (M.certRes R).2.1.length ≤ 10 ∧ (M.certRes R).2.2.1.length ≤ 10 := by
  unfold M.certRes
  split
  · next h =>
    split
    · exact ⟨by obtain ⟨h1, h2, -⟩ := M.cyc_t h; exact (M.best_cyc h1 h2).2.2.2, M.potRes_len R _ _⟩
    · exact ⟨by simp, by simp⟩
  · exact ⟨by simp, by simp⟩
end V
end Go.Proofs.Ytjljplolonpldab

namespace Go.Proofs.Ytjljplolonpldab.M
theorem star_sum {R : List (List Int)} {n : Nat} (hn : n ≤ 10) (hA : ∀ i j, i < n → j < n → Sm 1000001000000 (ent R i j)) (h : noPos (ent R) n = true) : mk n n (fun i j => max (ent (unitM n) i j) (ent (plusM R n) i j)) = starM R n := by
  refine mk_congr fun i hi j hj => ?_
  unfold unitM plusM
  rw [ent_mk _ _ _ _ _ hi hj, ent_mk _ _ _ _ _ hi hj]
  unfold starF
  by_cases e : i = j
  · subst e
    rw [if_pos rfl, if_pos rfl]
    have hd := ofw_diag (fun i j => o (ent R i j)) n (o_diag hn hA h) i hi
    rw [← o_cfw hn hA (Nat.le_refl _) (fun _ hu => noPos_t h hu) i i hi hi, show some (0 : Int) = o 0 from rfl] at hd
    have := (o_le (cfw_big hn hA (Nat.le_refl _) (fun _ hu => noPos_t h hu) i i hi hi) (.inr (by omega)) (by omega)).1 hd
    omega
  · rw [if_neg e, if_neg e]
    have := sm_ge (cfw_big hn hA (Nat.le_refl _) (fun _ hu => noPos_t h hu) i j hi hj) (by omega)
    omega
theorem star_cases (R : List (List Int)) :
    ((starRes R).2 = 1 ∧ (posRes R).2 = 1) ∨ ((starRes R).2 = 5 ∧ (posRes R).2 = 0) ∨ ((starRes R).2 = 3 ∧ (posRes R).2 = 4) ∨ ((starRes R).2 = 0 ∧ (posRes R).2 = 4 ∧ (plusRes R).2 = 3) ∨
    ((starRes R).2 = 0 ∧ (posRes R).2 = 4 ∧ (plusRes R).2 = 0 ∧ (unitRes R.length).2 = 0 ∧ addRes (unitRes R.length).1 (plusRes R).1 = ((starRes R).1, 0)) := by
  by_cases hs : sqB R = true
  · obtain ⟨h1, h2⟩ := sqB_t hs
    obtain ⟨m1, m2, m3, m4, m5, m6⟩ := isMat_t h1
    have hA : ∀ i j, i < R.length → j < R.length → Sm 1000001000000 (ent R i j) := fun i j hi hj => sm_wide (sm_val (m6 i hi j (by rw [← h2]; exact hj)))
    by_cases hp : noPos (ent R) R.length = true
    · have h0 := over_none m2 hA hp
      have hC : (posRes R).2 = 4 := by unfold posRes; rw [if_pos hs, if_pos h0]
      by_cases hm : isMat (starM R R.length) = true
      · have hS : starRes R = (starM R R.length, 0) := by unfold starRes; rw [if_pos hs, if_pos hp, if_pos hm]
        by_cases hq : isMat (plusM R R.length) = true
        · have hP : plusRes R = (plusM R R.length, 0) := by unfold plusRes; rw [if_pos hs, if_pos hp, if_pos hq]
          have hU : unitRes R.length = (unitM R.length, 0) := by
            unfold unitRes
            rw [if_pos ⟨by omega, by omega⟩, Int.toNat_natCast]
          refine .inr (.inr (.inr (.inr ⟨by rw [hS], hC, by rw [hP], by rw [hU], ?_⟩)))
          rw [hU, hP, hS]
          have l1 : (unitM R.length).length = R.length := mk_length _ _ _
          have l2 : (plusM R R.length).length = R.length := mk_length _ _ _
          have w1 : wid (unitM R.length) = R.length := mk_wid _ _ _ (by omega)
          have w2 : wid (plusM R R.length) = R.length := mk_wid _ _ _ (by omega)
          unfold addRes
          rw [unitM_ok m1 m2, hq, if_pos (by rfl), if_pos ⟨by rw [l1, l2], by rw [w1, w2]⟩]
          unfold addM
          rw [l1, w1, star_sum m2 hA hp]
        · have hP : (plusRes R).2 = 3 := by unfold plusRes; rw [if_pos hs, if_pos hp, if_neg hq]
          exact .inr (.inr (.inr (.inl ⟨by rw [hS], hC, hP⟩)))
      · have hS : (starRes R).2 = 3 := by unfold starRes; rw [if_pos hs, if_pos hp, if_neg hm]
        exact .inr (.inr (.inl ⟨hS, hC⟩))
    · have h0 := over_some m2 hA (by simpa using hp)
      exact .inr (.inl ⟨by unfold starRes; rw [if_pos hs, if_neg hp], by unfold posRes; rw [if_pos hs, if_neg h0]⟩)
  · exact .inl ⟨by unfold starRes; rw [if_neg hs], by unfold posRes; rw [if_neg hs]⟩
end Go.Proofs.Ytjljplolonpldab.M
namespace Go.Proofs.Ytjljplolonpldab.V
open Go.RowKit
set_option maxRecDepth 100000 in
set_option maxHeartbeats 1000000 in
theorem drawStarMatrix (a : Option Addr) (n cap : Nat) (w : World) (h : Bytes w a n) :
    Calls Try.prog 41 #[.slice a n cap] w (DrawnM w) := by
  have HB := Lib.hid h
  clear h
  go_enter Try.func41, Try.ntmps41
  go_wp2_with fail
  refine (from_ _ _ _ _ HB.out).mono ?_
  rintro e w1 ⟨rfl, hs1, hb1⟩
  have HS1 := Lib.hid hs1
  have HB1 := Lib.hid hb1
  clear hs1 hb1
  go_wp2_with fail
  refine (draw3 _ _ HS1.out).mono ?_
  rintro e w2 ⟨a2, n2, c2, R, rfl, -, ho, hs2, ht2⟩
  have HO := Lib.hid ho.mat
  have HB2 := Lib.hid (HB1.out.trans ht2.below)
  clear ho hs2 ht2
  go_wp2
  go_ret
  exact ⟨a2, n2, c2, R, rfl, HO.out, HB2.out⟩
end Go.Proofs.Ytjljplolonpldab.V

namespace Go.Proofs.Ytjljplolonpldab.V
open Go.RowKit Go.ChangeShapes Go.WideShapes Go.Deep

theorem mat_open {H : Type} {enc : TypeId × Value → H} {P : Program} {w : World} {base : Nat} {held : Bool} {t e q : TypeId} {fuel : Nat} {cs : List Value} {x : DataW H × List MemPlace} (ht : P.underlying t = some (.slice e)) (he : P.underlying e = some (.slice q)) (hq : P.underlying q = some (.int .i64))
    (ce : P.cellsOf e = 1) (cq : P.cellsOf q = 1) (h : DataW.trod enc P w base (fun _ => true) held fuel t cs = some x) :
    ∃ a len cap R, cs = [.slice a len cap] ∧ Mat w a len R := by
  rcases open_int_rows ht he hq ce cq h with ⟨rfl, -⟩ | ⟨a, len, cap, A, L, C, Z, rfl, hb, hl, hm, -, hr⟩
  · exact ⟨none, 0, 0, [], rfl, rfl, Nat.zero_le _, .inl rfl⟩
  · refine ⟨some a, len, cap, (List.range len).map fun r => (Z r).take (L r), rfl, by simp, by omega, ?_⟩
    by_cases h0 : len = 0
    · exact .inl h0
    · have hsp : a.spot = none := by
        have := (hr 0 (by omega)).1
        simpa [Addr.add] using World.cell?_spot this
      obtain ⟨b, off, spot⟩ := a
      simp only at hsp
      subst hsp
      refine .inr ⟨b, off, rfl, ?_, fun i hi => ?_⟩
      · have := cell_lt (hr 0 (by omega)).1
        simpa [Addr.add] using this
      · obtain ⟨h1, h2, h3, h4, h5, h6, h7⟩ := hr i (by omega)
        have eR : ((List.range len).map fun r => (Z r).take (L r)).getD i [] = (Z i).take (L i) := by simp [hi]
        rw [eR]
        have eL : ((Z i).take (L i)).length = L i := by rw [List.length_take]; omega
        rw [eL]
        refine ⟨A i, C i, by rw [← Go.WideShapes.add_plain]; exact h1, eL, by omega, ?_⟩
        by_cases hL : L i = 0
        · exact .inl hL
        · cases hA : A i with
          | none => have := h6 hA; omega
          | some a' =>
            obtain ⟨-, hc⟩ := h7 a' hA
            obtain ⟨b', off', rfl, hc'⟩ := ints_at (k := .i64) (zs := Z i) (fun j hj => hc j (by omega)) (by omega)
            refine .inr ⟨b', off', rfl, cell_lt (hc' 0 (by omega)), fun j hj => ?_⟩
            rw [hc' j (by omega)]
            simp [List.getD_eq_getElem?_getD, hj]
end Go.Proofs.Ytjljplolonpldab.V
