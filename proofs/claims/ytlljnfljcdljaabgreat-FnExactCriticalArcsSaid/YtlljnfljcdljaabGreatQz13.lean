/- Texts laid together: BstZ, Clo4, Clo3, Clo5. -/
import Derived.Test.YtlljnfljcdljaabGreatQz10
import Derived.Test.YtlljnfljcdljaabGreatQz11
import Derived.Test.YtlljnfljcdljaabGreatQz12
set_option linter.unusedSimpArgs false
set_option linter.unusedVariables false
set_option linter.unusedSectionVars false
namespace Go.Proofs.YtlljnfljcdljaabGreat
namespace M
/-- A list that the search may stand at. -/
def Cyc0 (A : Nat → Nat → Int) (n : Nat) (q : List Int) : Prop :=
  (q = [] ∧ hasCyc A n = false) ∨ (nodesB n q = true ∧ diffB q = true ∧ 1 ≤ q.length ∧ arW A q ≠ -1000000000000000)
def best2 (R : List (List Int)) : List Int := if hasCyc (ent R) R.length then bestCyc R else []
theorem fnd_arW {A : Nat → Nat → Int} {n : Nat} {ov : Int} {q : List Int} (hn : n ≤ 10) (hA : ∀ i j, i < n → j < n → Sm 1000000 (A i j)) (h : Fnd A n ov q) : arW A q ≠ -1000000000000000 := by
  obtain ⟨g1, g2, g3, g4, g5, g6⟩ := h
  have hw : arW A q = wkc A (vx q) (q.length - 1) + A (vx q 0) (lastV q) := times_fin g4 g5
  intro e
  have hs := arW_sm hA g1 g3
  have hl := diffB_len g1 g2
  have h1 := hA (vx q 0) (lastV q) (vx_lt g1 (by omega)) (vx_lt g1 (by omega))
  have h2 := wkc_sm (A := A) (v := vx q) (t := q.length - 1) (fun u hu => sm_wide (hA _ _ (vx_lt g1 (by omega)) (vx_lt g1 (by omega))))
  unfold Sm at h1 h2 hs
  have hk : ((q.length - 1 : Nat) : Int) ≤ 9 := by omega
  generalize ((q.length - 1 : Nat) : Int) = k at *
  omega
theorem cyc0_start {A : Nat → Nat → Int} {n : Nat} (hn : n ≤ 10) (hA : ∀ i j, i < n → j < n → Sm 1000000 (A i j)) : Cyc0 A n (overL A n (-1000000000000000)) := by
  have hW : ∀ i j, i < n → j < n → Sm 1000001000000 (A i j) := fun i j hi hj => sm_wide (hA i j hi hj)
  have h := over_bot hn hA
  by_cases e : (overL A n (-1000000000000000)).length = 0
  · left
    rw [← h]
    exact ⟨List.eq_nil_of_length_eq_zero e, decide_eq_false (fun k => k e)⟩
  · right
    have hf := over_fnd hn hW e
    exact ⟨hf.1, hf.2.1, hf.2.2.1, fnd_arW hn hA hf⟩
theorem cyc0_mean {R : List (List Int)} {q : List Int} (h : nodesB R.length q = true ∧ diffB q = true ∧ 1 ≤ q.length ∧ arW (ent R) q ≠ -1000000000000000) : mean2 R q = (cMean (ent R) q, true) := by
  obtain ⟨h1, h2, h3, h4⟩ := h
  unfold mean2
  rw [if_pos (by unfold cycB; rw [h1, h2, around_arW, decide_eq_true h3, decide_eq_true h4]; rfl)]
  rfl
end M
namespace V
open Go.RowKit
/-- The integers of a slice, as the world has them. -/
def readL (w : World) : Value → List Int
  | .slice (some ⟨b, off, _⟩) n _ => (List.range n).map fun i => match w.cell? ⟨b, off + i, none⟩ with | some (.int _ x) => x | _ => 0
  | _ => []
theorem readL_ints {w : World} {a : Option Addr} {n c : Nat} {l : List Int} (h : Ints .i64 w a n l) : readL w (.slice a n c) = l := by
  obtain ⟨h1, -, h3⟩ := h
  rcases h3 with h3 | ⟨b, off, rfl, -, h3⟩
  · subst h3
    obtain rfl : l = [] := List.eq_nil_of_length_eq_zero h1
    cases a <;> rfl
  · show (List.range n).map _ = l
    apply List.ext_getElem
    · simp [h1]
    · intro k k1 k2
      have e := h3 k (by omega)
      simp only [List.getElem_map, List.getElem_range, e]
      simp [k2]
theorem readL_own {w : World} {B n c : Nat} {a : Option Addr} {l : List Int} (h : Own w B (.slice a n c) l) : readL w (.slice a n c) = l := by
  exact readL_ints h.ints'
theorem own_caps {w : World} {B n c : Nat} {a : Option Addr} {l : List Int} (h : Own w B (.slice a n c) l) : n ≤ c ∧ c ≤ maxLen := by
  have hl := h.len
  obtain ⟨a', c', hv, h1, h2, -⟩ := own_form h
  injection hv with e1 e2 e3
  subst e3
  exact ⟨by omega, h2⟩
set_option maxRecDepth 100000 in
set_option maxHeartbeats 2000000 in
theorem sBest (a : Option Addr) (n cap : Nat) (R : List (List Int)) (w : World) (h : Mat w a n R) (hs : M.sqB R = true) :
    Calls Tryz.prog 46 #[.slice a n cap] w fun e w' => ∃ b' n' c', e = .returned (.tuple #[.slice b' n' c', .bool (M.hasCyc (M.ent R) n)]) ∧ Own w' w.heap.size (.slice b' n' c') (M.best2 R) ∧ Below w.heap.size w w' := by
  have HS := Lib.hid (sq_of h hs)
  have HMt := Lib.hid h
  have HQ := Lib.hid hs
  have HSm := Lib.hid (sm_of h hs)
  have hRn : R.length = n := h.1
  have HRn := Lib.hid hRn
  obtain ⟨n1, n2⟩ := (sq_of h hs).2.2.2
  clear h hs hRn
  go_enter Tryz.func46, Tryz.ntmps46
  go_wp2_with fail
  refine (sOver _ _ _ R (-1000000000000000) _ HS.out).mono ?_
  rintro e w1 ⟨b1, N1, c1, rfl, ho, hb⟩
  have HO1 := Lib.hid ho
  have HB1 := Lib.hid hb
  have HC1 := Lib.hid (M.cyc0_start n2 HSm.out)
  clear ho hb
  go_wp2
  go_loopw [4, 5, 6, 7] (fun v _ _ _ wr => ∃ (b : Option Addr) (N c : Nat) (q : List Int), v = .slice b N c ∧ Hid (Own wr w.heap.size (.slice b N c) q) ∧ Hid (M.Cyc0 (M.ent R) n q) ∧ Hid (Below w.heap.size w wr)) (fun v _ _ _ wr => M.mu (M.ent R) (readL wr v))
  case atStart => exact ⟨b1, N1, c1, _, rfl, HO1, HC1, HB1⟩
  case round =>
    clear HO1 HB1 HC1
    obtain ⟨b, N, c, q, rfl, HO, HC, HB⟩ := hrel
    obtain ⟨wo, rfl⟩ : ∃ x, x = wr := ⟨_, rfl⟩
    have hNl := HO.out.len
    rcases HC.out with ⟨hq0, hno⟩ | hq
    · have hN0 : N = 0 := by rw [hNl, hq0]; rfl
      have HE : Hid (M.best2 R = []) := by show _ = _; unfold M.best2; rw [HRn.out, hno]; rfl
      have HNo := Lib.hid hno
      subst hN0
      clear hq0 hno hNl
      go_wp2
      go_ret2
      refine ⟨none, 0, 0, ?_, ?_, HB.out⟩
      · rw [HNo.out]; rfl
      · rw [HE.out]; exact own_nil _ _
    · have hlen := M.diffB_len hq.1 hq.2.1
      have hN1 : 0 < N := by omega
      have hcap := own_caps HO.out
      have HM2 : Hid (M.mean2 R q = (M.cMean (M.ent R) q, true)) := M.cyc0_mean (by rw [HRn.out]; exact hq)
      have HCap := Lib.hid hcap
      have HNear := Lib.hid (M.cMean_near HSm.out hq.2.2.1 (by omega) hq.1 hq.2.2.2).1
      have HQq := Lib.hid hq
      have HLen := Lib.hid hlen
      have HNl := Lib.hid hNl
      obtain ⟨r, hr⟩ : ∃ r, r = M.cMean (M.ent R) q := ⟨_, rfl⟩
      have HR := Lib.hid hr
      obtain ⟨r1, r2⟩ := r
      have HSh : Hid (∀ i j, i < n → j < n → M.Sm 1000001000000 (M.shf (M.ent R) r1 r2 i j)) := by
        show ∀ i j, _
        have := M.sh_sm HSm.out HNear.out
        rw [← hr] at this; exact this
      have HNe : Hid (M.Near r1 r2) := by show M.Near r1 r2; have := HNear.out; rw [← hr] at this; exact this
      clear hq hlen hcap hr hNl
      go_wp2_with fail
      refine (sMean _ _ _ R _ _ _ q _ (HMt.out.below HB.out) HQ.out HO.out.ints' HCap.out.1 HCap.out.2).mono ?_
      rintro e w2 ⟨rfl, hb2⟩
      rw [HM2.out, ← HR.out]
      have HB2 := Lib.hid hb2
      clear hb2
      go_wp2_with fail
      obtain ⟨wb, hwb⟩ : ∃ x, x = w2.alloc (rbox r1 r2) := ⟨_, rfl⟩
      have HX : Hid (Boxed w2 wb r1 r2) := by show Boxed _ _ _ _; rw [hwb]; exact boxed _ _ _
      have HBw := Lib.hid (HB.out.trans (HB2.out.mono HB.out.size))
      have HBx := Lib.hid (HBw.out.trans (HX.out.below.mono HBw.out.size))
      change Calls _ _ _ (w2.alloc (rbox r1 r2)) _
      rw [← hwb]
      clear hwb
      refine (sShift _ _ _ R r1 r2 _ (HMt.out.below HBx.out) HS.out.2.1 n1 n2 HSm.out HNe.out).mono ?_
      rintro e w3 ⟨b3, c3, rfl, ho, hb⟩
      have HO3 := Lib.hid ho
      have HB3 := Lib.hid hb
      clear ho hb
      obtain ⟨q', hq'⟩ : ∃ q', q' = M.overL (M.shf (M.ent R) r1 r2) n 0 := ⟨_, rfl⟩
      have HOv : Hid (M.overL (M.ent (M.mk n n (M.shf (M.ent R) r1 r2))) n 0 = q') := by
        show _ = _
        rw [hq']; exact M.over_congr n2 HSh.out fun i j hi hj => M.ent_mk _ _ _ _ _ hi hj
      have HQ' := Lib.hid hq'
      clear hq'
      have HSq : ∀ wx b c, OwnM wx wb.heap.size (.slice b n c) (M.mk n n (M.shf (M.ent R) r1 r2)) → Sq wx b n (M.mk n n (M.shf (M.ent R) r1 r2)) := fun wx b c ho =>
        ⟨ho.mat, rect_mk _ _ _, fun i j hi hj => by rw [M.ent_mk _ _ _ _ _ hi hj]; exact HSh.out i j hi hj, n1, n2⟩
      have HSQ := Lib.hid HSq
      clear HSq
      go_wp2_with fail
      refine (sOver _ _ _ (M.mk n n (M.shf (M.ent R) r1 r2)) 0 _ (HSQ.out _ _ _ HO3.out)).mono ?_
      rintro e w4 ⟨b4, N4, c4, rfl, ho, hb⟩
      rw [HOv.out] at ho
      have HO4 := Lib.hid ho
      have HB4 := Lib.hid (HB3.out.trans (hb.mono HB3.out.size))
      obtain ⟨p0, p1⟩ := HX.out.cells HB4.out
      have hN4 := ho.len
      have HN4 := Lib.hid hN4
      clear ho hb
      by_cases h4 : N4 = 0
      · have hfi := M.fnd_is n2 HSm.out HQq.out.1 HQq.out.2.1 HQq.out.2.2.1 HQq.out.2.2.2 (by rw [← HR.out, ← HQ'.out, ← hN4, h4])
        have HNo : Hid (M.hasCyc (M.ent R) n = true) := hfi.1
        have HE : Hid (M.best2 R = M.overL (M.shf (M.ent R) r1 r2) n (-1)) := by
          show _ = _
          unfold M.best2
          rw [HRn.out, hfi.1, if_pos rfl]
          unfold M.bestCyc
          rw [HRn.out, ← hfi.2, ← HR.out]
        clear hfi hN4
        subst h4
        go_wp2_with fail
        refine (sShift _ _ _ R r1 r2 _ (HMt.out.below (HBx.out.trans (HB4.out.mono HBx.out.size))) HS.out.2.1 n1 n2 HSm.out HNe.out).mono ?_
        rintro e w5 ⟨b5, c5, rfl, ho, hb⟩
        have HO5 := Lib.hid ho
        have HB5 := Lib.hid (HB4.out.trans (hb.mono HB4.out.size))
        have HSQ5 : Hid (Sq w5 b5 n (M.mk n n (M.shf (M.ent R) r1 r2))) := HSQ.out _ _ _ (ho.mono HB4.out.size)
        clear ho hb
        go_wp2_with fail
        refine (sOver _ _ _ (M.mk n n (M.shf (M.ent R) r1 r2)) (-1) _ HSQ5.out).mono ?_
        rintro e w6 ⟨b6, N6, c6, rfl, ho, hb⟩
        rw [M.over_congr (A := M.shf (M.ent R) r1 r2) n2 HSh.out fun i j hi hj => M.ent_mk _ _ _ _ _ hi hj, ← HE.out] at ho
        have HB6 := Lib.hid (HBx.out.trans ((HB5.out.trans (hb.mono HB5.out.size)).mono HBx.out.size))
        have HO6 := Lib.hid (ho.mono (Nat.le_trans HBx.out.size HB5.out.size))
        clear ho hb
        go_wp2
        go_ret2
        exact ⟨b6, N6, c6, by rw [HNo.out]; rfl, HO6.out, HB6.out⟩
      · have hf : M.Fnd (M.shf (M.ent R) (M.cMean (M.ent R) q).1 (M.cMean (M.ent R) q).2) n 0 q' := by
          have hne : (M.overL (M.shf (M.ent R) r1 r2) n 0).length ≠ 0 := by rw [← HQ'.out]; omega
          have := M.over_fnd n2 HSh.out hne
          rw [← HQ'.out] at this
          rw [← HR.out]; exact this
        obtain ⟨g1, g2, g3, g4, g5, g6⟩ := M.fnd_up n2 HSm.out HQq.out.1 HQq.out.2.1 HQq.out.2.2.1 HQq.out.2.2.2 hf
        have HC' : Hid (M.Cyc0 (M.ent R) n q') := .inr ⟨g1, g2, g3, g5⟩
        have HL : Hid (M.mu (M.ent R) q' < M.mu (M.ent R) q) := M.mu_lt HQq.out.2.2.1 (Nat.le_trans HLen.out n2) g3 g4 (M.cMean_near HSm.out g3 g4 g1 g5).2.2.1 g6
        have HB6 := Lib.hid (HBx.out.trans (HB4.out.mono HBx.out.size))
        have HO6 := Lib.hid (HO4.out.mono (Nat.le_trans HBx.out.size HB3.out.size))
        have hN4p : 0 < N4 := by omega
        clear hf g1 g2 g3 g4 g5 g6 hN4
        go_wp2
        go_roundw
        case rel => exact ⟨b4, N4, c4, q', rfl, HO6, HC', HB6⟩
        case measure =>
          show M.mu _ (readL w4 (.slice b4 N4 c4)) < M.mu _ (readL wo (.slice b N c))
          rw [readL_own HO6.out, readL_own HO.out]; exact HL.out
end V
end Go.Proofs.YtlljnfljcdljaabGreat

namespace Go.Proofs.YtlljnfljcdljaabGreat
namespace V
open Go.RowKit
set_option maxRecDepth 100000 in
set_option maxHeartbeats 1000000 in
theorem sBestCycle (a : Option Addr) (n cap : Nat) (R : List (List Int)) (w : World) (h : Mat w a n R) :
    Calls Tryz.prog 42 #[.slice a n cap] w (VRes (M.bestRes R) w) := by
  have HA := Lib.hid h
  have HRn := Lib.hid h.1
  by_cases hs : M.sqB R = true
  · have HS := Lib.hid hs
    obtain ⟨c, hc⟩ : ∃ c, c = M.hasCyc (M.ent R) n := ⟨_, rfl⟩
    have HNo := Lib.hid hc.symm
    have HE : Hid (M.bestRes R = if c then (M.best2 R, 0) else ([], 4)) := by
      show _ = _; unfold M.bestRes M.best2; rw [if_pos hs, HRn.out, ← hc]; cases c <;> rfl
    clear h hs hc
    go_enter Tryz.func42, Tryz.ntmps42
    go_wp2_with fail
    refine (sSquare_b _ _ _ R _ true HS.out HA.out).mono ?_
    rintro e w' ⟨rfl, qd, rfl⟩
    go_wp2_with fail
    refine (sBest _ _ _ R _ (HA.out.below (b_draws _ _)) HS.out).mono ?_
    rintro e w1 ⟨b', n', c', rfl, ho, hb0⟩
    rw [HNo.out]
    have HO := Lib.hid ho
    have HB := Lib.hid ((b_draws w qd).trans hb0)
    clear ho hb0
    cases c with
    | false =>
      go_wp2
      go_ret2
      exact VRes.nil HE.out HB.out
    | true =>
      go_wp2
      go_ret2
      rw [HE.out]
      exact ⟨_, _, _, rfl, HO.out, HB.out⟩
  · simp only [Bool.not_eq_true] at hs
    have HS := Lib.hid hs
    have HE : Hid (M.bestRes R = ([], 1)) := by show _ = _; unfold M.bestRes; rw [if_neg (by rw [hs]; exact Bool.false_ne_true)]
    clear h hs
    go_enter Tryz.func42, Tryz.ntmps42
    go_wp2_with fail
    refine (sSquare_b _ _ _ R _ false HS.out HA.out).mono ?_
    rintro e w' ⟨rfl, qd, rfl⟩
    go_wp2
    go_ret2
    exact VRes.nil HE.out (b_draws _ _)
end V
end Go.Proofs.YtlljnfljcdljaabGreat

namespace Go.Proofs.YtlljnfljcdljaabGreat.V
open Go.RowKit

set_option maxRecDepth 100000 in
set_option maxHeartbeats 400000 in
theorem sSame (a : Option Addr) (n cap : Nat) (l : List Int) (a' : Option Addr) (n' cap' : Nat) (l' : List Int) (w : World) (h : Ints .i64 w a n l) (h' : Ints .i64 w a' n' l') :
    Calls Tryz.prog 109 #[.slice a n cap, .slice a' n' cap'] w fun e w' => ∃ b, e = .returned (.bool b) ∧ Hid (b = decide (l = l')) ∧ ∃ q, w' = w.drewN q := by
  have HI := Lib.hid h
  have HI' := Lib.hid h'
  have HL := Lib.hid h.1
  have HL' := Lib.hid h'.1
  have hm := h.2.1
  unfold maxLen at hm
  clear h h'
  by_cases hn : n = n'
  · subst hn
    have hD0 : Hid (∀ i, i < 0 → l.getD i 0 = l'.getD i 0) := fun i hi => absurd hi (Nat.not_lt_zero i)
    go_enter Tryz.func109, Tryz.ntmps109
    go_wp2
    go_loopw [5] (fun i wr => ∃ k : Nat, k ≤ n ∧ i = .int .i64 k ∧ Hid (∀ i, i < k → l.getD i 0 = l'.getD i 0) ∧ ∃ q, wr = w.drewN q) (fun i _ => n - (intOf i).toNat)
    case atStart => exact ⟨0, Nat.zero_le _, rfl, hD0, 0, rfl⟩
    case round =>
      obtain ⟨k, hk, rfl, HD, q2, rfl⟩ := hrel
      clear hD0
      by_cases hlt : k < n
      · have hki : (k : Int) < (n : Int) := by omega
        obtain ⟨b, off, x, rfl, hd, hx, c1⟩ := HI.out.at k hlt
        obtain ⟨b', off', y, rfl, hd', hy, c2⟩ := HI'.out.at k hlt
        have HX := Lib.hid hx
        have HY := Lib.hid hy
        clear hx hy hd hd'
        by_cases e : x = y
        · have HD2 : Hid (∀ i, i < k + 1 → l.getD i 0 = l'.getD i 0) := fun i hi => by
            by_cases ei : i = k
            · subst ei; rw [← HX.out, ← HY.out, e]
            · exact HD.out i (by omega)
          subst e
          go_wp2
          go_quiet (fail)
          go_wp2
          go_roundw
          case rel => exact ⟨k + 1, by omega, by go_num, HD2, _, rfl⟩
          case measure => simp [intOf]; omega
        · have e2 : (x == y) = false := by simpa using e
          have e3 : (x != y) = true := by simpa using e
          have HF : Hid (l ≠ l') := fun he => e (by rw [HX.out, HY.out, he])
          go_wp2
          go_quiet (fail)
          go_wp2
          go_ret
          exact ⟨_, rfl, (decide_eq_false HF.out).symm, _, World.drewN_drewN _ _ _⟩
      · obtain rfl : k = n := by omega
        have HF : Hid (l = l') := by
          show l = l'
          apply List.ext_getElem
          · rw [HL.out, HL'.out]
          · intro i h1 h2
            have := HD.out i (by have := HL.out; omega)
            simpa [h1, h2] using this
        go_wp2
        go_ret
        exact ⟨_, rfl, (decide_eq_true HF.out).symm, _, rfl⟩
  · have e2 : (n == n') = false := by simpa using hn
    have e3 : ((n : Int) != (n' : Int)) = true := by simp; omega
    have HF : Hid (l ≠ l') := fun he => hn (by rw [← HL.out, ← HL'.out, he])
    go_enter Tryz.func109, Tryz.ntmps109
    go_wp2
    go_ret
    exact ⟨_, rfl, (decide_eq_false HF.out).symm, 0, rfl⟩

set_option maxRecDepth 100000 in
set_option maxHeartbeats 1000000 in
theorem sSameM (a : Option Addr) (n cap : Nat) (R : List (List Int)) (a' : Option Addr) (cap' : Nat) (R' : List (List Int)) (w : World) (h : Mat w a n R) (h' : Mat w a' n R') (hn : n ≤ 1000) :
    Calls Tryz.prog 85 #[.slice a n cap, .slice a' n cap'] w fun e w' => e = .returned (.bool (decide (R = R'))) ∧ ∃ q, w' = w.drewN q := by
  have HA := Lib.hid h
  have HA' := Lib.hid h'
  have HL := Lib.hid h.1
  have HL' := Lib.hid h'.1
  clear h h'
  have hD0 : Hid (∀ i, i < 0 → R.getD i [] = R'.getD i []) := fun i hi => absurd hi (Nat.not_lt_zero i)
  go_enter Tryz.func85, Tryz.ntmps85
  go_wp2
  go_loopw [5] (fun i wr => ∃ k : Nat, k ≤ n ∧ i = .int .i64 k ∧ Hid (∀ i, i < k → R.getD i [] = R'.getD i []) ∧ ∃ q, wr = w.drewN q) (fun i _ => n - (intOf i).toNat)
  case atStart => exact ⟨0, Nat.zero_le _, rfl, hD0, 0, rfl⟩
  case round =>
    obtain ⟨k, hk, rfl, HD, q2, rfl⟩ := hrel
    clear hD0
    by_cases hlt : k < n
    · have hki : (k : Int) < (n : Int) := by omega
      obtain ⟨b, off, ra, rc, L, l, rfl, hb, hl, hc, hI⟩ := HA.out.at k hlt
      obtain ⟨b', off', ra', rc', L', l', rfl, hb', hl', hc', hI'⟩ := HA'.out.at k hlt
      have HI := Lib.hid hI
      have HI' := Lib.hid hI'
      have HX := Lib.hid hl
      have HY := Lib.hid hl'
      obtain ⟨z, hz⟩ : ∃ z, z = decide (l = l') := ⟨_, rfl⟩
      have HZ := Lib.hid hz
      have HC : ∀ q3, Calls Tryz.prog 109 #[.slice ra L rc, .slice ra' L' rc'] (w.drewN q3) fun e w' => e = .returned (.bool z) ∧ ∃ q, w' = (w.drewN q3).drewN q := by
        intro q3
        refine (sSame _ _ _ _ _ _ _ _ _ (HI.out.below (b_draws w _)) (HI'.out.below (b_draws w _))).mono ?_
        rintro e w' ⟨b, rfl, hb, hq⟩
        exact ⟨by rw [HZ.out, hb.out], hq⟩
      clear hl hl' hI hI' hz hb hb'
      cases z with
      | true =>
        have HD2 : Hid (∀ i, i < k + 1 → R.getD i [] = R'.getD i []) := fun i hi => by
          by_cases ei : i = k
          · subst ei; rw [← HX.out, ← HY.out]; exact of_decide_eq_true HZ.out.symm
          · exact HD.out i (by omega)
        go_wp2
        go_quiet ((go_at_call 109; exact q_more (HC _)))
        go_wp2
        go_roundw
        case rel => exact ⟨k + 1, by omega, by go_num, HD2, _, rfl⟩
        case measure => simp [intOf]; omega
      | false =>
        have HF : Hid (R ≠ R') := fun he => of_decide_eq_false HZ.out.symm (by rw [HX.out, HY.out, he])
        go_wp2
        go_quiet ((go_at_call 109; exact q_more (HC _)))
        go_wp2
        go_ret
        exact ⟨retB (decide_eq_false HF.out).symm, _, World.drewN_drewN _ _ _⟩
    · obtain rfl : k = n := by omega
      have HF : Hid (R = R') := by
        show R = R'
        apply List.ext_getElem
        · rw [HL.out, HL'.out]
        · intro i h1 h2
          have := HD.out i (by have := HL.out; omega)
          simpa [h1, h2] using this
      go_wp2
      go_ret
      exact ⟨retB (decide_eq_true HF.out).symm, _, rfl⟩

set_option maxRecDepth 100000 in
set_option maxHeartbeats 1000000 in
theorem sStar (a : Option Addr) (n cap : Nat) (R : List (List Int)) (w : World) (h : Sq w a n R) :
    Calls Tryz.prog 54 #[.slice a n cap] w fun e w' => ∃ b c, e = .returned (.tuple #[.slice b n c, .bool (M.noPos (M.ent R) n)]) ∧ OwnM w' w.heap.size (.slice b n c) (M.bmM R n n) ∧ Below w.heap.size w w' := by
  have HS := Lib.hid h
  obtain ⟨n1, n2⟩ := h.2.2.2
  have HSm : Hid (∀ i j, i < n → j < n → M.Sm 1000001000000 (M.ent R i j)) := h.2.2.1
  have HRB : Hid (∀ i j, i < n → j < n → M.Big (M.ent R i j)) := fun i j hi hj => M.big_sm (HSm.out i j hi hj) (by omega)
  have HBB : Hid (∀ t, t ≤ n → ∀ i j, i < n → j < n → M.Big (M.ent (M.bmM R n t) i j)) := fun t ht i j hi hj => M.bm_big HSm.out (by omega) hi hj
  clear h
  go_enter Tryz.func54, Tryz.ntmps54
  go_wp2_with (go_at_call 82; refine (sUnit n _ (by omega)).mono ?_; rintro e w1 ⟨a2, cap2, rfl, hO, hb⟩; rw [M.bm_zero R] at hO; have HO0 := Lib.hid hO; have HB0 := Lib.hid hb; clear hO hb)
  go_loopw [5, 6] (fun o i wr => ∃ (k : Nat) (b : Option Addr) (c : Nat), k ≤ n ∧ i = .int .i64 k ∧ o = .slice b n c ∧ OwnM wr w.heap.size (.slice b n c) (M.bmM R n k) ∧ Below w.heap.size w wr) (fun _ i _ => n - (intOf i).toNat)
  case atStart => exact ⟨0, _, _, Nat.zero_le _, rfl, rfl, HO0.out, HB0.out⟩
  case round =>
    obtain ⟨k, b, c, hk, rfl, rfl, hO, hb⟩ := hrel
    obtain ⟨wo, rfl⟩ : ∃ x, x = wr := ⟨_, rfl⟩
    have HO := Lib.hid hO
    have HB := Lib.hid hb
    clear hO hb HO0 HB0
    by_cases hlt : k < n
    · have hki : (k : Int) < (n : Int) := by omega
      go_wp2_with fail
      refine (sUnit n _ (by omega)).mono ?_
      rintro e w2 ⟨a3, cap3, rfl, hU, hb2⟩
      have HU2 := Lib.hid hU
      have HB2 := Lib.hid (bnext HB.out hb2)
      have HO2 := Lib.hid (HO.out.below hb2)
      clear hU hb2 HO HB
      go_wp2_with fail
      refine (sMultiplyB _ _ _ n R _ _ n (M.bmM R n k) _ (HS.out.1.below HB2.out) HO2.out.mat HS.out.2.1 (rect_mk _ _ _) HRB.out (HBB.out k (by omega)) n1 n2 n1 n2 n1 n2).mono ?_
      rintro e w3 ⟨a4, cap4, rfl, hP, hb3⟩
      have HP3 := Lib.hid hP
      have HB3 := Lib.hid (bnext HB2.out hb3)
      have HU3 := Lib.hid (HU2.out.below hb3)
      clear hP hb3 HO2 HU2
      go_wp2_with fail
      refine (sAddB _ _ _ _ _ _ _ n _ HU3.out.mat HP3.out.mat (rect_mk _ _ _) (rect_mk _ _ _) n1 n2 n1 n2).mono ?_
      rintro e w4 ⟨a5, cap5, rfl, hN, hb4⟩
      rw [M.bm_step] at hN
      have HN4 := Lib.hid (hN.mono HB3.out.size)
      have HB4 := Lib.hid (bnext HB3.out hb4)
      clear hN hb4 HU3 HP3
      go_wp2
      go_roundw
      case rel => exact ⟨k + 1, _, _, by omega, by go_num, rfl, HN4.out, HB4.out⟩
      case measure => simp [intOf]; omega
    · obtain rfl : k = n := by omega
      go_wp2_with fail
      refine (sUnit k _ (by omega)).mono ?_
      rintro e w2 ⟨a3, cap3, rfl, hU, hb2⟩
      have HU2 := Lib.hid hU
      have HB2 := Lib.hid (bnext HB.out hb2)
      have HO2 := Lib.hid (HO.out.below hb2)
      clear hU hb2 HO HB
      go_wp2_with fail
      refine (sMultiplyB _ _ _ k R _ _ k (M.bmM R k k) _ (HS.out.1.below HB2.out) HO2.out.mat HS.out.2.1 (rect_mk _ _ _) HRB.out (HBB.out k (by omega)) n1 n2 n1 n2 n1 n2).mono ?_
      rintro e w3 ⟨a4, cap4, rfl, hP, hb3⟩
      have HP3 := Lib.hid hP
      have HB3 := Lib.hid (bnext HB2.out hb3)
      have HU3 := Lib.hid (HU2.out.below hb3)
      have HO3 := Lib.hid (HO2.out.below hb3)
      clear hP hb3 HO2 HU2
      go_wp2_with fail
      refine (sAddB _ _ _ _ _ _ _ k _ HU3.out.mat HP3.out.mat (rect_mk _ _ _) (rect_mk _ _ _) n1 n2 n1 n2).mono ?_
      rintro e w4 ⟨a5, cap5, rfl, hN, hb4⟩
      rw [M.bm_step] at hN
      have HN4 := Lib.hid hN
      have HB4 := Lib.hid (bnext HB3.out hb4)
      have HO4 := Lib.hid (HO3.out.below hb4)
      clear hN hb4 HU3 HP3 HO3
      go_wp2_with fail
      refine (sSameM _ _ _ _ _ _ _ _ HN4.out.mat HO4.out.mat (by omega)).mono ?_
      rintro e w5 ⟨rfl, q, rfl⟩
      rw [M.bm_same n2 HSm.out]
      go_wp2
      go_ret2
      exact ⟨_, _, rfl, HO4.out.below (b_draws _ _), below_drewN HB4.out _⟩
end Go.Proofs.YtlljnfljcdljaabGreat.V

namespace Go.Proofs.YtlljnfljcdljaabGreat.V
open Go.RowKit

/-- The matrix whose diagonal is 0 before row k. -/
def M.diaF (A : Nat → Nat → Int) (n k i j : Nat) : Int := if i = j ∧ i < k then 0 else M.cfw A n i j
set_option maxRecDepth 100000 in
set_option maxHeartbeats 1000000 in
theorem starOf (a : Option Addr) (n cap : Nat) (R : List (List Int)) (w : World) (h : Sq w a n R) :
    Calls Tryz.prog 89 #[.slice a n cap] w (CPost (M.starL R n) w) := by
  have HS := Lib.hid h
  obtain ⟨n1, n2⟩ := h.2.2.2
  clear h
  obtain ⟨r, hr⟩ : ∃ r, r = M.plusL R n := ⟨_, rfl⟩
  have HC : Calls Tryz.prog 111 #[.slice a n cap] w (CPost r w) := by rw [hr]; exact plusOf _ _ _ _ _ HS.out
  by_cases hp : M.noPos (M.ent R) n = true
  · have hr2 : r = (M.plusM R n, true) := by rw [hr]; unfold M.plusL; rw [hp]; rfl
    have HF : Hid (M.starL R n = (M.starM R n, true)) := by show _ = _; unfold M.starL; rw [hp]; rfl
    clear hr hp
    subst hr2
    go_enter Tryz.func89, Tryz.ntmps89
    go_wp2_with fail
    refine HC.mono ?_
    rintro e w1 ⟨a2, m, cap2, rfl, hO, hb⟩
    obtain rfl : m = n := by have := hO.len; simpa [M.plusM] using this
    have HO0 : Hid (OwnM w1 w.heap.size (.slice a2 m cap2) (M.mk m m (M.diaF (M.ent R) m 0))) :=
      (congrArg (OwnM _ _ _) (M.mk_congr fun i _ j _ => by unfold M.diaF; rw [if_neg (by omega)])).mp hO
    have HB0 := Lib.hid hb
    clear hO hb HC
    go_wp2
    go_loopw [6, 14] (fun _ i wr => ∃ k : Nat, k ≤ m ∧ i = .int .i64 k ∧ OwnM wr w.heap.size (.slice a2 m cap2) (M.mk m m (M.diaF (M.ent R) m k)) ∧ Below w.heap.size w wr) (fun _ i _ => m - (intOf i).toNat)
    case atStart => exact ⟨0, Nat.zero_le _, rfl, HO0.out, HB0.out⟩
    case round =>
      obtain ⟨k, hk, rfl, hO, hb⟩ := hrel
      have HO := Lib.hid hO
      have HB := Lib.hid hb
      clear hO hb HO0 HB0
      by_cases hlt : k < m
      · obtain ⟨g, q, L, c, x, rfl, hg, hq, hL, hx, h1, h2, h3, h4⟩ := HO.out.at k k hlt (by rw [M.mk_rowlen _ _ _ _ hlt]; exact hlt)
        rw [M.mk_rowlen _ _ _ _ hlt] at hL
        obtain rfl : m = L := hL.symm
        have hN := h4 0
        rw [M.mk_set _ _ _ _ _ _ hlt] at hN
        have HN := Lib.hid hN
        have hki : (k : Int) < (m : Int) := by omega
        clear hx h4 hN
        go_wp2
        go_roundw
        case rel =>
          refine ⟨k + 1, by omega, by go_num, (congrArg (OwnM _ _ _) (M.mk_congr fun i _ j _ => ?_)).mp HN.out, HB.out.setCell hq _⟩
          unfold M.diaF
          by_cases e : i = k
          · subst e
            by_cases e2 : j = i
            · subst e2; simp
            · rw [if_pos rfl, if_neg e2, if_neg (by omega), if_neg (by omega)]
          · rw [if_neg e]
            by_cases e2 : i = j ∧ i < k
            · rw [if_pos e2, if_pos (by omega)]
            · rw [if_neg e2, if_neg (by omega)]
        case measure => simp [intOf]; omega
      · obtain rfl : k = m := by omega
        go_wp2
        go_ret2
        rw [HF.out]
        refine ⟨_, _, _, rfl, (congrArg (OwnM _ _ _) (M.mk_congr fun i hi j _ => ?_)).mp HO.out, HB.out⟩
        unfold M.diaF M.starF
        by_cases e : i = j
        · rw [if_pos ⟨e, hi⟩, if_pos e]
        · rw [if_neg (by omega), if_neg e]
  · simp only [Bool.not_eq_true] at hp
    have hr2 : r = ([], false) := by rw [hr]; unfold M.plusL; rw [hp]; rfl
    have HF : Hid (M.starL R n = ([], false)) := by show _ = _; unfold M.starL; rw [hp]; rfl
    clear hr hp
    subst hr2
    go_enter Tryz.func89, Tryz.ntmps89
    go_wp2_with fail
    refine HC.mono ?_
    rintro e w1 ⟨a2, m, cap2, rfl, hO, hb⟩
    obtain rfl : m = 0 := by have := hO.len; simpa using this
    have HB0 := Lib.hid hb
    have HO0 := Lib.hid hO
    clear hO hb HC
    go_wp2
    go_loop [14] (fun i => i = .int .i64 0) (fun _ => 0)
    case atStart => rfl
    case round =>
      subst hrel
      go_wp2
      go_ret2
      rw [HF.out]
      exact ⟨_, _, _, rfl, HO0.out, HB0.out⟩



end Go.Proofs.YtlljnfljcdljaabGreat.V

namespace Go.Proofs.YtlljnfljcdljaabGreat.V
open Go.RowKit



end Go.Proofs.YtlljnfljcdljaabGreat.V
