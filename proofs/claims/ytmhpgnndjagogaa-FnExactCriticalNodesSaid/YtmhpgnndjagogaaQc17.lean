/- Texts laid together: BstZ, Cms, Cic, Cmm, Mat2. -/
import Derived.Test.YtmhpgnndjagogaaQc15
import Derived.Test.YtmhpgnndjagogaaQc7
import Derived.Test.YtmhpgnndjagogaaQc12
import Derived.Test.YtmhpgnndjagogaaQc9
import Derived.Test.YtmhpgnndjagogaaQc4
import Derived.Test.YtmhpgnndjagogaaQc16
import Derived.StillTailTactics
import Derived.Test.YtmhpgnndjagogaaRows
import Derived.Test.YtmhpgnndjagogaaQc1
import Derived.Test.YtmhpgnndjagogaaQc3
import Derived.WalkKit
import Derived.ProofKit
import Derived.WalkSmall
import Derived.Deep.QuietTactic
import Derived.BigQuiet
import Derived.BigRegion
import Derived.Deep.Draws
import Derived.Lib.Hide
import Derived.OpenShut
import Derived.Deep.OwnRows
set_option linter.unusedSimpArgs false
set_option linter.unusedVariables false
set_option linter.unusedSectionVars false
namespace Go.Proofs.Ytmhpgnndjagogaa
namespace M
/-- A list that the search may stand at. -/
def Cyc0 (A : Nat → Nat → Int) (n : Nat) (q : List Int) : Prop :=
  (q = [] ∧ hasCyc A n = false) ∨ (nodesB n q = true ∧ diffB q = true ∧ 1 ≤ q.length ∧ arW A q ≠ -1000000000000000)
def best2 (R : List (List Int)) : List Int := if hasCyc (ent R) R.length then bestCyc R else []
theorem fnd_arW {A : Nat → Nat → Int} {n : Nat} {ov : Int} {q : List Int} (hn : n ≤ 10) (hA : ∀ i j, i < n → j < n → Sm 1000000 (A i j)) (h : Fnd A n ov q) : arW A q ≠ -1000000000000000 := by
  obtain ⟨g1, g2, g3, g4, g5, g6⟩ := h
  have hw : arW A q = wkc A (vx q) (q.length - 1) + A (vx q 0) (lastV q) := times_fin g4 g5
  intro e
  have hs := arW_sm hA g1 g3
  have hl := diffB_len g1 g2
  have h1 := hA (vx q 0) (lastV q) (vx_lt g1 (by omega)) (vx_lt g1 (by omega))
  have h2 := wkc_sm (A := A) (v := vx q) (t := q.length - 1) (fun u hu => sm_wide (hA _ _ (vx_lt g1 (by omega)) (vx_lt g1 (by omega))))
  unfold Sm at h1 h2 hs
  have hk : ((q.length - 1 : Nat) : Int) ≤ 9 := by omega
  generalize ((q.length - 1 : Nat) : Int) = k at *
  omega
theorem cyc0_start {A : Nat → Nat → Int} {n : Nat} (hn : n ≤ 10) (hA : ∀ i j, i < n → j < n → Sm 1000000 (A i j)) : Cyc0 A n (overL A n (-1000000000000000)) := by
  have hW : ∀ i j, i < n → j < n → Sm 1000001000000 (A i j) := fun i j hi hj => sm_wide (hA i j hi hj)
  have h := over_bot hn hA
  by_cases e : (overL A n (-1000000000000000)).length = 0
  · left
    rw [← h]
    exact ⟨List.eq_nil_of_length_eq_zero e, decide_eq_false (fun k => k e)⟩
  · right
    have hf := over_fnd hn hW e
    exact ⟨hf.1, hf.2.1, hf.2.2.1, fnd_arW hn hA hf⟩
theorem cyc0_mean {R : List (List Int)} {q : List Int} (h : nodesB R.length q = true ∧ diffB q = true ∧ 1 ≤ q.length ∧ arW (ent R) q ≠ -1000000000000000) : mean2 R q = (cMean (ent R) q, true) := by
  obtain ⟨h1, h2, h3, h4⟩ := h
  unfold mean2
  rw [if_pos (by unfold cycB; rw [h1, h2, around_arW, decide_eq_true h3, decide_eq_true h4]; rfl)]
  rfl
end M
namespace V
open Go.RowKit
/-- The integers of a slice, as the world has them. -/
def readL (w : World) : Value → List Int
  | .slice (some ⟨b, off, _⟩) n _ => (List.range n).map fun i => match w.cell? ⟨b, off + i, none⟩ with | some (.int _ x) => x | _ => 0
  | _ => []
theorem readL_ints {w : World} {a : Option Addr} {n c : Nat} {l : List Int} (h : Ints .i64 w a n l) : readL w (.slice a n c) = l := by
  obtain ⟨h1, -, h3⟩ := h
  rcases h3 with h3 | ⟨b, off, rfl, -, h3⟩
  · subst h3
    obtain rfl : l = [] := List.eq_nil_of_length_eq_zero h1
    cases a <;> rfl
  · show (List.range n).map _ = l
    apply List.ext_getElem
    · simp [h1]
    · intro k k1 k2
      have e := h3 k (by omega)
      simp only [List.getElem_map, List.getElem_range, e]
      simp [k2]
theorem readL_own {w : World} {B n c : Nat} {a : Option Addr} {l : List Int} (h : Own w B (.slice a n c) l) : readL w (.slice a n c) = l := by
  exact readL_ints h.ints'
theorem own_caps {w : World} {B n c : Nat} {a : Option Addr} {l : List Int} (h : Own w B (.slice a n c) l) : n ≤ c ∧ c ≤ maxLen := by
  have hl := h.len
  obtain ⟨a', c', hv, h1, h2, -⟩ := own_form h
  injection hv with e1 e2 e3
  subst e3
  exact ⟨by omega, h2⟩
set_option maxRecDepth 100000 in
set_option maxHeartbeats 2000000 in
theorem sBest (a : Option Addr) (n cap : Nat) (R : List (List Int)) (w : World) (h : Mat w a n R) (hs : M.sqB R = true) :
    Calls Try.prog 37 #[.slice a n cap] w fun e w' => ∃ b' n' c', e = .returned (.tuple #[.slice b' n' c', .bool (M.hasCyc (M.ent R) n)]) ∧ Own w' w.heap.size (.slice b' n' c') (M.best2 R) ∧ Below w.heap.size w w' := by
  have HS := Lib.hid (sq_of h hs)
  have HMt := Lib.hid h
  have HQ := Lib.hid hs
  have HSm := Lib.hid (sm_of h hs)
  have hRn : R.length = n := h.1
  have HRn := Lib.hid hRn
  obtain ⟨n1, n2⟩ := (sq_of h hs).2.2.2
  clear h hs hRn
  go_enter Try.func37, Try.ntmps37
  go_wp2_with fail
  refine (sOver _ _ _ R (-1000000000000000) _ HS.out).mono ?_
  rintro e w1 ⟨b1, N1, c1, rfl, ho, hb⟩
  have HO1 := Lib.hid ho
  have HB1 := Lib.hid hb
  have HC1 := Lib.hid (M.cyc0_start n2 HSm.out)
  clear ho hb
  go_wp2
  go_loopw [4, 5, 6, 7] (fun v _ _ _ wr => ∃ (b : Option Addr) (N c : Nat) (q : List Int), v = .slice b N c ∧ Hid (Own wr w.heap.size (.slice b N c) q) ∧ Hid (M.Cyc0 (M.ent R) n q) ∧ Hid (Below w.heap.size w wr)) (fun v _ _ _ wr => M.mu (M.ent R) (readL wr v))
  case atStart => exact ⟨b1, N1, c1, _, rfl, HO1, HC1, HB1⟩
  case round =>
    clear HO1 HB1 HC1
    obtain ⟨b, N, c, q, rfl, HO, HC, HB⟩ := hrel
    obtain ⟨wo, rfl⟩ : ∃ x, x = wr := ⟨_, rfl⟩
    have hNl := HO.out.len
    rcases HC.out with ⟨hq0, hno⟩ | hq
    · have hN0 : N = 0 := by rw [hNl, hq0]; rfl
      have HE : Hid (M.best2 R = []) := by show _ = _; unfold M.best2; rw [HRn.out, hno]; rfl
      have HNo := Lib.hid hno
      subst hN0
      clear hq0 hno hNl
      go_wp2
      go_ret2
      refine ⟨none, 0, 0, ?_, ?_, HB.out⟩
      · rw [HNo.out]; rfl
      · rw [HE.out]; exact own_nil _ _
    · have hlen := M.diffB_len hq.1 hq.2.1
      have hN1 : 0 < N := by omega
      have hcap := own_caps HO.out
      have HM2 : Hid (M.mean2 R q = (M.cMean (M.ent R) q, true)) := M.cyc0_mean (by rw [HRn.out]; exact hq)
      have HCap := Lib.hid hcap
      have HNear := Lib.hid (M.cMean_near HSm.out hq.2.2.1 (by omega) hq.1 hq.2.2.2).1
      have HQq := Lib.hid hq
      have HLen := Lib.hid hlen
      have HNl := Lib.hid hNl
      obtain ⟨r, hr⟩ : ∃ r, r = M.cMean (M.ent R) q := ⟨_, rfl⟩
      have HR := Lib.hid hr
      obtain ⟨r1, r2⟩ := r
      have HSh : Hid (∀ i j, i < n → j < n → M.Sm 1000001000000 (M.shf (M.ent R) r1 r2 i j)) := by
        show ∀ i j, _
        have := M.sh_sm HSm.out HNear.out
        rw [← hr] at this; exact this
      have HNe : Hid (M.Near r1 r2) := by show M.Near r1 r2; have := HNear.out; rw [← hr] at this; exact this
      clear hq hlen hcap hr hNl
      go_wp2_with fail
      refine (sMean _ _ _ R _ _ _ q _ (HMt.out.below HB.out) HQ.out HO.out.ints' HCap.out.1 HCap.out.2).mono ?_
      rintro e w2 ⟨rfl, hb2⟩
      rw [HM2.out, ← HR.out]
      have HB2 := Lib.hid hb2
      clear hb2
      go_wp2_with fail
      obtain ⟨wb, hwb⟩ : ∃ x, x = w2.alloc (rbox r1 r2) := ⟨_, rfl⟩
      have HX : Hid (Boxed w2 wb r1 r2) := by show Boxed _ _ _ _; rw [hwb]; exact boxed _ _ _
      have HBw := Lib.hid (HB.out.trans (HB2.out.mono HB.out.size))
      have HBx := Lib.hid (HBw.out.trans (HX.out.below.mono HBw.out.size))
      change Calls _ _ _ (w2.alloc (rbox r1 r2)) _
      rw [← hwb]
      clear hwb
      refine (sShift _ _ _ R r1 r2 _ (HMt.out.below HBx.out) HS.out.2.1 n1 n2 HSm.out HNe.out).mono ?_
      rintro e w3 ⟨b3, c3, rfl, ho, hb⟩
      have HO3 := Lib.hid ho
      have HB3 := Lib.hid hb
      clear ho hb
      obtain ⟨q', hq'⟩ : ∃ q', q' = M.overL (M.shf (M.ent R) r1 r2) n 0 := ⟨_, rfl⟩
      have HOv : Hid (M.overL (M.ent (M.mk n n (M.shf (M.ent R) r1 r2))) n 0 = q') := by
        show _ = _
        rw [hq']; exact M.over_congr n2 HSh.out fun i j hi hj => M.ent_mk _ _ _ _ _ hi hj
      have HQ' := Lib.hid hq'
      clear hq'
      have HSq : ∀ wx b c, OwnM wx wb.heap.size (.slice b n c) (M.mk n n (M.shf (M.ent R) r1 r2)) → Sq wx b n (M.mk n n (M.shf (M.ent R) r1 r2)) := fun wx b c ho =>
        ⟨ho.mat, rect_mk _ _ _, fun i j hi hj => by rw [M.ent_mk _ _ _ _ _ hi hj]; exact HSh.out i j hi hj, n1, n2⟩
      have HSQ := Lib.hid HSq
      clear HSq
      go_wp2_with fail
      refine (sOver _ _ _ (M.mk n n (M.shf (M.ent R) r1 r2)) 0 _ (HSQ.out _ _ _ HO3.out)).mono ?_
      rintro e w4 ⟨b4, N4, c4, rfl, ho, hb⟩
      rw [HOv.out] at ho
      have HO4 := Lib.hid ho
      have HB4 := Lib.hid (HB3.out.trans (hb.mono HB3.out.size))
      obtain ⟨p0, p1⟩ := HX.out.cells HB4.out
      have hN4 := ho.len
      have HN4 := Lib.hid hN4
      clear ho hb
      by_cases h4 : N4 = 0
      · have hfi := M.fnd_is n2 HSm.out HQq.out.1 HQq.out.2.1 HQq.out.2.2.1 HQq.out.2.2.2 (by rw [← HR.out, ← HQ'.out, ← hN4, h4])
        have HNo : Hid (M.hasCyc (M.ent R) n = true) := hfi.1
        have HE : Hid (M.best2 R = M.overL (M.shf (M.ent R) r1 r2) n (-1)) := by
          show _ = _
          unfold M.best2
          rw [HRn.out, hfi.1, if_pos rfl]
          unfold M.bestCyc
          rw [HRn.out, ← hfi.2, ← HR.out]
        clear hfi hN4
        subst h4
        go_wp2_with fail
        refine (sShift _ _ _ R r1 r2 _ (HMt.out.below (HBx.out.trans (HB4.out.mono HBx.out.size))) HS.out.2.1 n1 n2 HSm.out HNe.out).mono ?_
        rintro e w5 ⟨b5, c5, rfl, ho, hb⟩
        have HO5 := Lib.hid ho
        have HB5 := Lib.hid (HB4.out.trans (hb.mono HB4.out.size))
        have HSQ5 : Hid (Sq w5 b5 n (M.mk n n (M.shf (M.ent R) r1 r2))) := HSQ.out _ _ _ (ho.mono HB4.out.size)
        clear ho hb
        go_wp2_with fail
        refine (sOver _ _ _ (M.mk n n (M.shf (M.ent R) r1 r2)) (-1) _ HSQ5.out).mono ?_
        rintro e w6 ⟨b6, N6, c6, rfl, ho, hb⟩
        rw [M.over_congr (A := M.shf (M.ent R) r1 r2) n2 HSh.out fun i j hi hj => M.ent_mk _ _ _ _ _ hi hj, ← HE.out] at ho
        have HB6 := Lib.hid (HBx.out.trans ((HB5.out.trans (hb.mono HB5.out.size)).mono HBx.out.size))
        have HO6 := Lib.hid (ho.mono (Nat.le_trans HBx.out.size HB5.out.size))
        clear ho hb
        go_wp2
        go_ret2
        exact ⟨b6, N6, c6, by rw [HNo.out]; rfl, HO6.out, HB6.out⟩
      · have hf : M.Fnd (M.shf (M.ent R) (M.cMean (M.ent R) q).1 (M.cMean (M.ent R) q).2) n 0 q' := by
          have hne : (M.overL (M.shf (M.ent R) r1 r2) n 0).length ≠ 0 := by rw [← HQ'.out]; omega
          have := M.over_fnd n2 HSh.out hne
          rw [← HQ'.out] at this
          rw [← HR.out]; exact this
        obtain ⟨g1, g2, g3, g4, g5, g6⟩ := M.fnd_up n2 HSm.out HQq.out.1 HQq.out.2.1 HQq.out.2.2.1 HQq.out.2.2.2 hf
        have HC' : Hid (M.Cyc0 (M.ent R) n q') := .inr ⟨g1, g2, g3, g5⟩
        have HL : Hid (M.mu (M.ent R) q' < M.mu (M.ent R) q) := M.mu_lt HQq.out.2.2.1 (Nat.le_trans HLen.out n2) g3 g4 (M.cMean_near HSm.out g3 g4 g1 g5).2.2.1 g6
        have HB6 := Lib.hid (HBx.out.trans (HB4.out.mono HBx.out.size))
        have HO6 := Lib.hid (HO4.out.mono (Nat.le_trans HBx.out.size HB3.out.size))
        have hN4p : 0 < N4 := by omega
        clear hf g1 g2 g3 g4 g5 g6 hN4
        go_wp2
        go_roundw
        case rel => exact ⟨b4, N4, c4, q', rfl, HO6, HC', HB6⟩
        case measure =>
          show M.mu _ (readL w4 (.slice b4 N4 c4)) < M.mu _ (readL wo (.slice b N c))
          rw [readL_own HO6.out, readL_own HO.out]; exact HL.out
end V
end Go.Proofs.Ytmhpgnndjagogaa

namespace Go.Proofs.Ytmhpgnndjagogaa
namespace V
open Go.RowKit
end V
end Go.Proofs.Ytmhpgnndjagogaa

namespace Go.Proofs.Ytmhpgnndjagogaa
namespace M
def arcsQ (R : List (List Int)) (j i : Nat) : List (List Int) := arcsP R j ++ arcRow R j i
theorem arcsQ_zero (R : List (List Int)) (j : Nat) : arcsQ R j 0 = arcsP R j := by simp [arcsQ, arcRow]
theorem arcsQ_next (R : List (List Int)) (j i : Nat) : arcsQ R j (i + 1) = arcsQ R j i ++ (if crB R j i then [[(j : Int), (i : Int)]] else []) := by
  unfold arcsQ; rw [arcRow_next, List.append_assoc]
theorem arcsQ_end (R : List (List Int)) (j : Nat) : arcsQ R j R.length = arcsP R (j + 1) := by unfold arcsQ; rw [arcsP_next]
theorem arcsQ_len (R : List (List Int)) {j i : Nat} (hj : j ≤ R.length) (hi : i ≤ R.length) (hn : R.length ≤ 10) : (arcsQ R j i).length ≤ 200 := by
  have h1 := arcsP_len R j
  have h2 := arcRow_len R j i
  have h3 := Nat.mul_le_mul hj (Nat.le_refl R.length)
  have h4 := Nat.mul_le_mul hn hn
  unfold arcsQ
  rw [List.length_append]
  omega
end M
namespace V
set_option maxRecDepth 100000
open Go.RowKit
set_option maxRecDepth 100000 in
set_option maxHeartbeats 1000000 in
theorem sCode (a : Option Addr) (n cap : Nat) (R : List (List Int)) (w : World) (h : Mat w a n R) :
    Calls Try.prog 31 #[.slice a n cap] w fun e w' => e = .returned (.int .i64 (M.crCode R)) ∧ Below w.heap.size w w' := by
  have HA := Lib.hid h
  have HRn := Lib.hid h.1
  by_cases hs : M.sqB R = true
  · have HS := Lib.hid hs
    obtain ⟨c, hc⟩ : ∃ c, c = M.hasCyc (M.ent R) n := ⟨_, rfl⟩
    have HNo := Lib.hid hc.symm
    have HE : Hid (M.crCode R = if c then 0 else 4) := by show _ = _; unfold M.crCode; rw [if_pos hs, HRn.out, ← hc]
    clear h hs hc
    go_enter Try.func31, Try.ntmps31
    go_wp2_with fail
    refine (sSquare_b _ _ _ R _ true HS.out HA.out).mono ?_
    rintro e w' ⟨rfl, qd, rfl⟩
    go_wp2_with fail
    refine (sBest _ _ _ R _ (HA.out.below (b_draws _ _)) HS.out).mono ?_
    rintro e w1 ⟨b', n', c', rfl, ho, hb0⟩
    rw [HNo.out]
    have HB := Lib.hid ((b_draws w qd).trans hb0)
    clear ho hb0
    cases c with
    | false =>
      go_wp2
      go_ret
      exact ⟨by rw [HE.out]; rfl, HB.out⟩
    | true =>
      go_wp2
      go_ret
      exact ⟨by rw [HE.out]; rfl, HB.out⟩
  · simp only [Bool.not_eq_true] at hs
    have HS := Lib.hid hs
    have HE : Hid (M.crCode R = 1) := by show _ = _; unfold M.crCode; rw [if_neg (by rw [hs]; exact Bool.false_ne_true)]
    clear h hs
    go_enter Try.func31, Try.ntmps31
    go_wp2_with fail
    refine (sSquare_b _ _ _ R _ false HS.out HA.out).mono ?_
    rintro e w' ⟨rfl, qd, rfl⟩
    go_wp2
    go_ret
    exact ⟨by rw [HE.out]; rfl, b_draws _ _⟩
theorem ownLit2 (w : World) (x y : Int) : Own (w.alloc (.cells #[.int .i64 x, .int .i64 y] 2)) w.heap.size (.slice (some ⟨w.heap.size, 0, none⟩) 2 2) [x, y] := World.ownsRow_lit w #[.int .i64 x, .int .i64 y] 2 (Nat.le_refl _) (by decide) rfl
theorem appendRowLit (w0 : World) {ops : Array Oper} {rest : List Oper} {o : Oper} {a : Act} {Q : Exit → Act → World → Prop} (hgd : o.guard = none) (s x : Operand)
    (ho : o.op = .call { callee := .builtin .append, args := #[s, x], argTypes := #[22, 22] }) (B : Nat) (v : Value) (L : List (List Int)) (p q : Int) (n : Nat) (hn : L.length = n) (hs : a.eval s = v) (hown : OwnM w0 B v L)
    (hx : a.eval x = .slice (some ⟨w0.heap.size + 1, 0, none⟩) 1 1) (hlen : L.length ≤ 2000000) (hB : B ≤ w0.heap.size)
    (h : ∀ b' c' w', OwnM w' B (.slice b' (n + 1) c') (L ++ [[p, q]]) → Below B w0 w' → wpList Try.prog ops Q rest (a.put o.dst (.slice b' (n + 1) c')) w') :
    wpList Try.prog ops Q (o :: rest) a ((w0.alloc (.cells #[.int .i64 p, .int .i64 q] 2)).alloc (.cells #[.slice (some ⟨w0.heap.size, 0, none⟩) 2 2] 25)) :=
  appendRow w0 (w0.alloc (.cells #[.int .i64 p, .int .i64 q] 2)) hgd s x ho B v (.slice (some ⟨w0.heap.size, 0, none⟩) 2 2) L [p, q] n hn hs hown (b_alloc _ _) (ownLit2 _ _ _) (by rw [hx]; simp) hlen hB fun b' c' w' h1 h2 _ => h b' c' w' h1 (((b_alloc _ _).mono hB).trans h2)
set_option maxRecDepth 100000 in
set_option maxHeartbeats 4000000 in
theorem sArcs (a : Option Addr) (n cap : Nat) (R : List (List Int)) (w : World) (h : Mat w a n R) (hs : M.sqB R = true) (hc : M.hasCyc (M.ent R) R.length = true) :
    Calls Try.prog 51 #[.slice a n cap] w fun e w' => ∃ b c, e = .returned (.slice b (M.arcsL R).length c) ∧ OwnM w' w.heap.size (.slice b (M.arcsL R).length c) (M.arcsL R) ∧ Below w.heap.size w w' := by
  have HA := Lib.hid h
  have hRn : R.length = n := h.1
  have HRn := Lib.hid hRn
  have HS := Lib.hid hs
  obtain ⟨hr, n1, n2, hsm⟩ := sq_parts h hs
  have HR := Lib.hid hr
  have HSm := Lib.hid hsm
  obtain ⟨hnear, hshm, hp⟩ := M.cr_t hs hc
  have hbc := M.best_cyc hs hc
  have hC : M.mean2 R (M.best2 R) = (M.bestR (M.ent R) n, true) := by
    unfold M.best2
    rw [hc, if_pos rfl]
    unfold M.mean2
    rw [if_pos hbc.1, hbc.2.1, hRn]
  have HCb : Hid (∀ i j, M.crB R j i = decide (M.times (M.crS R i j) (M.starF (M.crS R) n j i) = 0)) := fun i j => by unfold M.crB; rw [hRn]
  have hS : M.crS R = M.shf (M.ent R) (M.bestR (M.ent R) n).1 (M.bestR (M.ent R) n).2 := by
    funext i j; unfold M.crS; rw [hRn]
  rw [hRn] at hc hnear hp hshm
  obtain ⟨r, hrr⟩ : ∃ r, r = M.bestR (M.ent R) n := ⟨_, rfl⟩
  rw [← hrr] at hnear hS hC
  have HC := Lib.hid hC
  have HSe := Lib.hid hS
  have HNear := Lib.hid hnear
  have HP := Lib.hid hp
  have HSh := Lib.hid hshm
  have HSb : Hid (∀ i j, i < n → j < n → M.Big (M.crS R i j)) := fun i j hi hj => M.big_sm (hshm i j hi hj) (by omega)
  have HTb : Hid (∀ i j, i < n → j < n → M.Big (M.starF (M.crS R) n i j)) := fun i j hi hj => M.big_sm (M.star_sm n2 hshm hp hi hj) (by omega)
  have HLa : Hid (∀ j i, j ≤ n → i ≤ n → (M.arcsQ R j i).length ≤ 200) := fun j i hj hi => M.arcsQ_len R (by rw [hRn]; exact hj) (by rw [hRn]; exact hi) (by rw [hRn]; exact n2)
  obtain ⟨r1, r2⟩ := r
  clear h hs hr hsm hc hnear hp hrr hS hRn hshm hC hbc
  go_enter Try.func51, Try.ntmps51
  go_wp2_with fail
  refine (sBest _ _ _ R _ HA.out HS.out).mono ?_
  rintro e w1 ⟨b1, m1, c1, rfl, ho, hb⟩
  have HO1 := Lib.hid ho
  have HB1 := Lib.hid hb
  have HCp := Lib.hid (own_caps ho)
  clear ho hb
  go_wp2_with fail
  refine (sMean _ _ _ R _ _ _ (M.best2 R) _ (HA.out.below HB1.out) HS.out HO1.out.ints' HCp.out.1 HCp.out.2).mono ?_
  rintro e w2 ⟨rfl, hb⟩
  rw [HC.out]
  have HB2 := Lib.hid (HB1.out.trans (hb.mono HB1.out.size))
  clear hb HO1 HCp
  obtain ⟨wb, hwb⟩ : ∃ x, x = w2.alloc (rbox r1 r2) := ⟨_, rfl⟩
  have HX : Hid (Boxed w2 wb r1 r2) := by show Boxed _ _ _ _; rw [hwb]; exact boxed _ _ _
  have HBx := Lib.hid (HB2.out.trans (HX.out.below.mono HB2.out.size))
  go_wp2_with fail
  change Calls _ _ _ (w2.alloc (rbox r1 r2)) _
  rw [← hwb]
  clear hwb
  refine (sShift _ _ _ R r1 r2 _ (HA.out.below HBx.out) HR.out n1 n2 HSm.out HNear.out).mono ?_
  rintro e w3 ⟨b3, c3, rfl, ho, hb⟩
  rw [← HSe.out] at ho
  have HSq3 : Hid (Sq w3 b3 n (M.mk n n (M.crS R))) := ⟨ho.mat, rect_mk _ _ _, fun i j hi hj => by rw [M.ent_mk _ _ _ _ _ hi hj]; exact HSh.out i j hi hj, n1, n2⟩
  obtain ⟨g3, q0, L0, c0, x0, hgg, hgB, -⟩ := ho.at 0 0 (by omega) (by rw [(rect_mk n n _).2 0 (by omega)]; omega)
  subst hgg
  have HO3 := Lib.hid ho
  have HB3 := Lib.hid (HBx.out.trans (hb.mono HBx.out.size))
  clear ho hb hgB
  go_wp2_with fail
  refine (sStar _ _ _ (M.mk n n (M.crS R)) _ HSq3.out).mono ?_
  rintro e w4 ⟨b4, c4, rfl, ho, hb⟩
  have hnp : M.noPos (M.ent (M.mk n n (M.crS R))) n = true := by rw [M.noPos_mk]; exact HP.out
  rw [M.bm_star n2 HSq3.out.2.2.1 hnp, M.starM_mk] at ho
  rw [hnp]
  obtain ⟨g4, q0, L0, c0, x0, hgg, hgB, -⟩ := ho.at 0 0 (by omega) (by rw [(rect_mk n n _).2 0 (by omega)]; omega)
  subst hgg
  have HO4 := Lib.hid ho
  have HO34 := Lib.hid (HO3.out.below hb)
  have HB4 := Lib.hid (HB3.out.trans (hb.mono HB3.out.size))
  have hz4 := HB4.out.size
  clear ho hb hgB hnp HSq3 HO3
  go_wp2
  go_loopw [10, 11, 12] (fun o jv _ wr => ∃ (j : Nat) (b : Option Addr) (c : Nat), j ≤ n ∧ jv = .int .i64 j ∧ o = .slice b (M.arcsP R j).length c ∧ Hid (OwnM wr w4.heap.size (.slice b (M.arcsP R j).length c) (M.arcsP R j)) ∧ Hid (Below w4.heap.size w4 wr)) (fun _ jv _ _ => n - (intOf jv).toNat)
  case atStart => exact ⟨0, _, _, Nat.zero_le _, rfl, rfl, ownM_lit0 _ _ (Nat.le_refl _), b_alloc _ _⟩
  case round =>
    obtain ⟨j, b, c, hj, rfl, rfl, HO, HB⟩ := hrel
    by_cases hjl : j < n
    · have hji : (j : Int) < (n : Int) := by omega
      have e0 : M.arcsP R j = M.arcsQ R j 0 := (M.arcsQ_zero R j).symm
      have HO' : Hid (OwnM wr w4.heap.size (.slice b (M.arcsQ R j 0).length c) (M.arcsQ R j 0)) := by show OwnM _ _ _ _; rw [← e0]; exact HO.out
      rw [e0]
      clear e0 HO
      go_wp2
      go_loopw [10, 12] (fun o iv wr => ∃ (i : Nat) (b : Option Addr) (c : Nat), i ≤ n ∧ iv = .int .i64 i ∧ o = .slice b (M.arcsQ R j i).length c ∧ Hid (OwnM wr w4.heap.size (.slice b (M.arcsQ R j i).length c) (M.arcsQ R j i)) ∧ Hid (Below w4.heap.size w4 wr)) (fun _ iv _ => n - (intOf iv).toNat)
      case atStart => exact ⟨0, _, _, Nat.zero_le _, rfl, rfl, HO', HB⟩
      case round =>
        clear HO' HB
        obtain ⟨i, b, c, hi, rfl, rfl, HO, HB⟩ := hrel
        by_cases hil : i < n
        · have hii : (i : Int) < (n : Int) := by omega
          obtain ⟨gg, q, c5, -, -, hgg, -, s1, s2, -⟩ := (HO34.out.below HB.out).tri (rect_mk _ _ _) i j j hil hjl hjl
          injection hgg with hgg
          injection hgg with hgg
          subst hgg
          obtain ⟨gg, q2, c6, -, -, hgg, -, s3, s4, -⟩ := (HO4.out.below HB.out).tri (rect_mk _ _ _) j i i hjl hil hil
          injection hgg with hgg
          injection hgg with hgg
          subst hgg
          rw [M.ent_mk _ _ _ _ _ hil hjl] at s2
          rw [M.ent_mk _ _ _ _ _ hjl hil] at s4
          have hcb := HCb.out i j
          have hT : ∀ w : World, Calls Try.prog 81 #[.int .i64 (M.crS R i j), .int .i64 (M.starF (M.crS R) n j i)] w fun e w' => e = .returned (.int .i64 (M.times (M.crS R i j) (M.starF (M.crS R) n j i))) ∧ w = w' := fun w => sTimesB _ _ _ (HSb.out i j hil hjl) (HTb.out j i hjl hil)
          generalize M.crS R i j = x at *
          generalize M.starF (M.crS R) n j i = y at *
          generalize M.times x y = z at *
          have HT := Lib.hid hT
          have hlen := HLa.out j i hj hi
          have HNx := Lib.hid (M.arcsQ_next R j i)
          clear hT
          by_cases hz : z = 0
          · have hz2 : (z == 0) = true := by simp [hz]
            have HN : Hid (M.arcsQ R j (i + 1) = (M.arcsQ R j i) ++ [[(j : Int), (i : Int)]]) := by
              show _ = _; rw [HNx.out, hcb, decide_eq_true hz, if_pos rfl]
            clear hz hcb HNx
            go_wp2
            go_quiet ((go_at_call 81; exact q_one_s (HT.out _)))
            generalize M.arcsQ R j i = L at *
            generalize hwq : World.drewN wr _ = wq
            have HOq : Hid (OwnM wq w4.heap.size (.slice b L.length c) L) := by show OwnM _ _ _ _; rw [← hwq]; exact HO.out.below (b_draws _ _)
            have HBq : Hid (Below w4.heap.size w4 wq) := by show Below _ _ _; rw [← hwq]; exact HB.out.trans ((b_draws _ _).mono HB.out.size)
            clear hwq
            clear HO HB s1 s2 s3 s4
            go_wp2_with (at_builtin; refine appendRowLit _ rfl (.tmp 61) (.tmp 65) rfl w4.heap.size _ L (j : Int) (i : Int) _ rfl rfl HOq.out rfl (by omega) HBq.out.size ?_)
            intro b7 c7 w7 hO7 hb7
            have HO7 := Lib.hid hO7
            have HB7 := Lib.hid (HBq.out.trans hb7)
            clear hO7 hb7
            go_wp2
            go_roundw
            case rel => exact ⟨i + 1, b7, c7, by omega, by go_num, by rw [HN.out, List.length_append]; rfl, by show OwnM _ _ _ _; rw [HN.out, List.length_append]; exact HO7.out, HB7⟩
            case measure => simp [intOf]; omega
          · have hz2 : (z == 0) = false := by simpa using hz
            have HN : Hid (M.arcsQ R j (i + 1) = M.arcsQ R j i) := by
              show _ = _; rw [HNx.out, hcb, decide_eq_false hz]; simp
            clear hz hcb HNx hlen
            have HOd := fun q => Lib.hid (HO.out.below (b_draws wr q))
            have HBd := fun q => Lib.hid (HB.out.trans ((b_draws wr q).mono HB.out.size))
            go_wp2
            go_quiet ((go_at_call 81; exact q_one_s (HT.out _)))
            go_wp2
            go_roundw
            case rel => exact ⟨i + 1, b, c, by omega, by go_num, by rw [HN.out], by show OwnM _ _ _ _; rw [HN.out]; exact (HOd _).out, HBd _⟩
            case measure => simp [intOf]; omega
        · obtain rfl : i = n := by omega
          have HN : Hid (M.arcsQ R j i = M.arcsP R (j + 1)) := by show _ = _; rw [← M.arcsQ_end, HRn.out]
          have HO2 : Hid (OwnM wr w4.heap.size (.slice b (M.arcsP R (j + 1)).length c) (M.arcsP R (j + 1))) := by show OwnM _ _ _ _; rw [← HN.out]; exact HO.out
          rw [HN.out]
          clear HO
          go_wp2
          go_roundw
          case rel => exact ⟨j + 1, b, c, by omega, by go_num, rfl, HO2, HB⟩
          case measure => simp [intOf]; omega
    · obtain rfl : j = n := by omega
      have HN : Hid (M.arcsP R j = M.arcsL R) := by show _ = _; unfold M.arcsL; rw [HRn.out]
      have HO2 : Hid (OwnM wr w4.heap.size (.slice b (M.arcsL R).length c) (M.arcsL R)) := by show OwnM _ _ _ _; rw [← HN.out]; exact HO.out
      rw [HN.out]
      clear HO
      go_wp2
      go_ret
      exact ⟨b, c, rfl, HO2.out.mono HB4.out.size, HB4.out.trans (HB.out.mono HB4.out.size)⟩
end V
end Go.Proofs.Ytmhpgnndjagogaa

namespace Go.Proofs.Ytmhpgnndjagogaa.V
set_option maxRecDepth 100000
open Go.RowKit Go.Maps
theorem retBI {b b' : Bool} {c c' : Int} (h : b = b') (hc : c = c') : Ending.returned (.tuple #[.bool b, .int .i64 c]) = .returned (.tuple #[.bool b', .int .i64 c']) := by subst h hc; rfl
def CPostB (r : Bool × Int) (w : World) (e : Ending) (w' : World) : Prop := e = .returned (.tuple #[.bool r.1, .int .i64 r.2]) ∧ Below w.heap.size w w'
set_option maxRecDepth 100000 in
set_option maxHeartbeats 2000000 in
theorem sIsCriticalCycle (a : Option Addr) (n cap : Nat) (R : List (List Int)) (a' : Option Addr) (N cap' : Nat) (l : List Int) (w : World) (h : Mat w a n R) (h' : Ints .i64 w a' N l) (hc1 : N ≤ cap') (hc2 : cap' ≤ maxLen) :
    Calls Try.prog 23 #[.slice a n cap, .slice a' N cap'] w (CPostB (M.isCritRes R l) w) := by
  have HA := Lib.hid h
  have HI := Lib.hid h'
  have HM := Lib.hid hc2
  have hRn : R.length = n := h.1
  by_cases hc : M.crCode R = 0
  · obtain ⟨h1, h2⟩ := M.cr_code hc
    have HS := Lib.hid h1
    have HK := Lib.hid hc
    have hbc := M.best_cyc h1 h2
    have hC : M.mean2 R (M.best2 R) = (M.bestR (M.ent R) R.length, true) := by
      unfold M.best2
      rw [h2, if_pos rfl]
      unfold M.mean2
      rw [if_pos hbc.1, hbc.2.1]
    obtain ⟨c, hcy⟩ : ∃ c, c = M.cycB R l := ⟨_, rfl⟩
    have hE : M.isCritRes R l = (c && decide (M.meanR (M.aroundW R l) l.length = M.bestR (M.ent R) R.length), 0) := by
      unfold M.isCritRes
      rw [if_pos hc, ← hcy]
      cases c with
      | false => rfl
      | true => rw [M.crit_cyc h1 h2 hcy.symm]
    have hmn : M.mean2 R l = if c then (M.meanR (M.aroundW R l) l.length, true) else ((0, 0), false) := by
      unfold M.mean2; rw [← hcy]
    generalize M.meanR (M.aroundW R l) l.length = m at *
    generalize M.bestR (M.ent R) R.length = r at *
    have HC := Lib.hid hC
    have HMn := Lib.hid hmn
    have HE := Lib.hid hE
    obtain ⟨r1, r2⟩ := r
    obtain ⟨m1, m2⟩ := m
    clear h h' hc2 hc h1 h2 hbc hC hcy hE hmn hRn
    go_enter Try.func23, Try.ntmps23
    go_wp2_with fail
    refine (sCode _ _ _ R _ HA.out).mono ?_
    rintro e w1 ⟨rfl, hb⟩
    rw [HK.out]
    have HB1 := Lib.hid hb
    clear hb
    go_wp2_with fail
    refine (sBest _ _ _ R _ (HA.out.below HB1.out) HS.out).mono ?_
    rintro e w2 ⟨b2, n2', c2, rfl, ho, hb⟩
    have HO2 := Lib.hid ho
    have HB2 := Lib.hid (HB1.out.trans (hb.mono HB1.out.size))
    have HCp := Lib.hid (own_caps ho)
    clear ho hb
    go_wp2_with fail
    refine (sMean _ _ _ R _ _ _ (M.best2 R) _ (HA.out.below HB2.out) HS.out HO2.out.ints' HCp.out.1 HCp.out.2).mono ?_
    rintro e w3 ⟨rfl, hb⟩
    rw [HC.out]
    have HB3 := Lib.hid (HB2.out.trans (hb.mono HB2.out.size))
    clear hb HO2 HCp
    obtain ⟨wb, hwb⟩ : ∃ x, x = w3.alloc (rbox r1 r2) := ⟨_, rfl⟩
    have HX : Hid (Boxed w3 wb r1 r2) := by show Boxed _ _ _ _; rw [hwb]; exact boxed _ _ _
    have HBx := Lib.hid (HB3.out.trans (HX.out.below.mono HB3.out.size))
    go_wp2_with fail
    change Calls _ _ _ (w3.alloc (rbox r1 r2)) _
    rw [← hwb]
    clear hwb
    refine (sMean _ _ _ R _ _ _ l _ (HA.out.below HBx.out) HS.out (HI.out.below HBx.out) hc1 HM.out).mono ?_
    rintro e w4 ⟨rfl, hb⟩
    rw [HMn.out]
    obtain ⟨p0, p1⟩ := HX.out.cells hb
    have hlt : w3.heap.size < w4.heap.size := by have := hb.size; have := HX.out.size; omega
    have HB4 := Lib.hid (HBx.out.trans (hb.mono HBx.out.size))
    clear hb
    cases c with
    | false =>
      go_wp2
      go_ret2
      exact ⟨by rw [HE.out]; rfl, by first | exact HB4.out.alloc HB4.out.size _ | exact HB4.out⟩
    | true =>
      have HE2 : Hid ((m1 == r1 && m2 == r2) = decide ((m1, m2) = (r1, r2))) := by
        show _ = _
        rw [Bool.eq_iff_iff, Bool.and_eq_true, decide_eq_true_eq, beq_iff_eq, beq_iff_eq, Prod.mk.injEq]
      go_wp2
      all_goals
        go_ret2
        refine ⟨by rw [HE.out]; refine retBI ?_ rfl; rw [Bool.true_and, ← HE2.out]; try simp_all, by first | exact HB4.out.alloc HB4.out.size _ | exact HB4.out⟩
  · obtain ⟨k, hk⟩ : ∃ k, k = M.crCode R := ⟨_, rfl⟩
    have HE : Hid (M.isCritRes R l = (false, k)) := by show _ = _; unfold M.isCritRes; rw [if_neg hc, hk]
    have HK := Lib.hid hk
    have hk0 : (k != 0) = true := by rw [hk]; simpa using hc
    clear h h' hc2 hc hRn hk
    go_enter Try.func23, Try.ntmps23
    go_wp2_with fail
    refine (sCode _ _ _ R _ HA.out).mono ?_
    rintro e w1 ⟨rfl, hb⟩
    rw [← HK.out]
    have HB := Lib.hid hb
    clear hb
    go_wp2
    go_ret2
    exact ⟨by rw [HE.out]; rfl, HB.out⟩
set_option maxRecDepth 100000 in
set_option maxHeartbeats 4000000 in
theorem isCriticalCycle (a : Option Addr) (n cap : Nat) (R : List (List Int)) (a' : Option Addr) (N cap' : Nat) (l : List Int) (w : World) (h : Mat w a n R) (h' : Ints .i64 w a' N l) (hc1 : N ≤ cap') (hc2 : cap' ≤ maxLen) :
    Calls Try.prog 24 #[.slice a n cap, .slice a' N cap'] w (CPostB (M.isCritRes R l) w) := by
  have HA := Lib.hid h
  have HI := Lib.hid h'
  have HM := Lib.hid hc2
  have hRn : R.length = n := h.1
  by_cases hc : M.crCode R = 0
  · obtain ⟨h1, h2⟩ := M.cr_code hc
    have H1 := Lib.hid h1
    have H2 := Lib.hid h2
    obtain ⟨-, n1, n2, -⟩ := sq_parts h h1
    obtain ⟨c, hcy⟩ : ∃ c, c = M.cycB R l := ⟨_, rfl⟩
    have HIC : Hid (M.isCycB R l = c) := by show _ = _; unfold M.isCycB; rw [h1, ← hcy]; rfl
    have hE : M.isCritRes R l = (c && M.crAll R l, 0) := by unfold M.isCritRes; rw [if_pos hc, ← hcy]
    cases c with
    | false =>
      have HE := Lib.hid hE
      clear h h' hc2 hc h1 h2 hcy hE hRn
      go_enter Try.func24, Try.ntmps24
      go_wp2_with fail
      refine (criticalArcs _ _ _ R _ HA.out H1.out H2.out).mono ?_
      rintro e w1 ⟨b1, m1, rfl, -, -, hI, hb⟩
      have HB1 := Lib.hid hb
      clear hI hb
      go_wp2_with fail
      refine (isCycle_b _ _ _ R _ _ _ l _ false HIC.out (HA.out.below HB1.out) (HI.out.below HB1.out) hc1 HM.out).mono ?_
      rintro e w2 ⟨rfl, hb⟩
      have HB2 := Lib.hid (HB1.out.trans (hb.mono HB1.out.size))
      clear hb
      go_wp2
      go_ret2
      exact ⟨by rw [HE.out]; rfl, HB2.out⟩
    | true =>
      obtain ⟨l1, hn, hdf, -⟩ := M.crCycB_t hcy.symm
      have l2 := M.diffB_len hn hdf
      have hlN : l.length = N := h'.1
      rw [hRn] at hn l2
      obtain ⟨m, rfl⟩ : ∃ m, N = m + 1 := ⟨N - 1, by omega⟩
      have HV : Hid (∀ k, k < m + 1 → M.vx l k < n ∧ l.getD k 0 = (M.vx l k : Int)) := fun k hk => by
        have h1 := M.vx_lt hn (k := k) (by omega)
        have h2 := M.nodesB_at hn (k := k) (by omega)
        exact ⟨h1, by unfold M.vx; omega⟩
      rw [M.crAll_split hlN] at hE
      have HE := Lib.hid hE
      clear h h' hc2 hc h1 h2 hcy hE hRn hn hdf l1
      go_enter Try.func24, Try.ntmps24
      go_wp2_with fail
      refine (criticalArcs _ _ _ R _ HA.out H1.out H2.out).mono ?_
      rintro e w1 ⟨b1, m1, rfl, -, -, hI, hb⟩
      have HI1 := Lib.hid hI
      have HB1 := Lib.hid hb
      clear hI hb
      go_wp2_with fail
      refine (isCycle_b _ _ _ R _ _ _ l _ true HIC.out (HA.out.below HB1.out) (HI.out.below HB1.out) hc1 HM.out).mono ?_
      rintro e w2 ⟨rfl, hb⟩
      have HI2 := Lib.hid (HI1.out.below hb HI1.out.lt)
      have HB2 := Lib.hid (HB1.out.trans (hb.mono HB1.out.size))
      have HL2 := Lib.hid (HI.out.below HB2.out)
      clear hb HI1
      obtain ⟨v0, e0⟩ := HV.out 0 (by omega)
      obtain ⟨vm, em⟩ := HV.out m (by omega)
      obtain ⟨cb, co, x0, rfl, hcb, hx0, cx0⟩ := HL2.out.at 0 (by omega)
      obtain ⟨cb', co', xm, hcc, -, hxm, cxm⟩ := HL2.out.at m (by omega)
      injection hcc with hcc
      injection hcc with hcc1 hcc2
      subst hcc1 hcc2
      rw [Nat.add_zero] at cx0
      rw [e0] at hx0
      rw [em] at hxm
      subst hx0 hxm
      clear e0 em
      have hmw : IntKind.i64.wrap (m : Int) = (m : Int) := IntWalk.i64_in _ (by omega)
      have hmi : (m : Int) < (m : Int) + 1 := by omega
      go_wp2
      go_region
      all_goals
        generalize hwq : World.drew (w2.alloc _) = wq
        have HBq : Hid (Below w2.heap.size w2 wq) := by show Below _ _ _; rw [← hwq]; exact (b_alloc _ _).drew
        have q0 : wq.cell? ⟨w2.heap.size, 0, none⟩ = some (.int .i64 (M.vx l m : Int)) := by rw [← hwq]; simp [go_sem]
        have q1 : wq.cell? ⟨w2.heap.size, 1, none⟩ = some (.int .i64 (M.vx l 0 : Int)) := by rw [← hwq]; simp [go_sem]
        clear hwq cx0 cxm
        have HIq := Lib.hid (HI2.out.below HBq.out HI2.out.lt)
        have HLq := Lib.hid (HL2.out.below HBq.out)
        have HBw := Lib.hid (HB2.out.trans (HBq.out.mono HB2.out.size))
        have hlast := HIq.out.look n2 (M.vx l m) (M.vx l 0) vm v0
        obtain ⟨z, hz⟩ : ∃ z, z = M.crB R (M.vx l m) (M.vx l 0) := ⟨_, rfl⟩
        rw [← hz] at hlast
        have HZ := Lib.hid hz
        clear hz
        by_cases hm0 : m = 0
        · have hk0 : M.crAllK R l m = true := by rw [hm0]; rfl
          have HE0 : Hid (M.isCritRes R l = (z, 0)) := by show _ = _; rw [HE.out, hk0, ← HZ.out]; simp
          have hmn : ¬ (0 : Int) < (m : Int) := by omega
          clear hm0 hk0
          by_cases hcap : cap' = 1
          all_goals
            go_wp2
            go_loopw [9, 10, 36] (fun _ _ i wr => i = .int .i64 0 ∧ wr = wq) (fun _ _ _ _ => 0)
            case atStart => exact ⟨rfl, rfl⟩
            case round =>
              obtain ⟨rfl, rfl⟩ := hrel
              go_wp2
              go_ret2
              exact ⟨by rw [HE0.out]; rfl, HBw.out⟩
        · have hcap : ¬ cap' = 1 := by omega
          go_wp2
          go_loopw [9, 10, 36] (fun _ _ i wr => ∃ t : Nat, t ≤ m ∧ i = .int .i64 t ∧ Hid (M.crAllK R l t = true) ∧ wr = wq) (fun _ _ i _ => m - (intOf i).toNat)
          case atStart => exact ⟨0, Nat.zero_le _, rfl, rfl, rfl⟩
          case round =>
            obtain ⟨t, ht, rfl, HT, rfl⟩ := hrel
            by_cases htl : t < m
            · have hti : (t : Int) < (m : Int) := by omega
              have hti1 : (t : Int) < (m : Int) + 1 := by omega
              obtain ⟨vt, et⟩ := HV.out t (by omega)
              obtain ⟨vt1, et1⟩ := HV.out (t + 1) (by omega)
              obtain ⟨cb2, co2, xt, hcc, -, hxt, cxt⟩ := HLq.out.at t (by omega)
              injection hcc with hcc
              injection hcc with hcc1 hcc2
              subst hcc1 hcc2
              obtain ⟨cb3, co3, xt1, hcc, -, hxt1, cxt1⟩ := HLq.out.at (t + 1) (by omega)
              injection hcc with hcc
              injection hcc with hcc1 hcc2
              subst hcc1 hcc2
              rw [show co + (t + 1) = co + 1 + t by omega] at cxt1
              rw [et] at hxt
              rw [et1] at hxt1
              subst hxt hxt1
              have hlk := HIq.out.look n2 (M.vx l t) (M.vx l (t + 1)) vt vt1
              have hnx := M.crAllK_next R l t
              rw [HT.out, Bool.true_and] at hnx
              clear et et1 hlast
              obtain ⟨y, hy⟩ : ∃ y, y = M.crB R (M.vx l t) (M.vx l (t + 1)) := ⟨_, rfl⟩
              rw [← hy] at hlk hnx
              clear hy
              have HNx := Lib.hid hnx
              clear hnx
              cases y with
              | true =>
                go_wp2
                go_roundw
                case rel => exact ⟨t + 1, by omega, by go_num, HNx, by first | rfl | trivial⟩
                case measure => simp [intOf]; omega
              | false =>
                have HE0 : Hid (M.isCritRes R l = (false, 0)) := by
                  show _ = _; rw [HE.out, M.crAllK_less HNx.out (by omega)]; rfl
                go_wp2
                go_ret2
                exact ⟨by rw [HE0.out]; rfl, HBw.out⟩
            · obtain rfl : t = m := by omega
              have HE0 : Hid (M.isCritRes R l = (z, 0)) := by show _ = _; rw [HE.out, HT.out, ← HZ.out]; simp
              go_wp2
              go_ret2
              exact ⟨by rw [HE0.out]; rfl, HBw.out⟩
  · have HC := Lib.hid hc
    obtain ⟨k, hk⟩ : ∃ k, k = M.crCode R := ⟨_, rfl⟩
    have HE : Hid (M.isCritRes R l = (false, k)) := by show _ = _; unfold M.isCritRes; rw [if_neg hc, hk]
    have HK := Lib.hid hk
    have hk0 : (k != 0) = true := by rw [hk]; simpa using hc
    clear h h' hc2 hc hRn hk
    go_enter Try.func24, Try.ntmps24
    go_wp2_with fail
    refine (criticalArcs_no _ _ _ R _ HA.out HC.out).mono ?_
    rintro e w1 ⟨rfl, hb⟩
    rw [← HK.out]
    have HB := Lib.hid hb
    clear hb
    go_wp2
    go_ret2
    exact ⟨by rw [HE.out]; rfl, HB.out⟩
end Go.Proofs.Ytmhpgnndjagogaa.V

namespace Go.Proofs.Ytmhpgnndjagogaa
namespace M
theorem mem_arcsL {R : List (List Int)} {l : List Int} : l ∈ arcsL R ↔ ∃ j i : Nat, j < R.length ∧ i < R.length ∧ crB R j i = true ∧ l = [(j : Int), (i : Int)] := by
  unfold arcsL arcsP arcRow
  simp only [List.mem_flatMap, List.mem_range]
  constructor
  · rintro ⟨j, hj, i, hi, h⟩
    cases e : crB R j i with
    | false => rw [e] at h; simp at h
    | true => rw [e] at h; simp at h; exact ⟨j, i, hj, hi, e, h⟩
  · rintro ⟨j, i, hj, hi, e, rfl⟩
    exact ⟨j, hj, i, hi, by rw [e]; simp⟩
theorem arcsL_at {R : List (List Int)} {k : Nat} (h : k < (arcsL R).length) : ∃ j i : Nat, j < R.length ∧ i < R.length ∧ crB R j i = true ∧ (arcsL R).getD k [] = [(j : Int), (i : Int)] := by
  refine mem_arcsL.1 ?_
  rw [List.getD_eq_getElem?_getD, List.getElem?_eq_getElem h, Option.getD_some]
  exact List.getElem_mem h
theorem arcsL_len (R : List (List Int)) (hn : R.length ≤ 10) : (arcsL R).length ≤ 100 := by
  have h := arcsP_len R R.length
  have := Nat.mul_le_mul hn hn
  unfold arcsL; omega
def arcHas (R : List (List Int)) (k i j : Nat) : Bool := ((arcsL R).take k).contains [(j : Int), (i : Int)]
def matK (R : List (List Int)) (k i j : Nat) : Int := if arcHas R k i j then ent R i j else -1000000000000000
theorem arcHas_next {R : List (List Int)} {k j i : Nat} (h : k < (arcsL R).length) (e : (arcsL R).getD k [] = [(j : Int), (i : Int)]) (s t : Nat) : arcHas R (k + 1) s t = (arcHas R k s t || (decide (s = i) && decide (t = j))) := by
  unfold arcHas
  have e2 : (arcsL R).take (k + 1) = (arcsL R).take k ++ [[(j : Int), (i : Int)]] := by
    rw [List.take_add_one, ← e, List.getD_eq_getElem?_getD, List.getElem?_eq_getElem h]; rfl
  rw [e2]
  by_cases hst : s = i ∧ t = j
  · obtain ⟨rfl, rfl⟩ := hst
    simp
  · have h1 : (decide (s = i) && decide (t = j)) = false := by
      by_cases a : s = i
      · by_cases b : t = j
        · exact absurd ⟨a, b⟩ hst
        · simp [b]
      · simp [a]
    rw [h1, Bool.or_false]
    have h2 : ([(t : Int), (s : Int)] = [(j : Int), (i : Int)]) = False := by
      simp only [List.cons.injEq, and_true, eq_iff_iff, iff_false]
      intro hh
      exact hst ⟨by omega, by omega⟩
    simp [h2]
theorem matK_zero (R : List (List Int)) (n : Nat) : mk n n (matK R 0) = botM n n := by
  unfold botM
  exact mk_congr fun i _ j _ => by unfold matK arcHas; simp
theorem matK_next {R : List (List Int)} {n k j i : Nat} (h : k < (arcsL R).length) (e : (arcsL R).getD k [] = [(j : Int), (i : Int)]) (hi : i < n) :
    (mk n n (matK R k)).set i (((mk n n (matK R k)).getD i []).set j (ent R i j)) = mk n n (matK R (k + 1)) := by
  rw [mk_set _ _ _ _ _ _ hi]
  refine mk_congr fun s _ t _ => ?_
  unfold matK
  rw [arcHas_next h e]
  by_cases a : s = i
  · by_cases b : t = j
    · subst a b; simp
    · rw [if_pos a, if_neg b]; simp [b]
  · rw [if_neg a]; simp [a]
theorem matK_end (R : List (List Int)) : mk R.length R.length (matK R (arcsL R).length) = crM R := by
  unfold crM
  refine mk_congr fun i hi j hj => ?_
  unfold matK crF arcHas
  rw [List.take_length]
  have : (arcsL R).contains [(j : Int), (i : Int)] = crB R j i := by
    apply Bool.eq_iff_iff.2
    rw [List.contains_iff_mem, mem_arcsL]
    constructor
    · rintro ⟨j', i', -, -, h, e⟩
      simp only [List.cons.injEq, and_true] at e
      rw [show j = j' by omega, show i = i' by omega]; exact h
    · intro h; exact ⟨j, i, hj, hi, h, rfl⟩
  rw [this]
theorem matRes_ok (R : List (List Int)) : okM (matRes R).1 := by
  unfold matRes
  by_cases h : crCode R = 0
  · rw [if_pos h]
    obtain ⟨h1, h2⟩ := cr_code h
    obtain ⟨n1, n2, hA⟩ := sq_sm h1
    obtain ⟨k1, k2⟩ := sqB_t h1
    right
    show isMat (crM R) = true
    unfold crM
    refine isMat_mk n1 n2 n1 n2 fun i hi j hj => ?_
    unfold crF
    split
    · exact (isMat_t k1).2.2.2.2.2 i hi j (by rw [← k2]; exact hj)
    · simp [isVal]
  · rw [if_neg h]; exact .inl rfl
end M
namespace V
set_option maxRecDepth 100000
open Go.RowKit
theorem OwnM.rowLt {w w' : World} {B n cap g i q m c : Nat} {R : List (List Int)} (h : OwnM w B (.slice (some ⟨g, 0, none⟩) n cap) R) (hr : Rect R n n) (hi : i < n) (hn : 1 ≤ n) (hg : w'.heap[g]? = w.heap[g]?)
    (hc : w'.cell? ⟨g, i, none⟩ = some (.slice (some ⟨q, 0, none⟩) m c)) : q < w.heap.size := by
  have e : w.cell? ⟨g, i, none⟩ = some (.slice (some ⟨q, 0, none⟩) m c) := (World.cell?_of_block (w := w') (a := ⟨g, i, none⟩) hg.symm).trans hc
  obtain ⟨g3, q3, c3', -, -, hgg, -, hrow3, hx3, -⟩ := h.tri hr i 0 0 hi (by omega) (by omega)
  injection hgg with hgg
  injection hgg with hgg
  subst hgg
  rw [e] at hrow3
  injection hrow3 with h1
  injection h1 with h1
  injection h1 with h1
  injection h1 with h1
  subst h1
  exact cell_lt hx3
set_option maxRecDepth 100000 in
set_option maxHeartbeats 4000000 in
theorem sMatrix (a : Option Addr) (n cap : Nat) (R : List (List Int)) (w : World) (h : Mat w a n R) (hs : M.sqB R = true) (hc : M.hasCyc (M.ent R) R.length = true) :
    Calls Try.prog 35 #[.slice a n cap] w (MPost n (M.crM R) w) := by
  have HA := Lib.hid h
  have HRn := Lib.hid h.1
  have HS := Lib.hid hs
  have HC := Lib.hid hc
  obtain ⟨hr, n1, n2, -⟩ := sq_parts h hs
  have HR := Lib.hid hr
  have HLn := Lib.hid (M.arcsL_len R (by rw [h.1]; exact n2))
  clear h hs hc hr
  go_enter Try.func35, Try.ntmps35
  go_wp2_with fail
  refine (sBottom n n _ (by omega) (by omega)).mono ?_
  rintro e w1 ⟨b1, c1, rfl, ho, hb⟩
  rw [← M.matK_zero R n] at ho
  obtain ⟨g, q0, L0, c0, x0, hgg, hgB, -⟩ := ho.at 0 0 (by omega) (by rw [(rect_mk n n _).2 0 (by omega)]; omega)
  subst hgg
  have HO1 := Lib.hid ho
  have HB1 := Lib.hid hb
  have hg1 : g < w1.heap.size := by
    obtain ⟨g3, q3, c3', -, -, hgg, -, hrow3, -⟩ := ho.tri (rect_mk _ _ _) 0 0 0 (by omega) (by omega) (by omega)
    injection hgg with hgg
    injection hgg with hgg
    subst hgg
    exact cell_lt hrow3
  clear ho hb hgB
  go_wp2_with fail
  refine (sArcs _ _ _ R _ (HA.out.below HB1.out) HS.out HC.out).mono ?_
  rintro e w2 ⟨b2, c2, rfl, ho, hb⟩
  have HL2 := Lib.hid ho
  have HO2 := Lib.hid (HO1.out.below hb)
  have HB2 := Lib.hid (HB1.out.trans (hb.mono HB1.out.size))
  have HG2 : Hid (w2.heap[g]? = w1.heap[g]?) := hb.block g hg1
  have hz1 := HB1.out.size
  have hz2 : w1.heap.size ≤ w2.heap.size := hb.size
  clear ho hb
  go_wp2
  go_loopw [5, 6, 7] (fun kv _ _ wr => ∃ k : Nat, k ≤ (M.arcsL R).length ∧ kv = .int .i64 k ∧ Hid (OwnM wr w.heap.size (.slice (some ⟨g, 0, none⟩) n c1) (M.mk n n (M.matK R k))) ∧ Hid (Same w1.heap.size w2.heap.size w2 wr) ∧ Hid (Below w.heap.size w wr) ∧ Hid (wr.heap[g]? = w1.heap[g]?)) (fun kv _ _ _ => (M.arcsL R).length - (intOf kv).toNat)
  case atStart => exact ⟨0, Nat.zero_le _, rfl, HO2, Same.refl _ _ _, HB2, HG2⟩
  case round =>
    obtain ⟨k, hk, rfl, HO, HSa, HB, HG⟩ := hrel
    clear HO2 HG2
    by_cases hkl : k < (M.arcsL R).length
    · have hki : (k : Int) < ((M.arcsL R).length : Int) := by omega
      obtain ⟨j, i, hj, hi, hcr, he⟩ := M.arcsL_at hkl
      rw [HRn.out] at hj hi
      have HNx : Hid ((M.mk n n (M.matK R k)).set i (((M.mk n n (M.matK R k)).getD i []).set j (M.ent R i j)) = M.mk n n (M.matK R (k + 1))) := M.matK_next hkl he hi
      have hlen := HLn.out
      have HLw : Hid (OwnM wr w1.heap.size (.slice b2 (M.arcsL R).length c2) (M.arcsL R)) := HL2.out.keep HSa.out
      obtain ⟨g2, q2, L2, d2, x0, hgg, -, -, hL2, hx0, r1, r2, -⟩ := HLw.out.at k 0 hkl (by rw [he]; simp)
      obtain ⟨g3, q3, L3, d3, x1, hgg3, -, -, hL3, hx1, r3, r4, -⟩ := HLw.out.at k 1 hkl (by rw [he]; simp)
      subst hgg
      injection hgg3 with hgg3
      injection hgg3 with hgg3
      subst hgg3
      rw [r1] at r3
      injection r3 with r3
      injection r3 with r3 r3b r3c
      injection r3 with r3
      injection r3 with r3
      subst r3 r3b r3c
      rw [he] at hL2 hx0 hx1
      have hL2' : L2 = 2 := hL2
      have hx0' : x0 = (j : Int) := hx0
      have hx1' : x1 = (i : Int) := hx1
      subst hL2' hx0' hx1'
      clear hL2 hx0 hx1 hL3 he hcr HLw
      have hji : (j : Int) < (n : Int) := by omega
      have hii : (i : Int) < (n : Int) := by omega
      generalize (M.arcsL R).length = N at *
      go_wp2
      go_quiet (fail)
      generalize hwq : World.drewN wr _ = wq
      have HOq : Hid (OwnM wq w.heap.size (.slice (some ⟨g, 0, none⟩) n c1) (M.mk n n (M.matK R k))) := by show OwnM _ _ _ _; rw [← hwq]; exact HO.out.below (b_draws _ _)
      have HSq : Hid (Same w1.heap.size w2.heap.size w2 wq) := by show Same _ _ _ _; rw [← hwq]; exact HSa.out
      have HBq : Hid (Below w.heap.size w wq) := by show Below _ _ _; rw [← hwq]; exact below_drewN HB.out _
      have HGq : Hid (wq.heap[g]? = w1.heap[g]?) := by show _ = _; rw [← hwq]; exact HG.out
      clear hwq HO HSa HB HG r1 r2 r4
      obtain ⟨g4, q, c4, q', c', hgg, hq, h1, h2, -, h4, -, h6, ho⟩ := HOq.out.tri (rect_mk _ _ _) i j j hi hj hj
      injection hgg with hgg
      injection hgg with hgg
      subst hgg
      have hne := row_ne h2 h4
      have hql := OwnM.rowLt HO1.out (rect_mk _ _ _) hi n1 HGq.out h1
      obtain ⟨ab, ao, rb, ro, rc, x, hax, hxx, a1, a2⟩ := (HA.out.below HBq.out).rect_ent HR.out i j hi hj
      subst hax
      have hN := ho x
      rw [hxx, HNx.out, ← hxx] at hN
      have HN5 := Lib.hid hN
      have HSn : Hid (Same w1.heap.size w2.heap.size w2 (wq.setCell ⟨q, j, none⟩ (.int .i64 x))) := fun k k1 k2 =>
        (Below.heap_setCell wq ⟨q, j, none⟩ _ k (by show k ≠ q; omega)).trans (HSq.out k k1 k2)
      have HGn : Hid ((wq.setCell ⟨q, j, none⟩ (.int .i64 x)).heap[g]? = w1.heap[g]?) := (Below.heap_setCell wq ⟨q, j, none⟩ _ g (fun e => hne e.symm)).trans HGq.out
      clear hN ho hxx h4
      go_wp2
      go_still_tail 13, (by kernel_rfl)
      repeat still_step
      try refine wpStill_nil ?_
      change wpList _ _ _ _ _ wq.drew
      go_wp2
      go_roundw
      case rel => exact ⟨k + 1, by omega, by go_num, HN5.out.keep (fun _ _ _ => rfl), HSn, HBq.out.drew.setCell hq _, HGn⟩
      case measure => simp [intOf]; omega
    · obtain rfl : k = (M.arcsL R).length := by omega
      have HO5 : Hid (OwnM wr w.heap.size (.slice (some ⟨g, 0, none⟩) n c1) (M.crM R)) := by
        show OwnM _ _ _ _; rw [← M.matK_end, HRn.out]; exact HO.out
      clear HO
      go_wp2
      go_ret
      exact ⟨_, _, rfl, HO5.out, HB.out⟩
set_option maxRecDepth 100000 in
set_option maxHeartbeats 1000000 in
theorem sCriticalMatrix (a : Option Addr) (n cap : Nat) (R : List (List Int)) (w : World) (h : Mat w a n R) :
    Calls Try.prog 20 #[.slice a n cap] w (MRes (M.matRes R) w) := by
  have HA := Lib.hid h
  have hRn : R.length = n := h.1
  by_cases hc : M.crCode R = 0
  · obtain ⟨h1, h2⟩ := M.cr_code hc
    have H1 := Lib.hid h1
    have H2 := Lib.hid h2
    have HK := Lib.hid hc
    have HE : Hid (M.matRes R = (M.crM R, 0)) := by show _ = _; unfold M.matRes; rw [if_pos hc]
    clear h hc h1 h2 hRn
    go_enter Try.func20, Try.ntmps20
    go_wp2_with fail
    refine (sCode _ _ _ R _ HA.out).mono ?_
    rintro e w1 ⟨rfl, hb⟩
    rw [HK.out]
    have HB := Lib.hid hb
    clear hb
    go_wp2_with fail
    refine (sMatrix _ _ _ R _ (HA.out.below HB.out) H1.out H2.out).mono ?_
    rintro e w2 ⟨b2, c2, rfl, ho, hb⟩
    have HO := Lib.hid (ho.mono HB.out.size)
    have HB2 := Lib.hid (HB.out.trans (hb.mono HB.out.size))
    clear ho hb
    go_wp2
    go_ret2
    rw [HE.out]
    exact ⟨_, _, _, rfl, HO.out, HB2.out⟩
  · obtain ⟨k, hk⟩ : ∃ k, k = M.crCode R := ⟨_, rfl⟩
    have HE : Hid (M.matRes R = ([], k)) := by show _ = _; unfold M.matRes; rw [if_neg hc, hk]
    have HK := Lib.hid hk
    have hk0 : (k != 0) = true := by rw [hk]; simpa using hc
    clear h hc hRn hk
    go_enter Try.func20, Try.ntmps20
    go_wp2_with fail
    refine (sCode _ _ _ R _ HA.out).mono ?_
    rintro e w1 ⟨rfl, hb⟩
    rw [← HK.out]
    have HB := Lib.hid hb
    clear hb
    go_wp2
    go_ret2
    exact MRes.nil HE.out HB.out
end V
end Go.Proofs.Ytmhpgnndjagogaa

namespace Go.Proofs.Ytmhpgnndjagogaa.V
open Go.RowKit

set_option maxRecDepth 100000 in
set_option maxHeartbeats 400000 in
theorem eqIntss (a : Option Addr) (n cap : Nat) (R : List (List Int)) (a' : Option Addr) (n' cap' : Nat) (R' : List (List Int)) (w : World) (h : Mat w a n R) (h' : Mat w a' n' R') (heq : R = R') :
    Calls Try.prog 13 #[.slice a n cap, .slice a' n' cap'] w fun e w' => e = .returned (.bool true) ∧ ∃ q, w' = w.drewN q := by
  subst heq
  have HM := Lib.hid h
  have HM' := Lib.hid h'
  obtain ⟨hl, hm, -⟩ := h
  obtain ⟨hl', -, -⟩ := h'
  obtain rfl : n = n' := by omega
  unfold maxLen at hm
  have HL := Lib.hid hl
  clear hl hl'
  go_enter Try.func13, Try.ntmps13
  go_wp2
  go_loopw [5] (fun i wr => ∃ k : Nat, k ≤ n ∧ i = .int .i64 k ∧ ∃ q, wr = w.drewN q) (fun i _ => n - (intOf i).toNat)
  case atStart => exact ⟨0, Nat.zero_le _, rfl, 0, rfl⟩
  case round =>
    obtain ⟨k, hk, rfl, q, rfl⟩ := hrel
    by_cases hlt : k < n
    · obtain ⟨b, off, ra, rc, L, l, rfl, hbl, hll, hc, hI⟩ := HM.out.at k hlt
      obtain ⟨b', off', ra', rc', L', l', rfl, hbl', hll', hc', hI'⟩ := HM'.out.at k hlt
      have HI := Lib.hid hI
      have HI' := Lib.hid hI'
      have HE := Lib.hid (hll.trans hll'.symm)
      clear hI hI' hll hll' HM HM'
      have hki : (k : Int) < (n : Int) := by omega
      go_wp2
      go_quiet ((go_at_call 14; exact q_more (eqInts _ _ _ l _ _ _ l' _ HI.out HI'.out HE.out)))
      go_wp2
      go_roundw
      case rel => exact ⟨k + 1, by omega, by go_num, _, rfl⟩
      case measure => simp [intOf]; omega
    · have hkn : k = n := by omega
      subst hkn
      go_wp2
      go_ret
      exact ⟨rfl, q, rfl⟩

set_option maxRecDepth 100000 in
set_option maxHeartbeats 400000 in
theorem copyIntss (a : Option Addr) (n cap : Nat) (R : List (List Int)) (w : World) (h : Mat w a n R) (hs : n ≤ 1048576) (hr : M.pre R R.length ≤ 1048576) :
    Calls Try.prog 9 #[.slice a n cap] w fun e w' => e = .returned (.slice (some ⟨w.heap.size, 0, none⟩) n n) ∧ OwnM w' w.heap.size (.slice (some ⟨w.heap.size, 0, none⟩) n n) R ∧ Below w.heap.size w w' := by
  have HM := Lib.hid h
  obtain ⟨hl, hm, -⟩ := h
  have hm2 := hm
  unfold maxLen at hm
  have HL := Lib.hid hl
  have HR := Lib.hid hr
  clear hl hr
  have hmk := run_make_row' (P := Try.prog) 22 25 (.slice none 0 0) 24 Try.underlying22 infoS64 rfl .i64 .i64 n (by omega) (by omega)
  go_enter Try.func9, Try.ntmps9
  go_wp2
  clear hmk
  go_loopw [4] (fun i wr => ∃ k : Nat, k ≤ n ∧ i = .int .i64 k ∧ OwnM wr w.heap.size (.slice (some ⟨w.heap.size, 0, none⟩) n n) ((List.range n).map fun j => if j < k then R.getD j [] else []) ∧ Below w.heap.size w wr) (fun i _ => n - (intOf i).toNat)
  case atStart =>
    refine ⟨0, Nat.zero_le _, rfl, ?_, b_alloc _ _⟩
    refine (congrArg (OwnM _ _ _) ?_).mp (ownM_made w _ n (Nat.le_refl _) hm2)
    apply List.ext_getElem
    · simp
    · intro i h1 h2; simp
  case round =>
    obtain ⟨k, hk, rfl, hO, hb⟩ := hrel
    have HO := Lib.hid hO
    have HB := Lib.hid hb
    clear hO hb
    by_cases hlt : k < n
    · obtain ⟨b, off, ra, rc, L, l, rfl, hbl, hll, hc, hI⟩ := (HM.out.below HB.out).at k hlt
      have HI := Lib.hid hI
      have HLL := Lib.hid hll
      have hLs : L ≤ 1048576 := by
        have e1 := M.len_le_pre R k (by have := HL.out; omega)
        have e2 := HR.out
        have e3 := HI.out.1
        rw [HLL.out] at e3
        omega
      clear hI hll
      go_wp2_with fail
      refine (copyInts _ _ _ l _ HI.out hLs).mono ?_
      rintro e w1 ⟨rfl, ho1, hb1⟩
      have hg := HO.out.lt rfl
      have hst : ∃ v, w1.cell? ⟨w.heap.size, k, none⟩ = some v := by
        obtain ⟨v, hv⟩ := HO.out.outer k hlt
        exact ⟨v, by rw [hb1.cell (p := ⟨w.heap.size, k, none⟩) hg]; exact hv⟩
      obtain ⟨v, hst⟩ := hst
      have hfz : w1.frozen? ⟨w.heap.size, k, none⟩ = false := by rw [hb1.frozen (p := ⟨w.heap.size, k, none⟩) hg]; exact HO.out.outerFz k
      have HN := Lib.hid (HO.out.setRow hb1 HB.out.size ho1 k hlt)
      have HB1 := Lib.hid (bnext HB.out hb1)
      clear ho1 hb1 hg
      go_wp2
      go_roundw
      case rel =>
        refine ⟨k + 1, by omega, by go_num, ?_, HB1.out.setCell (Nat.le_refl _) _⟩
        refine (congrArg (OwnM _ _ _) ?_).mp HN.out
        apply List.ext_getElem
        · simp
        · intro j h1 h2
          simp only [List.length_map, List.length_range] at h2
          rw [List.getElem_set]
          simp only [List.getElem_map, List.getElem_range]
          by_cases e : k = j
          · subst e; rw [if_pos rfl, if_pos (by omega), HLL.out]
          · rw [if_neg e]
            by_cases e2 : j < k
            · rw [if_pos e2, if_pos (by omega)]
            · rw [if_neg e2, if_neg (by omega)]
      case measure => simp [intOf]; omega
    · have hkn : k = n := by omega
      subst hkn
      go_wp2
      go_ret
      refine ⟨rfl, ?_, HB.out⟩
      refine (congrArg (OwnM _ _ _) ?_).mp HO.out
      have hl := HL.out
      apply List.ext_getElem
      · simp [hl]
      · intro i h1 h2
        simp [show i < k by omega, h2]

/-- The same, said for the exact laws. -/
theorem eqM (a : Option Addr) (n cap : Nat) (R : List (List Int)) (a' : Option Addr) (n' cap' : Nat) (w : World) (h : Mat w a n R) (h' : Mat w a' n' R) :
    Calls Try.prog 13 #[.slice a n cap, .slice a' n' cap'] w fun e w' => e = .returned (.bool true) ∧ Below w.heap.size w w' := by
  refine (eqIntss _ _ _ _ _ _ _ _ _ h h' rfl).mono ?_
  rintro e w' ⟨rfl, q, rfl⟩
  exact ⟨rfl, b_draws _ _⟩
theorem eqV (a : Option Addr) (n cap : Nat) (l : List Int) (a' : Option Addr) (n' cap' : Nat) (w : World) (h : Ints .i64 w a n l) (h' : Ints .i64 w a' n' l) :
    Calls Try.prog 14 #[.slice a n cap, .slice a' n' cap'] w fun e w' => e = .returned (.bool true) ∧ Below w.heap.size w w' := by
  refine (eqInts _ _ _ _ _ _ _ _ _ h h' rfl).mono ?_
  rintro e w' ⟨rfl, q, rfl⟩
  exact ⟨rfl, b_draws _ _⟩
end Go.Proofs.Ytmhpgnndjagogaa.V
