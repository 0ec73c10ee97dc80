/- Texts laid together: Mean4, BstZ, Cms. -/
import Derived.Test.YthonlfjjgmmnpaaGreatQh15
import Derived.Test.YthonlfjjgmmnpaaGreatQh16
import Derived.Test.YthonlfjjgmmnpaaGreatQh10
import Derived.Test.YthonlfjjgmmnpaaGreatQh6
import Derived.Test.YthonlfjjgmmnpaaGreatQh11
import Derived.Test.YthonlfjjgmmnpaaGreatQh13
import Derived.Test.YthonlfjjgmmnpaaGreatQh3
namespace Go.Proofs.YthonlfjjgmmnpaaGreat.V
open Go.RowKit
theorem sm_of {w : World} {a : Option Addr} {n : Nat} {R : List (List Int)} (h : Mat w a n R) (hs : M.sqB R = true) : ∀ i j, i < n → j < n → M.Sm 1000000 (M.ent R i j) := by
  exact (sq_parts h hs).2.2.2

theorem assert_pow0 (v : Value) (W : World) : (Instr.typeAssert (.iface 86 v) 131 150 true).run Tryz.prog W = .ok (.tuple #[.slice none 0 0, .bool false]) W := by kernel_rfl
theorem assert_pow2 (v : Value) (W : World) : (Instr.typeAssert (.iface 86 v) 131 151 true).run Tryz.prog W = .ok (.tuple #[.agg #[], .bool false]) W := by kernel_rfl
attribute [local go_sem] assert_pow2
attribute [local go_sem] assert_pow0
theorem assert_pow1 (v : Value) (W : World) : (Instr.typeAssert (.iface 86 v) 131 86 true).run Tryz.prog W = .ok (.tuple #[v, .bool true]) W := by kernel_rfl
attribute [local go_sem] assert_pow1
set_option maxRecDepth 100000 in
set_option maxHeartbeats 1000000 in
theorem leads_pow (a : Option Addr) (n cap : Nat) (R : List (List Int)) (b : Bool) (hb : M.hasCyc (M.ent R) n = b) (w : World) (h : Sq w a n R) (hA : ∀ i j, i < n → j < n → M.Sm 1000000 (M.ent R i j)) :
    Calls Tryz.prog 142 #[.slice a n cap, .iface 86 (.agg #[])] w fun e w' => e = .returned (.bool b) ∧ Below w.heap.size w w' := by
  have HS := Lib.hid h
  have HA := Lib.hid hA
  have HB := Lib.hid hb
  clear h hb hA
  go_enter Tryz.func142, Tryz.ntmps142
  go_wp2_with fail
  refine (hasCycle _ _ _ R _ HS.out HA.out).mono ?_
  rintro e w1 ⟨rfl, hb⟩
  rw [HB.out]
  have HB1 := Lib.hid hb
  clear hb
  go_wp2
  go_ret
  exact ⟨rfl, HB1.out⟩

theorem assert_tab0 (v : Value) (W : World) : (Instr.typeAssert (.iface 151 v) 131 150 true).run Tryz.prog W = .ok (.tuple #[.slice none 0 0, .bool false]) W := by kernel_rfl
theorem assert_tab2 (v : Value) (W : World) : (Instr.typeAssert (.iface 151 v) 131 86 true).run Tryz.prog W = .ok (.tuple #[.agg #[], .bool false]) W := by kernel_rfl
attribute [local go_sem] assert_tab2
attribute [local go_sem] assert_tab0
theorem assert_tab1 (v : Value) (W : World) : (Instr.typeAssert (.iface 151 v) 131 151 true).run Tryz.prog W = .ok (.tuple #[v, .bool true]) W := by kernel_rfl
attribute [local go_sem] assert_tab1
set_option maxRecDepth 100000 in
set_option maxHeartbeats 1000000 in
theorem leads_tab (a : Option Addr) (n cap : Nat) (R : List (List Int)) (b : Bool) (hb : M.hasCyc (M.ent R) n = b) (w : World) (h : Sq w a n R) (hA : ∀ i j, i < n → j < n → M.Sm 1000000 (M.ent R i j)) :
    Calls Tryz.prog 142 #[.slice a n cap, .iface 151 (.agg #[])] w fun e w' => e = .returned (.bool b) ∧ Below w.heap.size w w' := by
  have HS := Lib.hid h
  have HA := Lib.hid hA
  have HB := Lib.hid hb
  clear h hb hA
  go_enter Tryz.func142, Tryz.ntmps142
  go_wp2_with fail
  refine (hasCycle _ _ _ R _ HS.out HA.out).mono ?_
  rintro e w1 ⟨rfl, hb⟩
  rw [HB.out]
  have HB1 := Lib.hid hb
  clear hb
  go_wp2
  go_ret
  exact ⟨rfl, HB1.out⟩

set_option maxRecDepth 100000 in
set_option maxHeartbeats 1000000 in
/-- The checked mean, given the way's own contract. -/
theorem checked_pow (a : Option Addr) (n cap : Nat) (R : List (List Int)) (w : World) (h : Mat w a n R) (hn : R.length = n)
    (hm : M.sqB R = true → M.hasCyc (M.ent R) n = true → ∀ W : World, Mat W a n R → Calls Tryz.prog 77 #[.agg #[], .slice a n cap] W fun e w' => e = .returned (.agg #[.int .i64 (M.bestR (M.ent R) n).1, .int .i64 (M.bestR (M.ent R) n).2]) ∧ Below W.heap.size W w') :
    Calls Tryz.prog 86 #[.slice a n cap, .iface 86 (.agg #[])] w fun e w' => e = retQ (M.cycMeanRes R) ∧ Below w.heap.size w w' := by
  have HA := Lib.hid h
  by_cases hs : M.sqB R = true
  · have HS := Lib.hid hs
    have HQ := Lib.hid (sq_of h hs)
    have HSm : Hid (∀ i j, i < n → j < n → M.Sm 1000000 (M.ent R i j)) := sm_of h hs
    by_cases hc : M.hasCyc (M.ent R) n = true
    · have HC := Lib.hid hc
      have HMn := Lib.hid (hm hs hc)
      obtain ⟨x, hx⟩ : ∃ x, x = M.bestR (M.ent R) n := ⟨_, rfl⟩
      have HX := Lib.hid hx
      have HE : Hid (M.cycMeanRes R = M.lim x) := by show _ = _; unfold M.cycMeanRes; rw [if_pos hs, hn, if_pos hc, hx]
      clear h hs hc hx hm hn
      go_enter Tryz.func86, Tryz.ntmps86
      go_wp2_with fail
      refine (isSquare_b _ _ _ R _ true HS.out (HA.out.below (b_alloc _ _))).mono ?_
      rintro e w' ⟨rfl, rfl⟩
      go_wp2_with fail
      refine (leads_pow _ _ _ R true HC.out _ (HQ.out.below (b_alloc _ _)) HSm.out).mono ?_
      rintro e w1 ⟨rfl, hb1⟩
      have HB1 := Lib.hid (bel1 hb1)
      have hz := hb1.size
      simp at hz
      obtain ⟨hcc, hff⟩ := bcell hb1
      go_wp2_with fail
      refine (HMn.out _ (HA.out.below HB1.out)).mono ?_
      rintro e w2 ⟨rfl, hb2⟩
      rw [← HX.out]
      have hbb2 := hb1.trans (hb2.mono hb1.size)
      have hz2 := hbb2.size
      simp at hz2
      obtain ⟨hc2, hf2⟩ := bcell hbb2
      obtain ⟨x1, x2⟩ := x
      go_wp2_with fail
      refine (ratioChecked _ _ _).mono ?_
      rintro e w3 ⟨rfl, hb3⟩
      obtain ⟨r, hr⟩ : ∃ r, r = M.lim (x1, x2) := ⟨_, rfl⟩
      rw [← hr] at HE ⊢
      clear hr
      unfold retQ
      obtain ⟨⟨r1, r2⟩, r3⟩ := r
      have hbb := hbb2.trans (hb3.mono hbb2.size)
      have hz3 := hbb.size
      simp at hz3
      obtain ⟨hc3, hf3⟩ := bcell hbb
      have z2 : w.heap.size < w3.heap.size := by omega
      go_wp2
      exact bodyPost_ret (v := .tuple #[.agg #[.int .i64 r1, .int .i64 r2], .int .i64 r3]) (by simp [results, Tryz.results86, go_sem, z2, hc3]) rfl ⟨by rw [HE.out]; rfl, bel1s hbb⟩
    · simp only [Bool.not_eq_true] at hc
      have HC := Lib.hid hc
      have HE : Hid (M.cycMeanRes R = ((0, 0), 4)) := by show _ = _; unfold M.cycMeanRes; rw [if_pos hs, hn, if_neg (by rw [hc]; exact Bool.false_ne_true)]
      clear h hs hc hm hn
      go_enter Tryz.func86, Tryz.ntmps86
      go_wp2_with fail
      refine (isSquare_b _ _ _ R _ true HS.out (HA.out.below (b_alloc _ _))).mono ?_
      rintro e w' ⟨rfl, rfl⟩
      go_wp2_with fail
      refine (leads_pow _ _ _ R false HC.out _ (HQ.out.below (b_alloc _ _)) HSm.out).mono ?_
      rintro e w1 ⟨rfl, hb1⟩
      have hz := hb1.size
      simp at hz
      obtain ⟨hcc, hff⟩ := bcell hb1
      have z1 : w.heap.size < w1.heap.size := by omega
      go_wp2
      exact bodyPost_ret (v := .tuple #[.agg #[.int .i64 0, .int .i64 0], .int .i64 4]) (by simp [results, Tryz.results86, go_sem, z1, hcc]) rfl ⟨by rw [HE.out]; rfl, bel1s hb1⟩
  · simp only [Bool.not_eq_true] at hs
    have HS := Lib.hid hs
    have HE : Hid (M.cycMeanRes R = ((0, 0), 1)) := by show _ = _; unfold M.cycMeanRes; rw [if_neg (by rw [hs]; exact Bool.false_ne_true)]
    clear h hs hm hn
    go_enter Tryz.func86, Tryz.ntmps86
    go_wp2_with fail
    refine (isSquare_b _ _ _ R _ false HS.out (HA.out.below (b_alloc _ _))).mono ?_
    rintro e w' ⟨rfl, rfl⟩
    go_wp2
    exact bodyPost_ret (v := .tuple #[.agg #[.int .i64 0, .int .i64 0], .int .i64 1]) (by simp [results, Tryz.results86, go_sem]) rfl ⟨by rw [HE.out]; rfl, by first | exact b_alloc _ _ | exact bel1s (Below.refl _ _)⟩
set_option maxRecDepth 100000 in
set_option maxHeartbeats 1000000 in
/-- The function itself, given the way's own contract. -/
theorem cycleMean_of (a : Option Addr) (n cap : Nat) (R : List (List Int)) (w : World) (h : Mat w a n R)
    (hm : M.sqB R = true → M.hasCyc (M.ent R) n = true → ∀ W : World, Mat W a n R → Calls Tryz.prog 77 #[.agg #[], .slice a n cap] W fun e w' => e = .returned (.agg #[.int .i64 (M.bestR (M.ent R) n).1, .int .i64 (M.bestR (M.ent R) n).2]) ∧ Below W.heap.size W w') :
    Calls Tryz.prog 37 #[.slice a n cap] w fun e w' => e = .returned (.tuple #[.agg #[.int .i64 (M.cycMeanRes R).1.1, .int .i64 (M.cycMeanRes R).1.2], .int .i64 (M.cycMeanRes R).2]) ∧ Below w.heap.size w w' := by
  have HA := Lib.hid h
  have HL := Lib.hid h.1
  have HMn := Lib.hid hm
  obtain ⟨r, hr⟩ : ∃ r, r = M.cycMeanRes R := ⟨_, rfl⟩
  have HE := Lib.hid hr
  rw [← hr]
  clear h hm hr
  go_enter Tryz.func37, Tryz.ntmps37
  go_wp2_with fail
  refine (checked_pow _ _ _ R _ (HA.out.below (b_alloc _ _)) HL.out HMn.out).mono ?_
  rintro e w1 ⟨rfl, hb1⟩
  rw [← HE.out]
  unfold retQ
  obtain ⟨⟨r1, r2⟩, r3⟩ := r
  have hz := hb1.size
  simp at hz
  obtain ⟨hcc, hff⟩ := bcell hb1
  have z1 : w.heap.size < w1.heap.size := by omega
  go_wp2
  exact bodyPost_ret (v := .tuple #[.agg #[.int .i64 r1, .int .i64 r2], .int .i64 r3]) (by simp [results, Tryz.results37, go_sem, z1, hcc]) rfl ⟨rfl, bel1s hb1⟩

end Go.Proofs.YthonlfjjgmmnpaaGreat.V

namespace Go.Proofs.YthonlfjjgmmnpaaGreat
namespace M
/-- A list that the search may stand at. -/
def Cyc0 (A : Nat → Nat → Int) (n : Nat) (q : List Int) : Prop :=
  (q = [] ∧ hasCyc A n = false) ∨ (nodesB n q = true ∧ diffB q = true ∧ 1 ≤ q.length ∧ arW A q ≠ -1000000000000000)
def best2 (R : List (List Int)) : List Int := if hasCyc (ent R) R.length then bestCyc R else []
theorem fnd_arW {A : Nat → Nat → Int} {n : Nat} {ov : Int} {q : List Int} (hn : n ≤ 10) (hA : ∀ i j, i < n → j < n → Sm 1000000 (A i j)) (h : Fnd A n ov q) : arW A q ≠ -1000000000000000 := by
  obtain ⟨g1, g2, g3, g4, g5, g6⟩ := h
  have hw : arW A q = wkc A (vx q) (q.length - 1) + A (vx q 0) (lastV q) := times_fin g4 g5
  intro e
  have hs := arW_sm hA g1 g3
  have hl := diffB_len g1 g2
  have h1 := hA (vx q 0) (lastV q) (vx_lt g1 (by omega)) (vx_lt g1 (by omega))
  have h2 := wkc_sm (A := A) (v := vx q) (t := q.length - 1) (fun u hu => sm_wide (hA _ _ (vx_lt g1 (by omega)) (vx_lt g1 (by omega))))
  unfold Sm at h1 h2 hs
  have hk : ((q.length - 1 : Nat) : Int) ≤ 9 := by omega
  generalize ((q.length - 1 : Nat) : Int) = k at *
  omega
theorem cyc0_start {A : Nat → Nat → Int} {n : Nat} (hn : n ≤ 10) (hA : ∀ i j, i < n → j < n → Sm 1000000 (A i j)) : Cyc0 A n (overL A n (-1000000000000000)) := by
  have hW : ∀ i j, i < n → j < n → Sm 1000001000000 (A i j) := fun i j hi hj => sm_wide (hA i j hi hj)
  have h := over_bot hn hA
  by_cases e : (overL A n (-1000000000000000)).length = 0
  · left
    rw [← h]
    exact ⟨List.eq_nil_of_length_eq_zero e, decide_eq_false (fun k => k e)⟩
  · right
    have hf := over_fnd hn hW e
    exact ⟨hf.1, hf.2.1, hf.2.2.1, fnd_arW hn hA hf⟩
theorem cyc0_mean {R : List (List Int)} {q : List Int} (h : nodesB R.length q = true ∧ diffB q = true ∧ 1 ≤ q.length ∧ arW (ent R) q ≠ -1000000000000000) : mean2 R q = (cMean (ent R) q, true) := by
  obtain ⟨h1, h2, h3, h4⟩ := h
  unfold mean2
  rw [if_pos (by unfold cycB; rw [h1, h2, around_arW, decide_eq_true h3, decide_eq_true h4]; rfl)]
  rfl
end M
namespace V
open Go.RowKit
/-- The integers of a slice, as the world has them. -/
def readL (w : World) : Value → List Int
  | .slice (some ⟨b, off, _⟩) n _ => (List.range n).map fun i => match w.cell? ⟨b, off + i, none⟩ with | some (.int _ x) => x | _ => 0
  | _ => []
theorem readL_ints {w : World} {a : Option Addr} {n c : Nat} {l : List Int} (h : Ints .i64 w a n l) : readL w (.slice a n c) = l := by
  obtain ⟨h1, -, h3⟩ := h
  rcases h3 with h3 | ⟨b, off, rfl, -, h3⟩
  · subst h3
    obtain rfl : l = [] := List.eq_nil_of_length_eq_zero h1
    cases a <;> rfl
  · show (List.range n).map _ = l
    apply List.ext_getElem
    · simp [h1]
    · intro k k1 k2
      have e := h3 k (by omega)
      simp only [List.getElem_map, List.getElem_range, e]
      simp [k2]
theorem readL_own {w : World} {B n c : Nat} {a : Option Addr} {l : List Int} (h : Own w B (.slice a n c) l) : readL w (.slice a n c) = l := by
  exact readL_ints h.ints'
theorem own_caps {w : World} {B n c : Nat} {a : Option Addr} {l : List Int} (h : Own w B (.slice a n c) l) : n ≤ c ∧ c ≤ maxLen := by
  have hl := h.len
  obtain ⟨a', c', hv, h1, h2, -⟩ := own_form h
  injection hv with e1 e2 e3
  subst e3
  exact ⟨by omega, h2⟩
set_option maxRecDepth 100000 in
set_option maxHeartbeats 2000000 in
theorem sBest (a : Option Addr) (n cap : Nat) (R : List (List Int)) (w : World) (h : Mat w a n R) (hs : M.sqB R = true) :
    Calls Tryz.prog 60 #[.slice a n cap] w fun e w' => ∃ b' n' c', e = .returned (.tuple #[.slice b' n' c', .bool (M.hasCyc (M.ent R) n)]) ∧ Own w' w.heap.size (.slice b' n' c') (M.best2 R) ∧ Below w.heap.size w w' := by
  have HS := Lib.hid (sq_of h hs)
  have HMt := Lib.hid h
  have HQ := Lib.hid hs
  have HSm := Lib.hid (sm_of h hs)
  have hRn : R.length = n := h.1
  have HRn := Lib.hid hRn
  obtain ⟨n1, n2⟩ := (sq_of h hs).2.2.2
  clear h hs hRn
  go_enter Tryz.func60, Tryz.ntmps60
  go_wp2_with fail
  refine (sOver _ _ _ R (-1000000000000000) _ HS.out).mono ?_
  rintro e w1 ⟨b1, N1, c1, rfl, ho, hb⟩
  have HO1 := Lib.hid ho
  have HB1 := Lib.hid hb
  have HC1 := Lib.hid (M.cyc0_start n2 HSm.out)
  clear ho hb
  go_wp2
  go_loopw [4, 5, 6, 7] (fun v _ _ _ wr => ∃ (b : Option Addr) (N c : Nat) (q : List Int), v = .slice b N c ∧ Hid (Own wr w.heap.size (.slice b N c) q) ∧ Hid (M.Cyc0 (M.ent R) n q) ∧ Hid (Below w.heap.size w wr)) (fun v _ _ _ wr => M.mu (M.ent R) (readL wr v))
  case atStart => exact ⟨b1, N1, c1, _, rfl, HO1, HC1, HB1⟩
  case round =>
    clear HO1 HB1 HC1
    obtain ⟨b, N, c, q, rfl, HO, HC, HB⟩ := hrel
    obtain ⟨wo, rfl⟩ : ∃ x, x = wr := ⟨_, rfl⟩
    have hNl := HO.out.len
    rcases HC.out with ⟨hq0, hno⟩ | hq
    · have hN0 : N = 0 := by rw [hNl, hq0]; rfl
      have HE : Hid (M.best2 R = []) := by show _ = _; unfold M.best2; rw [HRn.out, hno]; rfl
      have HNo := Lib.hid hno
      subst hN0
      clear hq0 hno hNl
      go_wp2
      go_ret2
      refine ⟨none, 0, 0, ?_, ?_, HB.out⟩
      · rw [HNo.out]; rfl
      · rw [HE.out]; exact own_nil _ _
    · have hlen := M.diffB_len hq.1 hq.2.1
      have hN1 : 0 < N := by omega
      have hcap := own_caps HO.out
      have HM2 : Hid (M.mean2 R q = (M.cMean (M.ent R) q, true)) := M.cyc0_mean (by rw [HRn.out]; exact hq)
      have HCap := Lib.hid hcap
      have HNear := Lib.hid (M.cMean_near HSm.out hq.2.2.1 (by omega) hq.1 hq.2.2.2).1
      have HQq := Lib.hid hq
      have HLen := Lib.hid hlen
      have HNl := Lib.hid hNl
      obtain ⟨r, hr⟩ : ∃ r, r = M.cMean (M.ent R) q := ⟨_, rfl⟩
      have HR := Lib.hid hr
      obtain ⟨r1, r2⟩ := r
      have HSh : Hid (∀ i j, i < n → j < n → M.Sm 1000001000000 (M.shf (M.ent R) r1 r2 i j)) := by
        show ∀ i j, _
        have := M.sh_sm HSm.out HNear.out
        rw [← hr] at this; exact this
      have HNe : Hid (M.Near r1 r2) := by show M.Near r1 r2; have := HNear.out; rw [← hr] at this; exact this
      clear hq hlen hcap hr hNl
      go_wp2_with fail
      refine (sMean _ _ _ R _ _ _ q _ (HMt.out.below HB.out) HQ.out HO.out.ints' HCap.out.1 HCap.out.2).mono ?_
      rintro e w2 ⟨rfl, hb2⟩
      rw [HM2.out, ← HR.out]
      have HB2 := Lib.hid hb2
      clear hb2
      go_wp2_with fail
      obtain ⟨wb, hwb⟩ : ∃ x, x = w2.alloc (rbox r1 r2) := ⟨_, rfl⟩
      have HX : Hid (Boxed w2 wb r1 r2) := by show Boxed _ _ _ _; rw [hwb]; exact boxed _ _ _
      have HBw := Lib.hid (HB.out.trans (HB2.out.mono HB.out.size))
      have HBx := Lib.hid (HBw.out.trans (HX.out.below.mono HBw.out.size))
      change Calls _ _ _ (w2.alloc (rbox r1 r2)) _
      rw [← hwb]
      clear hwb
      refine (sShift _ _ _ R r1 r2 _ (HMt.out.below HBx.out) HS.out.2.1 n1 n2 HSm.out HNe.out).mono ?_
      rintro e w3 ⟨b3, c3, rfl, ho, hb⟩
      have HO3 := Lib.hid ho
      have HB3 := Lib.hid hb
      clear ho hb
      obtain ⟨q', hq'⟩ : ∃ q', q' = M.overL (M.shf (M.ent R) r1 r2) n 0 := ⟨_, rfl⟩
      have HOv : Hid (M.overL (M.ent (M.mk n n (M.shf (M.ent R) r1 r2))) n 0 = q') := by
        show _ = _
        rw [hq']; exact M.over_congr n2 HSh.out fun i j hi hj => M.ent_mk _ _ _ _ _ hi hj
      have HQ' := Lib.hid hq'
      clear hq'
      have HSq : ∀ wx b c, OwnM wx wb.heap.size (.slice b n c) (M.mk n n (M.shf (M.ent R) r1 r2)) → Sq wx b n (M.mk n n (M.shf (M.ent R) r1 r2)) := fun wx b c ho =>
        ⟨ho.mat, rect_mk _ _ _, fun i j hi hj => by rw [M.ent_mk _ _ _ _ _ hi hj]; exact HSh.out i j hi hj, n1, n2⟩
      have HSQ := Lib.hid HSq
      clear HSq
      go_wp2_with fail
      refine (sOver _ _ _ (M.mk n n (M.shf (M.ent R) r1 r2)) 0 _ (HSQ.out _ _ _ HO3.out)).mono ?_
      rintro e w4 ⟨b4, N4, c4, rfl, ho, hb⟩
      rw [HOv.out] at ho
      have HO4 := Lib.hid ho
      have HB4 := Lib.hid (HB3.out.trans (hb.mono HB3.out.size))
      obtain ⟨p0, p1⟩ := HX.out.cells HB4.out
      have hN4 := ho.len
      have HN4 := Lib.hid hN4
      clear ho hb
      by_cases h4 : N4 = 0
      · have hfi := M.fnd_is n2 HSm.out HQq.out.1 HQq.out.2.1 HQq.out.2.2.1 HQq.out.2.2.2 (by rw [← HR.out, ← HQ'.out, ← hN4, h4])
        have HNo : Hid (M.hasCyc (M.ent R) n = true) := hfi.1
        have HE : Hid (M.best2 R = M.overL (M.shf (M.ent R) r1 r2) n (-1)) := by
          show _ = _
          unfold M.best2
          rw [HRn.out, hfi.1, if_pos rfl]
          unfold M.bestCyc
          rw [HRn.out, ← hfi.2, ← HR.out]
        clear hfi hN4
        subst h4
        go_wp2_with fail
        refine (sShift _ _ _ R r1 r2 _ (HMt.out.below (HBx.out.trans (HB4.out.mono HBx.out.size))) HS.out.2.1 n1 n2 HSm.out HNe.out).mono ?_
        rintro e w5 ⟨b5, c5, rfl, ho, hb⟩
        have HO5 := Lib.hid ho
        have HB5 := Lib.hid (HB4.out.trans (hb.mono HB4.out.size))
        have HSQ5 : Hid (Sq w5 b5 n (M.mk n n (M.shf (M.ent R) r1 r2))) := HSQ.out _ _ _ (ho.mono HB4.out.size)
        clear ho hb
        go_wp2_with fail
        refine (sOver _ _ _ (M.mk n n (M.shf (M.ent R) r1 r2)) (-1) _ HSQ5.out).mono ?_
        rintro e w6 ⟨b6, N6, c6, rfl, ho, hb⟩
        rw [M.over_congr (A := M.shf (M.ent R) r1 r2) n2 HSh.out fun i j hi hj => M.ent_mk _ _ _ _ _ hi hj, ← HE.out] at ho
        have HB6 := Lib.hid (HBx.out.trans ((HB5.out.trans (hb.mono HB5.out.size)).mono HBx.out.size))
        have HO6 := Lib.hid (ho.mono (Nat.le_trans HBx.out.size HB5.out.size))
        clear ho hb
        go_wp2
        go_ret2
        exact ⟨b6, N6, c6, by rw [HNo.out]; rfl, HO6.out, HB6.out⟩
      · have hf : M.Fnd (M.shf (M.ent R) (M.cMean (M.ent R) q).1 (M.cMean (M.ent R) q).2) n 0 q' := by
          have hne : (M.overL (M.shf (M.ent R) r1 r2) n 0).length ≠ 0 := by rw [← HQ'.out]; omega
          have := M.over_fnd n2 HSh.out hne
          rw [← HQ'.out] at this
          rw [← HR.out]; exact this
        obtain ⟨g1, g2, g3, g4, g5, g6⟩ := M.fnd_up n2 HSm.out HQq.out.1 HQq.out.2.1 HQq.out.2.2.1 HQq.out.2.2.2 hf
        have HC' : Hid (M.Cyc0 (M.ent R) n q') := .inr ⟨g1, g2, g3, g5⟩
        have HL : Hid (M.mu (M.ent R) q' < M.mu (M.ent R) q) := M.mu_lt HQq.out.2.2.1 (Nat.le_trans HLen.out n2) g3 g4 (M.cMean_near HSm.out g3 g4 g1 g5).2.2.1 g6
        have HB6 := Lib.hid (HBx.out.trans (HB4.out.mono HBx.out.size))
        have HO6 := Lib.hid (HO4.out.mono (Nat.le_trans HBx.out.size HB3.out.size))
        have hN4p : 0 < N4 := by omega
        clear hf g1 g2 g3 g4 g5 g6 hN4
        go_wp2
        go_roundw
        case rel => exact ⟨b4, N4, c4, q', rfl, HO6, HC', HB6⟩
        case measure =>
          show M.mu _ (readL w4 (.slice b4 N4 c4)) < M.mu _ (readL wo (.slice b N c))
          rw [readL_own HO6.out, readL_own HO.out]; exact HL.out
end V
end Go.Proofs.YthonlfjjgmmnpaaGreat

namespace Go.Proofs.YthonlfjjgmmnpaaGreat
namespace V
open Go.RowKit
set_option maxRecDepth 100000 in
set_option maxHeartbeats 1000000 in
theorem sBestCycle (a : Option Addr) (n cap : Nat) (R : List (List Int)) (w : World) (h : Mat w a n R) :
    Calls Tryz.prog 56 #[.slice a n cap] w (VRes (M.bestRes R) w) := by
  have HA := Lib.hid h
  have HRn := Lib.hid h.1
  by_cases hs : M.sqB R = true
  · have HS := Lib.hid hs
    obtain ⟨c, hc⟩ : ∃ c, c = M.hasCyc (M.ent R) n := ⟨_, rfl⟩
    have HNo := Lib.hid hc.symm
    have HE : Hid (M.bestRes R = if c then (M.best2 R, 0) else ([], 4)) := by
      show _ = _; unfold M.bestRes M.best2; rw [if_pos hs, HRn.out, ← hc]; cases c <;> rfl
    clear h hs hc
    go_enter Tryz.func56, Tryz.ntmps56
    go_wp2_with fail
    refine (sSquare_b _ _ _ R _ true HS.out HA.out).mono ?_
    rintro e w' ⟨rfl, qd, rfl⟩
    go_wp2_with fail
    refine (sBest _ _ _ R _ (HA.out.below (b_draws _ _)) HS.out).mono ?_
    rintro e w1 ⟨b', n', c', rfl, ho, hb0⟩
    rw [HNo.out]
    have HO := Lib.hid ho
    have HB := Lib.hid ((b_draws w qd).trans hb0)
    clear ho hb0
    cases c with
    | false =>
      go_wp2
      go_ret2
      exact VRes.nil HE.out HB.out
    | true =>
      go_wp2
      go_ret2
      rw [HE.out]
      exact ⟨_, _, _, rfl, HO.out, HB.out⟩
  · simp only [Bool.not_eq_true] at hs
    have HS := Lib.hid hs
    have HE : Hid (M.bestRes R = ([], 1)) := by show _ = _; unfold M.bestRes; rw [if_neg (by rw [hs]; exact Bool.false_ne_true)]
    clear h hs
    go_enter Tryz.func56, Tryz.ntmps56
    go_wp2_with fail
    refine (sSquare_b _ _ _ R _ false HS.out HA.out).mono ?_
    rintro e w' ⟨rfl, qd, rfl⟩
    go_wp2
    go_ret2
    exact VRes.nil HE.out (b_draws _ _)
end V
end Go.Proofs.YthonlfjjgmmnpaaGreat

namespace Go.Proofs.YthonlfjjgmmnpaaGreat
namespace M
def arcsQ (R : List (List Int)) (j i : Nat) : List (List Int) := arcsP R j ++ arcRow R j i
theorem arcsQ_zero (R : List (List Int)) (j : Nat) : arcsQ R j 0 = arcsP R j := by simp [arcsQ, arcRow]
theorem arcsQ_next (R : List (List Int)) (j i : Nat) : arcsQ R j (i + 1) = arcsQ R j i ++ (if crB R j i then [[(j : Int), (i : Int)]] else []) := by
  unfold arcsQ; rw [arcRow_next, List.append_assoc]
theorem arcsQ_end (R : List (List Int)) (j : Nat) : arcsQ R j R.length = arcsP R (j + 1) := by unfold arcsQ; rw [arcsP_next]
theorem arcsQ_len (R : List (List Int)) {j i : Nat} (hj : j ≤ R.length) (hi : i ≤ R.length) (hn : R.length ≤ 10) : (arcsQ R j i).length ≤ 200 := by
  have h1 := arcsP_len R j
  have h2 := arcRow_len R j i
  have h3 := Nat.mul_le_mul hj (Nat.le_refl R.length)
  have h4 := Nat.mul_le_mul hn hn
  unfold arcsQ
  rw [List.length_append]
  omega
end M
namespace V
set_option maxRecDepth 100000
open Go.RowKit
set_option maxRecDepth 100000 in
set_option maxHeartbeats 1000000 in
theorem sCode (a : Option Addr) (n cap : Nat) (R : List (List Int)) (w : World) (h : Mat w a n R) :
    Calls Tryz.prog 50 #[.slice a n cap] w fun e w' => e = .returned (.int .i64 (M.crCode R)) ∧ Below w.heap.size w w' := by
  have HA := Lib.hid h
  have HRn := Lib.hid h.1
  by_cases hs : M.sqB R = true
  · have HS := Lib.hid hs
    obtain ⟨c, hc⟩ : ∃ c, c = M.hasCyc (M.ent R) n := ⟨_, rfl⟩
    have HNo := Lib.hid hc.symm
    have HE : Hid (M.crCode R = if c then 0 else 4) := by show _ = _; unfold M.crCode; rw [if_pos hs, HRn.out, ← hc]
    clear h hs hc
    go_enter Tryz.func50, Tryz.ntmps50
    go_wp2_with fail
    refine (sSquare_b _ _ _ R _ true HS.out HA.out).mono ?_
    rintro e w' ⟨rfl, qd, rfl⟩
    go_wp2_with fail
    refine (sBest _ _ _ R _ (HA.out.below (b_draws _ _)) HS.out).mono ?_
    rintro e w1 ⟨b', n', c', rfl, ho, hb0⟩
    rw [HNo.out]
    have HB := Lib.hid ((b_draws w qd).trans hb0)
    clear ho hb0
    cases c with
    | false =>
      go_wp2
      go_ret
      exact ⟨by rw [HE.out]; rfl, HB.out⟩
    | true =>
      go_wp2
      go_ret
      exact ⟨by rw [HE.out]; rfl, HB.out⟩
  · simp only [Bool.not_eq_true] at hs
    have HS := Lib.hid hs
    have HE : Hid (M.crCode R = 1) := by show _ = _; unfold M.crCode; rw [if_neg (by rw [hs]; exact Bool.false_ne_true)]
    clear h hs
    go_enter Tryz.func50, Tryz.ntmps50
    go_wp2_with fail
    refine (sSquare_b _ _ _ R _ false HS.out HA.out).mono ?_
    rintro e w' ⟨rfl, qd, rfl⟩
    go_wp2
    go_ret
    exact ⟨by rw [HE.out]; rfl, b_draws _ _⟩
theorem ownLit2 (w : World) (x y : Int) : Own (w.alloc (.cells #[.int .i64 x, .int .i64 y] 2)) w.heap.size (.slice (some ⟨w.heap.size, 0, none⟩) 2 2) [x, y] := World.ownsRow_lit w #[.int .i64 x, .int .i64 y] 2 (Nat.le_refl _) (by decide) rfl
theorem appendRowLit (w0 : World) {ops : Array Oper} {rest : List Oper} {o : Oper} {a : Act} {Q : Exit → Act → World → Prop} (hgd : o.guard = none) (s x : Operand)
    (ho : o.op = .call { callee := .builtin .append, args := #[s, x], argTypes := #[24, 24] }) (B : Nat) (v : Value) (L : List (List Int)) (p q : Int) (n : Nat) (hn : L.length = n) (hs : a.eval s = v) (hown : OwnM w0 B v L)
    (hx : a.eval x = .slice (some ⟨w0.heap.size + 1, 0, none⟩) 1 1) (hlen : L.length ≤ 2000000) (hB : B ≤ w0.heap.size)
    (h : ∀ b' c' w', OwnM w' B (.slice b' (n + 1) c') (L ++ [[p, q]]) → Below B w0 w' → wpList Tryz.prog ops Q rest (a.put o.dst (.slice b' (n + 1) c')) w') :
    wpList Tryz.prog ops Q (o :: rest) a ((w0.alloc (.cells #[.int .i64 p, .int .i64 q] 2)).alloc (.cells #[.slice (some ⟨w0.heap.size, 0, none⟩) 2 2] 28)) :=
  appendRow w0 (w0.alloc (.cells #[.int .i64 p, .int .i64 q] 2)) hgd s x ho B v (.slice (some ⟨w0.heap.size, 0, none⟩) 2 2) L [p, q] n hn hs hown (b_alloc _ _) (ownLit2 _ _ _) (by rw [hx]; simp) hlen hB fun b' c' w' h1 h2 _ => h b' c' w' h1 (((b_alloc _ _).mono hB).trans h2)
set_option maxRecDepth 100000 in
set_option maxHeartbeats 4000000 in
theorem sArcs (a : Option Addr) (n cap : Nat) (R : List (List Int)) (w : World) (h : Mat w a n R) (hs : M.sqB R = true) (hc : M.hasCyc (M.ent R) R.length = true) :
    Calls Tryz.prog 51 #[.slice a n cap] w fun e w' => ∃ b c, e = .returned (.slice b (M.arcsL R).length c) ∧ OwnM w' w.heap.size (.slice b (M.arcsL R).length c) (M.arcsL R) ∧ Below w.heap.size w w' := by
  have HA := Lib.hid h
  have hRn : R.length = n := h.1
  have HRn := Lib.hid hRn
  have HS := Lib.hid hs
  obtain ⟨hr, n1, n2, hsm⟩ := sq_parts h hs
  have HR := Lib.hid hr
  have HSm := Lib.hid hsm
  obtain ⟨hnear, hshm, hp⟩ := M.cr_t hs hc
  have hbc := M.best_cyc hs hc
  have hC : M.mean2 R (M.best2 R) = (M.bestR (M.ent R) n, true) := by
    unfold M.best2
    rw [hc, if_pos rfl]
    unfold M.mean2
    rw [if_pos hbc.1, hbc.2.1, hRn]
  have HCb : Hid (∀ i j, M.crB R j i = decide (M.times (M.crS R i j) (M.starF (M.crS R) n j i) = 0)) := fun i j => by unfold M.crB; rw [hRn]
  have hS : M.crS R = M.shf (M.ent R) (M.bestR (M.ent R) n).1 (M.bestR (M.ent R) n).2 := by
    funext i j; unfold M.crS; rw [hRn]
  rw [hRn] at hc hnear hp hshm
  obtain ⟨r, hrr⟩ : ∃ r, r = M.bestR (M.ent R) n := ⟨_, rfl⟩
  rw [← hrr] at hnear hS hC
  have HC := Lib.hid hC
  have HSe := Lib.hid hS
  have HNear := Lib.hid hnear
  have HP := Lib.hid hp
  have HSh := Lib.hid hshm
  have HSb : Hid (∀ i j, i < n → j < n → M.Big (M.crS R i j)) := fun i j hi hj => M.big_sm (hshm i j hi hj) (by omega)
  have HTb : Hid (∀ i j, i < n → j < n → M.Big (M.starF (M.crS R) n i j)) := fun i j hi hj => M.big_sm (M.star_sm n2 hshm hp hi hj) (by omega)
  have HLa : Hid (∀ j i, j ≤ n → i ≤ n → (M.arcsQ R j i).length ≤ 200) := fun j i hj hi => M.arcsQ_len R (by rw [hRn]; exact hj) (by rw [hRn]; exact hi) (by rw [hRn]; exact n2)
  obtain ⟨r1, r2⟩ := r
  clear h hs hr hsm hc hnear hp hrr hS hRn hshm hC hbc
  go_enter Tryz.func51, Tryz.ntmps51
  go_wp2_with fail
  refine (sBest _ _ _ R _ HA.out HS.out).mono ?_
  rintro e w1 ⟨b1, m1, c1, rfl, ho, hb⟩
  have HO1 := Lib.hid ho
  have HB1 := Lib.hid hb
  have HCp := Lib.hid (own_caps ho)
  clear ho hb
  go_wp2_with fail
  refine (sMean _ _ _ R _ _ _ (M.best2 R) _ (HA.out.below HB1.out) HS.out HO1.out.ints' HCp.out.1 HCp.out.2).mono ?_
  rintro e w2 ⟨rfl, hb⟩
  rw [HC.out]
  have HB2 := Lib.hid (HB1.out.trans (hb.mono HB1.out.size))
  clear hb HO1 HCp
  obtain ⟨wb, hwb⟩ : ∃ x, x = w2.alloc (rbox r1 r2) := ⟨_, rfl⟩
  have HX : Hid (Boxed w2 wb r1 r2) := by show Boxed _ _ _ _; rw [hwb]; exact boxed _ _ _
  have HBx := Lib.hid (HB2.out.trans (HX.out.below.mono HB2.out.size))
  go_wp2_with fail
  change Calls _ _ _ (w2.alloc (rbox r1 r2)) _
  rw [← hwb]
  clear hwb
  refine (sShift _ _ _ R r1 r2 _ (HA.out.below HBx.out) HR.out n1 n2 HSm.out HNear.out).mono ?_
  rintro e w3 ⟨b3, c3, rfl, ho, hb⟩
  rw [← HSe.out] at ho
  have HSq3 : Hid (Sq w3 b3 n (M.mk n n (M.crS R))) := ⟨ho.mat, rect_mk _ _ _, fun i j hi hj => by rw [M.ent_mk _ _ _ _ _ hi hj]; exact HSh.out i j hi hj, n1, n2⟩
  obtain ⟨g3, q0, L0, c0, x0, hgg, hgB, -⟩ := ho.at 0 0 (by omega) (by rw [(rect_mk n n _).2 0 (by omega)]; omega)
  subst hgg
  have HO3 := Lib.hid ho
  have HB3 := Lib.hid (HBx.out.trans (hb.mono HBx.out.size))
  clear ho hb hgB
  go_wp2_with fail
  refine (sStar _ _ _ (M.mk n n (M.crS R)) _ HSq3.out).mono ?_
  rintro e w4 ⟨b4, c4, rfl, ho, hb⟩
  have hnp : M.noPos (M.ent (M.mk n n (M.crS R))) n = true := by rw [M.noPos_mk]; exact HP.out
  rw [M.bm_star n2 HSq3.out.2.2.1 hnp, M.starM_mk] at ho
  rw [hnp]
  obtain ⟨g4, q0, L0, c0, x0, hgg, hgB, -⟩ := ho.at 0 0 (by omega) (by rw [(rect_mk n n _).2 0 (by omega)]; omega)
  subst hgg
  have HO4 := Lib.hid ho
  have HO34 := Lib.hid (HO3.out.below hb)
  have HB4 := Lib.hid (HB3.out.trans (hb.mono HB3.out.size))
  have hz4 := HB4.out.size
  clear ho hb hgB hnp HSq3 HO3
  go_wp2
  go_loopw [10, 11, 12] (fun o jv _ wr => ∃ (j : Nat) (b : Option Addr) (c : Nat), j ≤ n ∧ jv = .int .i64 j ∧ o = .slice b (M.arcsP R j).length c ∧ Hid (OwnM wr w4.heap.size (.slice b (M.arcsP R j).length c) (M.arcsP R j)) ∧ Hid (Below w4.heap.size w4 wr)) (fun _ jv _ _ => n - (intOf jv).toNat)
  case atStart => exact ⟨0, _, _, Nat.zero_le _, rfl, rfl, ownM_lit0 _ _ (Nat.le_refl _), b_alloc _ _⟩
  case round =>
    obtain ⟨j, b, c, hj, rfl, rfl, HO, HB⟩ := hrel
    by_cases hjl : j < n
    · have hji : (j : Int) < (n : Int) := by omega
      have e0 : M.arcsP R j = M.arcsQ R j 0 := (M.arcsQ_zero R j).symm
      have HO' : Hid (OwnM wr w4.heap.size (.slice b (M.arcsQ R j 0).length c) (M.arcsQ R j 0)) := by show OwnM _ _ _ _; rw [← e0]; exact HO.out
      rw [e0]
      clear e0 HO
      go_wp2
      go_loopw [10, 12] (fun o iv wr => ∃ (i : Nat) (b : Option Addr) (c : Nat), i ≤ n ∧ iv = .int .i64 i ∧ o = .slice b (M.arcsQ R j i).length c ∧ Hid (OwnM wr w4.heap.size (.slice b (M.arcsQ R j i).length c) (M.arcsQ R j i)) ∧ Hid (Below w4.heap.size w4 wr)) (fun _ iv _ => n - (intOf iv).toNat)
      case atStart => exact ⟨0, _, _, Nat.zero_le _, rfl, rfl, HO', HB⟩
      case round =>
        clear HO' HB
        obtain ⟨i, b, c, hi, rfl, rfl, HO, HB⟩ := hrel
        by_cases hil : i < n
        · have hii : (i : Int) < (n : Int) := by omega
          obtain ⟨gg, q, c5, -, -, hgg, -, s1, s2, -⟩ := (HO34.out.below HB.out).tri (rect_mk _ _ _) i j j hil hjl hjl
          injection hgg with hgg
          injection hgg with hgg
          subst hgg
          obtain ⟨gg, q2, c6, -, -, hgg, -, s3, s4, -⟩ := (HO4.out.below HB.out).tri (rect_mk _ _ _) j i i hjl hil hil
          injection hgg with hgg
          injection hgg with hgg
          subst hgg
          rw [M.ent_mk _ _ _ _ _ hil hjl] at s2
          rw [M.ent_mk _ _ _ _ _ hjl hil] at s4
          have hcb := HCb.out i j
          have hT : ∀ w : World, Calls Tryz.prog 103 #[.int .i64 (M.crS R i j), .int .i64 (M.starF (M.crS R) n j i)] w fun e w' => e = .returned (.int .i64 (M.times (M.crS R i j) (M.starF (M.crS R) n j i))) ∧ w = w' := fun w => sTimesB _ _ _ (HSb.out i j hil hjl) (HTb.out j i hjl hil)
          generalize M.crS R i j = x at *
          generalize M.starF (M.crS R) n j i = y at *
          generalize M.times x y = z at *
          have HT := Lib.hid hT
          have hlen := HLa.out j i hj hi
          have HNx := Lib.hid (M.arcsQ_next R j i)
          clear hT
          by_cases hz : z = 0
          · have hz2 : (z == 0) = true := by simp [hz]
            have HN : Hid (M.arcsQ R j (i + 1) = (M.arcsQ R j i) ++ [[(j : Int), (i : Int)]]) := by
              show _ = _; rw [HNx.out, hcb, decide_eq_true hz, if_pos rfl]
            clear hz hcb HNx
            go_wp2
            go_quiet ((go_at_call 103; exact q_one_s (HT.out _)))
            generalize M.arcsQ R j i = L at *
            generalize hwq : World.drewN wr _ = wq
            have HOq : Hid (OwnM wq w4.heap.size (.slice b L.length c) L) := by show OwnM _ _ _ _; rw [← hwq]; exact HO.out.below (b_draws _ _)
            have HBq : Hid (Below w4.heap.size w4 wq) := by show Below _ _ _; rw [← hwq]; exact HB.out.trans ((b_draws _ _).mono HB.out.size)
            clear hwq
            clear HO HB s1 s2 s3 s4
            go_wp2_with (at_builtin; refine appendRowLit _ rfl (.tmp 61) (.tmp 65) rfl w4.heap.size _ L (j : Int) (i : Int) _ rfl rfl HOq.out rfl (by omega) HBq.out.size ?_)
            intro b7 c7 w7 hO7 hb7
            have HO7 := Lib.hid hO7
            have HB7 := Lib.hid (HBq.out.trans hb7)
            clear hO7 hb7
            go_wp2
            go_roundw
            case rel => exact ⟨i + 1, b7, c7, by omega, by go_num, by rw [HN.out, List.length_append]; rfl, by show OwnM _ _ _ _; rw [HN.out, List.length_append]; exact HO7.out, HB7⟩
            case measure => simp [intOf]; omega
          · have hz2 : (z == 0) = false := by simpa using hz
            have HN : Hid (M.arcsQ R j (i + 1) = M.arcsQ R j i) := by
              show _ = _; rw [HNx.out, hcb, decide_eq_false hz]; simp
            clear hz hcb HNx hlen
            have HOd := fun q => Lib.hid (HO.out.below (b_draws wr q))
            have HBd := fun q => Lib.hid (HB.out.trans ((b_draws wr q).mono HB.out.size))
            go_wp2
            go_quiet ((go_at_call 103; exact q_one_s (HT.out _)))
            go_wp2
            go_roundw
            case rel => exact ⟨i + 1, b, c, by omega, by go_num, by rw [HN.out], by show OwnM _ _ _ _; rw [HN.out]; exact (HOd _).out, HBd _⟩
            case measure => simp [intOf]; omega
        · obtain rfl : i = n := by omega
          have HN : Hid (M.arcsQ R j i = M.arcsP R (j + 1)) := by show _ = _; rw [← M.arcsQ_end, HRn.out]
          have HO2 : Hid (OwnM wr w4.heap.size (.slice b (M.arcsP R (j + 1)).length c) (M.arcsP R (j + 1))) := by show OwnM _ _ _ _; rw [← HN.out]; exact HO.out
          rw [HN.out]
          clear HO
          go_wp2
          go_roundw
          case rel => exact ⟨j + 1, b, c, by omega, by go_num, rfl, HO2, HB⟩
          case measure => simp [intOf]; omega
    · obtain rfl : j = n := by omega
      have HN : Hid (M.arcsP R j = M.arcsL R) := by show _ = _; unfold M.arcsL; rw [HRn.out]
      have HO2 : Hid (OwnM wr w4.heap.size (.slice b (M.arcsL R).length c) (M.arcsL R)) := by show OwnM _ _ _ _; rw [← HN.out]; exact HO.out
      rw [HN.out]
      clear HO
      go_wp2
      go_ret
      exact ⟨b, c, rfl, HO2.out.mono HB4.out.size, HB4.out.trans (HB.out.mono HB4.out.size)⟩
end V
end Go.Proofs.YthonlfjjgmmnpaaGreat
