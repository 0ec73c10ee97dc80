/- Texts laid together: Ors, Orr, Orq. -/
import Derived.Test.YtmcihaihbnnblabQb14
import Derived.Test.YtmcihaihbnnblabQb16
import Derived.Test.YtmcihaihbnnblabQb6
set_option linter.unusedSimpArgs false
set_option linter.unusedVariables false
set_option linter.unusedSectionVars false
namespace Go.Proofs.Ytmcihaihbnnblab
namespace M
/-- The column of a vector. -/
def colF (n : Nat) (x : List Int) : List (List Int) := mk n 1 fun i _ => x.getD i 0
theorem isVec_iff {l : List Int} (h1 : 1 ≤ l.length) (h2 : l.length ≤ 10) : isVec l = true ↔ ∀ i, i < l.length → isVal (l.getD i 0) = true := ⟨fun h => (isVec_t h).2.2, fun h => isVec_of h1 h2 h⟩
theorem ok_col {R : List (List Int)} {x : List Int} (hx : x.length = R.length) (n1 : 1 ≤ R.length) (n2 : R.length ≤ 10) (k : Nat) : okQ R (colF R.length x) k = isVec (orb R x k) := by
  unfold okQ colF
  rw [sq7_col hx]
  have hl := orb_len hx k
  apply Bool.eq_iff_iff.2
  rw [isVec_iff (by omega) (by omega)]
  constructor
  · intro h i hi
    have := (isMat_t h).2.2.2.2.2 i (by simpa [← hl] using hi) 0 (by rw [mk_wid _ _ _ (by omega)]; omega)
    rw [ent_mk _ _ _ _ _ (by omega) (by omega)] at this
    exact this
  · intro h
    exact isMat_mk n1 n2 (Nat.le_refl _) (by omega) fun i hi j hj => h i (by omega)
theorem sqL_col {R : List (List Int)} {x : List Int} (hx : x.length = R.length) (k : Nat) : sqL R (colF R.length x) k = orbL R x k := List.map_congr_left fun i _ => orb_flat hx i
end M
namespace V
set_option maxRecDepth 100000
open Go.RowKit
set_option maxRecDepth 100000 in
set_option maxHeartbeats 400000 in
theorem sCode7 (a : Option Addr) (n cap : Nat) (R : List (List Int)) (a' : Option Addr) (N cap' : Nat) (l : List Int) (w : World) (h : Mat w a n R) (h' : Ints .i64 w a' N l) :
    Calls Try.prog 47 #[.slice a n cap, .slice a' N cap'] w fun e w' => e = .returned (.int .i64 (M.orbCode R l)) ∧ Below w.heap.size w w' := by
  have HA := Lib.hid h
  have HI := Lib.hid h'
  have hRn : R.length = n := h.1
  have hln : l.length = N := h'.1
  obtain ⟨v1, hv1⟩ : ∃ v, v = M.sqB R := ⟨_, rfl⟩
  have HV1 := Lib.hid hv1.symm
  cases v1 with
  | false =>
    have HE : Hid (M.orbCode R l = 1) := by show _ = _; unfold M.orbCode; rw [← hv1]; rfl
    clear h h' hv1 hRn hln
    go_enter Try.func47, Try.ntmps47
    go_wp2_with (go_at_call 40; refine (sSquare_b _ _ _ R _ false HV1.out HA.out).mono ?_; rintro e w' ⟨rfl, q, rfl⟩)
    go_ret
    rw [HE.out]
    exact ⟨rfl, b_draws _ _⟩
  | true =>
    obtain ⟨v2, hv2⟩ : ∃ v, v = M.isVec l := ⟨_, rfl⟩
    have HV2 := Lib.hid hv2.symm
    cases v2 with
    | false =>
      have HE : Hid (M.orbCode R l = 1) := by show _ = _; unfold M.orbCode; rw [← hv1, ← hv2]; rfl
      clear h h' hv1 hv2 hRn hln
      go_enter Try.func47, Try.ntmps47
      go_wp2_with (first | (go_at_call 40; refine (sSquare_b _ _ _ R _ true HV1.out HA.out).mono ?_; rintro e w' ⟨rfl, q, rfl⟩) | (go_at_call 69; refine (sVector_b _ _ _ l _ false HV2.out (HI.out.below (b_draws _ _))).mono ?_; rintro e w' ⟨rfl, rfl⟩))
      go_ret
      rw [HE.out]
      exact ⟨rfl, b_draws _ _⟩
    | true =>
      by_cases hl : N = n
      · subst hl
        have HE : Hid (M.orbCode R l = 0) := by show _ = _; unfold M.orbCode; rw [← hv1, ← hv2, if_pos (by rfl), if_pos (by omega)]
        clear h h' hv1 hv2 hRn hln
        go_enter Try.func47, Try.ntmps47
        go_wp2_with (first | (go_at_call 40; refine (sSquare_b _ _ _ R _ true HV1.out HA.out).mono ?_; rintro e w' ⟨rfl, q, rfl⟩) | (go_at_call 69; refine (sVector_b _ _ _ l _ true HV2.out (HI.out.below (b_draws _ _))).mono ?_; rintro e w' ⟨rfl, rfl⟩))
        go_ret
        rw [HE.out]
        exact ⟨rfl, b_draws _ _⟩
      · have HE : Hid (M.orbCode R l = 5) := by show _ = _; unfold M.orbCode; rw [← hv1, ← hv2, if_pos (by rfl), if_neg (by omega)]
        have hne : ((N : Int) != (n : Int)) = true := by simp; omega
        clear h h' hv1 hv2 hRn hln
        go_enter Try.func47, Try.ntmps47
        go_wp2_with (first | (go_at_call 40; refine (sSquare_b _ _ _ R _ true HV1.out HA.out).mono ?_; rintro e w' ⟨rfl, q, rfl⟩) | (go_at_call 69; refine (sVector_b _ _ _ l _ true HV2.out (HI.out.below (b_draws _ _))).mono ?_; rintro e w' ⟨rfl, rfl⟩))
        go_ret
        rw [HE.out]
        exact ⟨rfl, b_draws _ _⟩
set_option maxRecDepth 100000 in
set_option maxHeartbeats 400000 in
theorem sColumn7 (a : Option Addr) (n cap : Nat) (l : List Int) (w : World) (h : Ints .i64 w a n l) (n1 : 1 ≤ n) (n2 : n ≤ 10) :
    Calls Try.prog 48 #[.slice a n cap] w (MPost n (M.colF n l) w) := by
  have HI := Lib.hid h
  have HE : Hid (M.mk n 1 (fun i j => M.ent [l] j i) = M.colF n l) := by
    show _ = _
    exact M.mk_congr fun i _ j hj => by obtain rfl : j = 0 := by omega
                                        rfl
  have H1T : Hid (Rect [l] 1 n) := ⟨rfl, fun i hi => by obtain rfl : i = 0 := by omega
                                                        exact h.1⟩
  clear h
  go_enter Try.func48, Try.ntmps48
  go_wp2_with fail
  refine (sTurn _ _ _ n [l] _ (mat_one w _ _ _ l HI.out) H1T.out (by omega) (by omega) n1 n2).mono ?_
  rintro e w1 ⟨a1, cap1, rfl, ho1, hb1⟩
  rw [HE.out] at ho1
  have HB1 := Lib.hid (bel1 hb1)
  have HO1 := Lib.hid (ho1.mono (B' := w.heap.size) (by simp))
  clear ho1 hb1
  go_wp2
  go_ret
  exact ⟨_, _, rfl, HO1.out, HB1.out⟩
theorem serB_col {w : World} {a : Option Addr} {n : Nat} {R : List (List Int)} {x : List Int} (h : Mat w a n R) (hs : M.sqB R = true) : SerB w a n 1 R (M.colF n x) := by
  obtain ⟨hr, n1, n2, hsm⟩ := sq_parts7 h hs
  exact ⟨h, hr, n1, n2, hsm, by unfold M.colF; simp, by unfold M.colF; exact M.mk_wid _ _ _ (by omega), Nat.le_refl _, by omega⟩
end V
end Go.Proofs.Ytmcihaihbnnblab

namespace Go.Proofs.Ytmcihaihbnnblab
namespace M
def orRes (R : List (List Int)) (x : List Int) : Int × Int × Int × Int := if orbCode R x = 0 then fnd R (colF R.length x) else (0, 0, 0, orbCode R x)
end M
namespace V
set_option maxRecDepth 100000
open Go.RowKit
theorem okTo_col {R : List (List Int)} {n : Nat} {x : List Int} (hn : R.length = n) (hx : M.isVec x = true) (hl : x.length = R.length) (n1 : 1 ≤ n) (n2 : n ≤ 10) : M.okTo R (M.colF n x) 0 := fun j hj => by
  obtain rfl : j = 0 := by omega
  rw [← hn, M.ok_col hl (by omega) (by omega) 0]; exact hx
set_option maxRecDepth 100000 in
set_option maxHeartbeats 4000000 in
theorem sOrbitRepeats (a : Option Addr) (n cap : Nat) (R : List (List Int)) (a' : Option Addr) (N cap' : Nat) (l : List Int) (w : World) (h : Mat w a n R) (h' : Ints .i64 w a' N l) :
    Calls Try.prog 16 #[.slice a n cap, .slice a' N cap'] w (QPost (M.orRes R l) w) := by
  have HA := Lib.hid h
  have HI := Lib.hid h'
  obtain ⟨k0, hk0⟩ : ∃ k, k = M.orbCode R l := ⟨_, rfl⟩
  have HK := Lib.hid hk0.symm
  by_cases hk : k0 = 0
  · subst hk
    obtain ⟨hs, hx, hl⟩ := M.orbCode_t hk0.symm
    obtain ⟨hr, n1, n2, hsm⟩ := sq_parts7 h hs
    have hRn : R.length = n := h.1
    have hNn : N = n := by rw [← h'.1, hl]; exact hRn
    subst hNn
    have HE : Hid (M.orRes R l = M.fnd R (M.colF N l)) := by show _ = _; unfold M.orRes; rw [← hk0, if_pos rfl, hRn]
    have HSB : Hid (∀ w' : World, Below w.heap.size w w' → SerB w' a N 1 R (M.colF N l)) := fun w' hb => serB_col (HA.out.below hb) hs
    have HFr : Hid (Rect (M.colF N l) N 1) := rect_mk _ _ _
    have H0 : Hid (M.okTo R (M.colF N l) 0) := Lib.hid (okTo_col hRn hx hl n1 n2)
    clear h h' hk0 hs hx hl hr hsm hRn
    go_enter Try.func16, Try.ntmps16
    go_wp2_with (go_at_call 47; refine (sCode7 _ _ _ R _ _ _ l _ HA.out HI.out).mono ?_; rintro e w1 ⟨rfl, hb⟩; have HB1 := Lib.hid hb; clear hb; rw [HK.out])
    refine (sColumn7 _ _ _ l _ (HI.out.below HB1.out) n1 n2).mono ?_
    rintro e w2 ⟨b2, c2, rfl, ho, hb⟩
    have HO2 := Lib.hid ho
    have HB2 := Lib.hid hb
    clear ho hb
    go_wp2_with fail
    refine (sStart7 w1 a N cap 1 R (M.colF N l) b2 c2 _ HB2.out HO2.out HFr.out n2 (Nat.le_refl _) (by omega)).mono ?_
    rintro e w3 ⟨p, rfl, hs⟩
    have HS3 := Lib.hid hs
    clear hs
    go_wp2_with fail
    refine (sFind w1 a N cap 1 R (M.colF N l) p _ (HSB.out _ HB1.out) HS3.out H0.out).mono ?_
    rintro e w4 ⟨s, c, g, d, hf, rfl, hb, -⟩
    have HF := Lib.hid (HE.out.trans hf)
    have HB4 := Lib.hid (HB1.out.trans (hb.mono HB1.out.size))
    clear hf hb
    go_wp2
    exact bodyPost_ret (v := .tuple #[.int .i64 s, .int .i64 c, .int .i64 g, .int .i64 d]) (by simp [results, Try.results16, go_sem]) rfl ⟨by rw [HF.out], HB4.out⟩
  · have HE : Hid (M.orRes R l = (0, 0, 0, k0)) := by show _ = _; unfold M.orRes; rw [← hk0, if_neg hk]
    clear h h' hk0
    go_enter Try.func16, Try.ntmps16
    go_wp2_with (go_at_call 47; refine (sCode7 _ _ _ R _ _ _ l _ HA.out HI.out).mono ?_; rintro e w1 ⟨rfl, hb⟩; have HB1 := Lib.hid hb; clear hb; rw [HK.out])
    go_wp2
    exact bodyPost_ret (v := .tuple #[.int .i64 0, .int .i64 0, .int .i64 0, .int .i64 k0]) (by simp [results, Try.results16, go_sem]) rfl ⟨by rw [HE.out], HB1.out⟩
/-- The elements of a sequence, in whatever world. -/
def IsElr (w0 w : World) (p : Nat) (R F : List (List Int)) (k : Nat) : Prop :=
  ∃ v0 v1 g2 c2, w.rowIs p 88 3 (serF v0 v1 (.slice (some ⟨g2, 0, none⟩) (k + 1) c2)) ∧ w.ownsRow w0.heap.size 85 101 (.slice (some ⟨g2, 0, none⟩) (k + 1) c2) (k + 1) (elvs R F (k + 1))
def ORPost (R : List (List Int)) (l : List Int) (w : World) (e : Ending) (w' : World) : Prop :=
  ∃ (s c g d : Int) (pv : Value), M.orRes R l = (s, c, g, d) ∧ e = .returned (.tuple #[pv, .agg #[.int .i64 s, .int .i64 c, .int .i64 g], .int .i64 d]) ∧ Below w.heap.size w w' ∧
    (d = 0 → ∃ (wb : World) (p i j k : Nat), pv = .pointer (some ⟨p, 0, none⟩) ∧ s = i ∧ c = j ∧ 1 ≤ j ∧ i + j ≤ k ∧ i + j ≤ 100 ∧ M.okTo R (M.colF R.length l) k ∧ IsElr wb w' p R (M.colF R.length l) k)
theorem orb_res (tmps : Array Value) (w : World) (r : Nat) (x y z d : Int) (pv : Value) (h4 : tmps.getD 4 undef = pv) (h5 : tmps.getD 5 undef = .pointer (some ⟨r, 0, none⟩)) (h6 : tmps.getD 6 undef = .int .i64 d) (hg : w.heap[r]? = some (.cells #[.int .i64 x, .int .i64 y, .int .i64 z] 62 (0, 0))) :
    (results Try.f49 tmps).run Try.prog w = .ok (.tuple #[pv, .agg #[.int .i64 x, .int .i64 y, .int .i64 z], .int .i64 d]) w := by
  have hs : (Try.prog.info? 62).map (·.size) = some 3 := by kernel_rfl
  have := run_loadVar_row (P := Try.prog) w r 62 62 #[.int .i64 x, .int .i64 y, .int .i64 z] (0, 0) _ hg Try.underlying62 rfl hs
  have hr : Try.f49.results = #[.tmp 4, .cell 5 62, .tmp 6] := rfl
  have h4' : tmps[4]?.getD undef = pv := by simpa using h4
  have h5' : tmps[5]?.getD undef = .pointer (some ⟨r, 0, none⟩) := by simpa using h5
  have h6' : tmps[6]?.getD undef = .int .i64 d := by simpa using h6
  simp only [results, hr]
  simp [Sem.run_bind, Result.andThen, h4', h5', h6', asAddr, this]
theorem IsEls.keep {w0 w w' : World} {p k : Nat} {R F : List (List Int)} (h : IsEls w0 w p R F k) (hb : w0.heap.size ≤ w'.heap.size) (hp : w0.heap.size ≤ p) (hk : ∀ j, w0.heap.size ≤ j → j < w.heap.size → w'.heap[j]? = w.heap[j]?) : IsElr w0 w' p R F k := by
  obtain ⟨-, v0, v1, g, c, h1, h2⟩ := h
  exact ⟨v0, v1, g, c, World.rowIs.of_block h1 (hk p hp (World.rowIs.lt h1)), ownE_keep h2 fun j hj => hk j (World.ownsRow.lt h2 j hj).1 (World.ownsRow.lt h2 j hj).2⟩
set_option maxRecDepth 100000 in
set_option maxHeartbeats 4000000 in
theorem orbitRepeat (a : Option Addr) (n cap : Nat) (R : List (List Int)) (a' : Option Addr) (N cap' : Nat) (l : List Int) (w : World) (h : Mat w a n R) (h' : Ints .i64 w a' N l) :
    Calls Try.prog 49 #[.slice a n cap, .slice a' N cap'] w (ORPost R l w) := by
  obtain ⟨wa, hwa⟩ : ∃ x, x = w.alloc (.cells #[.int .i64 0, .int .i64 0, .int .i64 0] 62) := ⟨_, rfl⟩
  have hbw : Below w.heap.size w wa := by rw [hwa]; exact b_alloc _ _
  have hgw : wa.heap[w.heap.size]? = some (.cells #[.int .i64 0, .int .i64 0, .int .i64 0] 62 (0, 0)) := by rw [hwa]; exact heap_alloc_last _ _
  have hsz : wa.heap.size = w.heap.size + 1 := by rw [hwa]; simp
  have HA := Lib.hid (h.below hbw)
  have HI := Lib.hid (h'.below hbw)
  have HBw := Lib.hid hbw
  have HGw := Lib.hid hgw
  have HWA := Lib.hid hwa
  have HSz := Lib.hid hsz
  clear hwa hsz hgw hbw
  obtain ⟨k0, hk0⟩ : ∃ k, k = M.orbCode R l := ⟨_, rfl⟩
  have HK := Lib.hid hk0.symm
  by_cases hk : k0 = 0
  · subst hk
    obtain ⟨hs, hx, hl⟩ := M.orbCode_t hk0.symm
    obtain ⟨hr, n1, n2, hsm⟩ := sq_parts7 h hs
    have hRn : R.length = n := h.1
    have hNn : N = n := by rw [← h'.1, hl]; exact hRn
    subst hNn
    have HE : Hid (M.orRes R l = M.fnd R (M.colF R.length l)) := by show _ = _; unfold M.orRes; rw [← hk0, if_pos rfl]
    have HFc : Hid (M.colF R.length l = M.colF N l) := by show _ = _; rw [hRn]
    have HSB : Hid (SerB wa a N 1 R (M.colF N l)) := Lib.hid (serB_col HA.out hs)
    have HFr : Hid (Rect (M.colF N l) N 1) := rect_mk _ _ _
    have H0 : Hid (M.okTo R (M.colF N l) 0) := Lib.hid (okTo_col hRn hx hl n1 n2)
    have HVl : Hid (∀ i j, i < N → j < 1 → M.isVal (M.ent (M.colF N l) i j) = true) := Lib.hid (HSB.out.sq (k := 0) (H0.out 0 (Nat.le_refl _))).2
    have H1T : Hid (Rect [l] 1 N) := ⟨rfl, fun i hi => by obtain rfl : i = 0 := by omega
                                                          exact h'.1⟩
    have HE1 : Hid (M.mk N 1 (fun i j => M.ent [l] j i) = M.colF N l) := by
      show _ = _
      unfold M.colF
      exact M.mk_congr fun i _ j hj => by obtain rfl : j = 0 := by omega
                                          rfl
    clear h h' hk0 hs hx hl hr hsm hRn
    go_enter Try.func49, Try.ntmps49
    go_wp2_with (go_at_call 73; rw [← HWA.out]; refine (orbitCode _ _ _ R _ _ _ l _ HA.out HI.out).mono ?_; rintro e w1 ⟨rfl, rfl⟩; rw [HK.out])
    refine (transposed _ _ _ N [l] _ (mat_one wa _ _ _ l HI.out) H1T.out (by omega) (by omega) n1 n2).mono ?_
    rintro e w2 ⟨b2, c2, rfl, ho, hb⟩
    rw [HE1.out] at ho
    have HB2 := Lib.hid (bel1 hb)
    have HO2 := Lib.hid ho
    clear ho hb
    go_wp2_with fail
    refine (sequenceFrom wa a N cap 1 R (M.colF N l) b2 c2 _ HB2.out (HO2.out.mono (b_alloc wa _).size) HFr.out n1 n2 (Nat.le_refl _) (by omega) HVl.out).mono ?_
    rintro e w3 ⟨p, rfl, hs⟩
    have HS3 := Lib.hid hs
    clear hs
    go_wp2_with fail
    refine (firstRepeat wa a N cap 1 R (M.colF N l) p _ HSB.out HS3.out H0.out).mono ?_
    rintro e w4 ⟨s, c, g, d, hf, rfl, hb, hels⟩
    have HF : Hid (M.orRes R l = (s, c, g, d)) := Lib.hid (HE.out.trans (by rw [HFc.out]; exact hf))
    have hpq := HS3.out.2.1
    have HB4 := Lib.hid hb
    have HEls := Lib.hid hels
    have HG4 := Lib.hid ((hb.block w.heap.size (by have := HSz.out; omega)).trans HGw.out)
    clear hf hb hels
    go_wp2
    obtain ⟨w5, hw5⟩ : ∃ x, x = w4.alloc (.cells #[.int .i64 s, .int .i64 c, .int .i64 g] 62) := ⟨_, rfl⟩
    obtain ⟨q, hq⟩ : ∃ q, q = w4.heap.size := ⟨_, rfl⟩
    have hb5 : Below w4.heap.size w4 w5 := by rw [hw5]; exact b_alloc _ _
    have HL5 : Hid (w5.heap[q]? = some (.cells #[.int .i64 s, .int .i64 c, .int .i64 g] 62 (0, 0))) := Lib.hid (by rw [hw5, hq]; exact heap_alloc_last _ _)
    have HG5 := Lib.hid ((hb5.block w.heap.size (by have := HSz.out; have := HB4.out.size; omega)).trans HG4.out)
    have HB5 := Lib.hid (HB4.out.trans (hb5.mono HB4.out.size))
    have HK5 : Hid (∀ j, j < w4.heap.size → w5.heap[j]? = w4.heap[j]?) := Lib.hid (fun j hj => hb5.block j hj)
    rw [← hw5, ← hq]
    obtain ⟨⟨z0, z1, z2⟩, f0, f1, f2⟩ := res_facts HG5.out
    have l0 : w5.cell? ⟨q, 0, none⟩ = some (.int .i64 s) := by rw [cell_of_row _ _ _ _ _ _ HL5.out]; rfl
    have l1 : w5.cell? ⟨q, 1, none⟩ = some (.int .i64 c) := by rw [cell_of_row _ _ _ _ _ _ HL5.out]; rfl
    have l2 : w5.cell? ⟨q, 2, none⟩ = some (.int .i64 g) := by rw [cell_of_row _ _ _ _ _ _ HL5.out]; rfl
    clear hw5 hq hb5
    go_region
    all_goals go_wp2
    all_goals
      have hle : w.heap.size ≤ w.heap.size := Nat.le_refl _
      have HBf := Lib.hid (HBw.out.trans (HB5.out.mono (by have := HSz.out; omega)))
      refine bodyPost_ret (orb_res _ _ w.heap.size s c g d (.pointer (some ⟨p, 0, none⟩)) rfl rfl rfl (res_heap HG5.out _ _ _)) rfl ⟨s, c, g, d, _, HF.out, rfl, ?_, fun hd => ?_⟩
      · exact (((HBf.out.setCell hle _).setCell hle _).setCell hle _).drew
      · obtain ⟨i, j, k, h1, h2, h3, h4, h5, h6, h7⟩ := HEls.out hd
        rw [HFc.out]
        refine ⟨wa, p, i, j, k, rfl, h1, h2, h3, h4, h5, h6, h7.keep ?_ hpq fun t ht1 ht2 => ?_⟩
        · have := HB5.out.size; simpa using this
        · have htn : t ≠ w.heap.size := by have := HSz.out; omega
          exact (((Below.heap_setCell _ _ _ _ htn).trans (Below.heap_setCell _ _ _ _ htn)).trans (Below.heap_setCell _ _ _ _ htn)).trans (HK5.out t ht2)
  · have HE : Hid (M.orRes R l = (0, 0, 0, k0)) := by show _ = _; unfold M.orRes; rw [← hk0, if_neg hk]
    clear h h' hk0
    obtain ⟨⟨z0, z1, z2⟩, f0, f1, f2⟩ := res_facts HGw.out
    go_enter Try.func49, Try.ntmps49
    go_wp2_with (go_at_call 73; rw [← HWA.out]; refine (orbitCode _ _ _ R _ _ _ l _ HA.out HI.out).mono ?_; rintro e w1 ⟨rfl, rfl⟩; rw [HK.out])
    go_wp2
    have hle : w.heap.size ≤ w.heap.size := Nat.le_refl _
    exact bodyPost_ret (orb_res _ _ w.heap.size 0 0 0 k0 (.pointer none) rfl rfl rfl (res_heap HGw.out _ _ _)) rfl ⟨0, 0, 0, k0, _, HE.out, rfl, ((HBw.out.setCell hle _).setCell hle _).setCell hle _, fun h => absurd h hk⟩
end V
end Go.Proofs.Ytmcihaihbnnblab

namespace Go.Proofs.Ytmcihaihbnnblab.V
set_option maxRecDepth 100000
open Go.RowKit
set_option maxRecDepth 100000 in
set_option maxHeartbeats 4000000 in
theorem orbitRepeats (a : Option Addr) (n cap : Nat) (R : List (List Int)) (a' : Option Addr) (N cap' : Nat) (l : List Int) (w : World) (h : Mat w a n R) (h' : Ints .i64 w a' N l) :
    Calls Try.prog 18 #[.slice a n cap, .slice a' N cap'] w (QPost (M.orRes R l) w) := by
  have HA := Lib.hid h
  have HI := Lib.hid h'
  clear h h'
  go_enter Try.func18, Try.ntmps18
  go_wp2_with fail
  refine (orbitRepeat _ _ _ R _ _ _ l _ HA.out HI.out).mono ?_
  rintro e w4 ⟨s, c, g, d, pv, hf, rfl, hb, -⟩
  have HF := Lib.hid hf
  have HB4 := Lib.hid hb
  clear hf hb
  go_wp2
  go_quiet (fail)
  go_wp2
  exact bodyPost_ret (v := .tuple #[.int .i64 s, .int .i64 c, .int .i64 g, .int .i64 d]) (by simp [results, Try.results18, go_sem]) rfl ⟨by rw [HF.out], below_drewN (HB4.out.trans ((b_alloc w4 _).mono HB4.out.size)) _⟩
end Go.Proofs.Ytmcihaihbnnblab.V
