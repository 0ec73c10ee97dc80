/- Texts laid together: Orb, Sqq. -/
import Derived.Test.YtmcihaihbnnblaaQa10
import Derived.Test.YtmcihaihbnnblaaQa12
import Derived.Test.YtmcihaihbnnblaaQa15
import Derived.Test.YtmcihaihbnnblaaQa16
import Derived.Test.YtmcihaihbnnblaaQa5
set_option linter.unusedSimpArgs false
set_option linter.unusedVariables false
set_option linter.unusedSectionVars false
namespace Go.Proofs.Ytmcihaihbnnblaa
namespace M
theorem orbL_one (R : List (List Int)) (x : List Int) : orbL R x 1 = [x] := rfl
theorem orbRes_ok (R : List (List Int)) (x : List Int) (n : Int) : pre (orbRes R x n).1 (orbRes R x n).1.length ≤ 2000 ∧ (orbRes R x n).1.length ≤ 101 := by
  unfold orbRes
  split
  · next h =>
    obtain ⟨hs, hx, hl⟩ := orbCode_t h
    split
    · next h2 =>
      split
      · refine ⟨?_, by rw [orbL_len]; omega⟩
        have hv := (isVec_t hx).2.1
        have : ∀ k, pre (orbL R x (n.toNat + 1)) k ≤ 10 * k := by
          intro k
          unfold pre
          induction k with
          | zero => simp
          | succ k ih =>
            by_cases q : k < (orbL R x (n.toNat + 1)).length
            · rw [List.take_succ_eq_append_getElem q, List.map_append, List.sum_append]
              have hk : k < n.toNat + 1 := by rw [orbL_len] at q; exact q
              have : (orbL R x (n.toNat + 1))[k].length ≤ 10 := by
                have e : (orbL R x (n.toNat + 1))[k] = orb R x k := by
                  have := orbL_get (R := R) (x := x) hk
                  rw [List.getD_eq_getElem?_getD, List.getElem?_eq_getElem q] at this
                  exact this
                rw [e, orb_len hl]; omega
              simp only [List.map_cons, List.map_nil, List.sum_cons, List.sum_nil]
              omega
            · rw [List.take_of_length_le (by omega)]
              rw [List.take_of_length_le (by omega)] at ih
              omega
        have := this (orbL R x (n.toNat + 1)).length
        show pre (orbL R x (n.toNat + 1)) (orbL R x (n.toNat + 1)).length ≤ 2000
        rw [orbL_len] at this ⊢
        omega
      · simp [pre]
    · simp [pre]
  · simp [pre]
end M
namespace V
set_option maxRecDepth 100000
open Go.RowKit
theorem sq_parts7 {w : World} {a : Option Addr} {n : Nat} {R : List (List Int)} (h : Mat w a n R) (hs : M.sqB R = true) : Rect R n n ∧ 1 ≤ n ∧ n ≤ 10 ∧ ∀ i j, i < n → j < n → M.Sm 1000000 (M.ent R i j) := by
  have hq := sq_of h hs
  have e := (M.sq_sm hs).2.2
  rw [h.1] at e
  exact ⟨hq.2.1, hq.2.2.2.1, hq.2.2.2.2, e⟩
set_option maxRecDepth 100000 in
set_option maxHeartbeats 400000 in
theorem orbitCode (a : Option Addr) (n cap : Nat) (R : List (List Int)) (a' : Option Addr) (N cap' : Nat) (l : List Int) (w : World) (h : Mat w a n R) (h' : Ints .i64 w a' N l) :
    Calls Try.prog 35 #[.slice a n cap, .slice a' N cap'] w fun e w' => e = .returned (.int .i64 (M.orbCode R l)) ∧ w = w' := by
  have HA := Lib.hid h
  have HI := Lib.hid h'
  have hRn : R.length = n := h.1
  have hln : l.length = N := h'.1
  obtain ⟨v1, hv1⟩ : ∃ v, v = M.sqB R := ⟨_, rfl⟩
  have HV1 := Lib.hid hv1.symm
  cases v1 with
  | false =>
    have HE : Hid (M.orbCode R l = 1) := by show _ = _; unfold M.orbCode; rw [← hv1]; rfl
    clear h h' hv1 hRn hln
    go_enter Try.func35, Try.ntmps35
    go_wp2_with (go_at_call 60; refine (isSquare_b _ _ _ R _ false HV1.out HA.out).mono ?_; rintro e w' ⟨rfl, rfl⟩)
    go_ret
    rw [HE.out]
    exact ⟨rfl, rfl⟩
  | true =>
    obtain ⟨v2, hv2⟩ : ∃ v, v = M.isVec l := ⟨_, rfl⟩
    have HV2 := Lib.hid hv2.symm
    cases v2 with
    | false =>
      have HE : Hid (M.orbCode R l = 1) := by show _ = _; unfold M.orbCode; rw [← hv1, ← hv2]; rfl
      clear h h' hv1 hv2 hRn hln
      go_enter Try.func35, Try.ntmps35
      go_wp2_with (first | (go_at_call 60; refine (isSquare_b _ _ _ R _ true HV1.out HA.out).mono ?_; rintro e w' ⟨rfl, rfl⟩) | (go_at_call 38; refine (isVector_b _ _ _ l _ false HV2.out HI.out).mono ?_; rintro e w' ⟨rfl, rfl⟩))
      go_ret
      rw [HE.out]
      exact ⟨rfl, rfl⟩
    | true =>
      by_cases hl : N = n
      · subst hl
        have HE : Hid (M.orbCode R l = 0) := by show _ = _; unfold M.orbCode; rw [← hv1, ← hv2, if_pos (by rfl), if_pos (by omega)]
        clear h h' hv1 hv2 hRn hln
        go_enter Try.func35, Try.ntmps35
        go_wp2_with (first | (go_at_call 60; refine (isSquare_b _ _ _ R _ true HV1.out HA.out).mono ?_; rintro e w' ⟨rfl, rfl⟩) | (go_at_call 38; refine (isVector_b _ _ _ l _ true HV2.out HI.out).mono ?_; rintro e w' ⟨rfl, rfl⟩))
        go_ret
        rw [HE.out]
        exact ⟨rfl, rfl⟩
      · have HE : Hid (M.orbCode R l = 5) := by show _ = _; unfold M.orbCode; rw [← hv1, ← hv2, if_pos (by rfl), if_neg (by omega)]
        have hne : ((N : Int) != (n : Int)) = true := by simp; omega
        clear h h' hv1 hv2 hRn hln
        go_enter Try.func35, Try.ntmps35
        go_wp2_with (first | (go_at_call 60; refine (isSquare_b _ _ _ R _ true HV1.out HA.out).mono ?_; rintro e w' ⟨rfl, rfl⟩) | (go_at_call 38; refine (isVector_b _ _ _ l _ true HV2.out HI.out).mono ?_; rintro e w' ⟨rfl, rfl⟩))
        go_ret
        rw [HE.out]
        exact ⟨rfl, rfl⟩
set_option maxRecDepth 100000 in
set_option maxHeartbeats 4000000 in
theorem orbitOf (a : Option Addr) (n cap : Nat) (R : List (List Int)) (a' : Option Addr) (N cap' : Nat) (l : List Int) (m : Int) (w : World) (h : Mat w a n R) (h' : Ints .i64 w a' N l) :
    Calls Try.prog 10 #[.slice a n cap, .slice a' N cap', .int .i64 m] w (MRes (M.orbRes R l m) w) := by
  have HA := Lib.hid h
  have HI := Lib.hid h'
  obtain ⟨k0, hk0⟩ : ∃ k, k = M.orbCode R l := ⟨_, rfl⟩
  have HK := Lib.hid hk0.symm
  by_cases hk : k0 = 0
  · subst hk
    obtain ⟨hs, hx, hl⟩ := M.orbCode_t hk0.symm
    obtain ⟨hr, n1, n2, hsm⟩ := sq_parts7 h hs
    have hRn : R.length = n := h.1
    have hNn : N = n := by rw [← h'.1, hl]; exact hRn
    subst hNn
    by_cases hm : 0 ≤ m ∧ m ≤ 100
    · obtain ⟨q, rfl⟩ := Int.eq_ofNat_of_zero_le hm.1
      have hq : q ≤ 100 := by omega
      have hq2 : (decide ((q : Int) < 0)) = false := by simp
      have HE : Hid (M.orbRes R l (q : Int) = if (M.orbL R l (q + 1)).all M.isVec then (M.orbL R l (q + 1), 0) else ([], 3)) := by show _ = _; unfold M.orbRes; rw [← hk0, if_pos rfl, if_pos hm]; rfl
      have HV := Lib.hid hx
      have HR := Lib.hid hr
      have HRB : Hid (∀ i j, i < N → j < N → M.Big (M.ent R i j)) := fun i j hi hj => M.big_sm (hsm i j hi hj) (by omega)
      have HLn : Hid (∀ k, (M.orb R l k).length = N) := fun k => by rw [M.orb_len hl]; exact hRn
      clear h h' hk0 hs hx hl hr hsm hRn hm
      go_enter Try.func10, Try.ntmps10
      go_wp2_with (go_at_call 35; refine (orbitCode _ _ _ R _ _ _ l _ HA.out HI.out).mono ?_; rintro e w' ⟨rfl, rfl⟩; rw [HK.out])
      refine (clone _ _ _ l _ HI.out (by omega) (by omega)).mono ?_
      rintro e w1 ⟨b1, c1, rfl, ho, hb⟩
      have HO0 : Hid (OwnM (w1.alloc (.cells #[.slice b1 N c1] 23)) w.heap.size (.slice (some ⟨w1.heap.size, 0, none⟩) 1 1) (M.orbL R l (0 + 1))) := ownM_lit1 w1 _ hb.size ho
      have HB0 : Hid (Below w.heap.size w (w1.alloc (.cells #[.slice b1 N c1] 23))) := hb.alloc hb.size _
      have HF0 : Hid ((M.orbL R l (0 + 1)).all M.isVec = true) := by show _ = _; rw [Nat.zero_add, M.orbL_one]; simp [HV.out]
      clear ho hb
      go_wp2
      go_loopw [9, 10, 27] (fun o _ kv wr => ∃ (k : Nat) (b : Option Addr) (c : Nat), k ≤ q ∧ kv = .int .i64 k ∧ o = .slice b (k + 1) c ∧ Hid (OwnM wr w.heap.size (.slice b (k + 1) c) (M.orbL R l (k + 1))) ∧ Hid ((M.orbL R l (k + 1)).all M.isVec = true) ∧ Hid (Below w.heap.size w wr)) (fun _ _ kv _ => q - (intOf kv).toNat)
      case atStart => exact ⟨0, _, _, Nat.zero_le _, rfl, rfl, HO0, HF0, HB0⟩
      case round =>
        obtain ⟨k, b, c, hk, rfl, rfl, HO, HF, HB⟩ := hrel
        obtain ⟨wo, rfl⟩ : ∃ x, x = wr := ⟨_, rfl⟩
        by_cases hkl : k < q
        · have hki : (k : Int) < (q : Int) := by omega
          obtain ⟨g, ra, rc, rfl, hcr, hro⟩ := HO.out.row k (by omega)
          rw [M.orbL_get (Nat.lt_succ_self k), HLn.out k] at hcr hro
          have hvk := M.orb_all HF.out (Nat.lt_succ_self k)
          have HRo := Lib.hid hro.ints'
          have HBg : Hid (∀ j, j < N → M.Big ((M.orb R l k).getD j 0)) := fun j hj => M.big_val ((M.isVec_t hvk).2.2 j (by rw [HLn.out]; exact hj))
          have hzo : w.heap.size ≤ wo.heap.size := HB.out.size
          obtain ⟨bv, hbv⟩ : ∃ b, b = M.isVec (M.orb R l (k + 1)) := ⟨_, rfl⟩
          have HBv := Lib.hid hbv.symm
          have HLk : Hid ((M.orbL R l (k + 1)).length = k + 1) := M.orbL_len _ _ _
          have hz1 : ((k : Int) + 1 - 1) = (k : Int) := by omega
          clear hro hvk hbv
          go_wp2_with fail
          refine (timesColumn _ _ _ R _ _ _ (M.orb R l k) _ (HA.out.below HB.out) HRo.out HR.out HRB.out HBg.out n1 n2 n1 n2).mono ?_
          rintro e w3 ⟨b3, c3, rfl, ho3, hb3⟩
          have HR3 : Hid (Own w3 wo.heap.size (.slice b3 N c3) (M.orb R l (k + 1))) := ho3
          have HB3 := Lib.hid hb3
          clear ho3 hb3
          cases bv with
          | false =>
            have HN : Hid ((M.orbL R l (q + 1)).all M.isVec = false) := M.orb_all_not (k := k + 1) (by omega) HBv.out
            go_wp2_with fail
            refine (isVector_b _ _ _ (M.orb R l (k + 1)) _ false HBv.out HR3.out.ints').mono ?_
            rintro e w' ⟨rfl, rfl⟩
            go_wp2
            go_ret2
            exact MRes.nil (by rw [HE.out, HN.out]; rfl) (HB.out.trans (HB3.out.mono hzo))
          | true =>
            have HF2 : Hid ((M.orbL R l (k + 1 + 1)).all M.isVec = true) := M.orb_all_next HF.out HBv.out
            go_wp2_with (first | (go_at_call 38; refine (isVector_b _ _ _ (M.orb R l (k + 1)) _ true HBv.out HR3.out.ints').mono ?_; rintro e w' ⟨rfl, rfl⟩) | (at_builtin; refine appendRow wo _ rfl (.tmp 40) (.tmp 42) rfl w.heap.size _ _ (M.orbL R l (k + 1)) (M.orb R l (k + 1)) (k + 1) HLk.out rfl HO.out HB3.out HR3.out rfl (by rw [HLk.out]; omega) hzo ?_))
            intro b4 c4 w4 hO4 hb4 _
            rw [← M.orbL_next] at hO4
            have HO4 := Lib.hid hO4
            have HB4 := Lib.hid ((HB.out.trans (HB3.out.mono hzo)).trans hb4)
            clear hO4 hb4
            go_wp2
            go_roundw
            case rel => exact ⟨k + 1, b4, c4, by omega, by go_num, rfl, HO4, HF2, HB4⟩
            case measure => simp [intOf]; omega
        · obtain rfl : k = q := by omega
          go_wp2
          go_ret2
          rw [HE.out, HF.out]
          exact ⟨_, _, _, rfl, HO.out, HB.out⟩
    · have HE : Hid (M.orbRes R l m = ([], 2)) := by show _ = _; unfold M.orbRes; rw [← hk0, if_pos rfl, if_neg hm]
      by_cases hm0 : m < 0
      · clear h h' hk0 hs hx hl hr hsm hRn hm
        go_enter Try.func10, Try.ntmps10
        go_wp2_with (go_at_call 35; refine (orbitCode _ _ _ R _ _ _ l _ HA.out HI.out).mono ?_; rintro e w' ⟨rfl, rfl⟩; rw [HK.out])
        go_ret2
        exact MRes.nil HE.out (Below.refl _ _)
      · have hm1 : 100 < m := by omega
        clear h h' hk0 hs hx hl hr hsm hRn hm
        go_enter Try.func10, Try.ntmps10
        go_wp2_with (go_at_call 35; refine (orbitCode _ _ _ R _ _ _ l _ HA.out HI.out).mono ?_; rintro e w' ⟨rfl, rfl⟩; rw [HK.out])
        go_ret2
        exact MRes.nil HE.out (Below.refl _ _)
  · have HE : Hid (M.orbRes R l m = ([], k0)) := by show _ = _; unfold M.orbRes; rw [← hk0, if_neg hk]
    have hk2 : (k0 != 0) = true := by simpa using hk
    clear h h' hk0 hk
    go_enter Try.func10, Try.ntmps10
    go_wp2_with (go_at_call 35; refine (orbitCode _ _ _ R _ _ _ l _ HA.out HI.out).mono ?_; rintro e w' ⟨rfl, rfl⟩; rw [HK.out])
    go_ret2
    exact MRes.nil HE.out (Below.refl _ _)
end V
end Go.Proofs.Ytmcihaihbnnblaa

namespace Go.Proofs.Ytmcihaihbnnblaa
namespace M
def sq7 (R F : List (List Int)) : Nat → List (List Int)
  | 0 => F
  | k + 1 => mulM R (sq7 R F k)
def sqL (R F : List (List Int)) (k : Nat) : List (List Int) := (List.range k).map fun i => (sq7 R F i).flatten
/-- The cells of a pattern. -/
def patC (X : List (List Int)) (h : Int) : List Int := (List.range 100).map fun t => if t / 10 < X.length ∧ t % 10 < wid X then times (ent X (t / 10) (t % 10)) (-h) else 0
theorem patC_len (X : List (List Int)) (h : Int) : (patC X h).length = 100 := by simp [patC]
theorem patC_get {X : List (List Int)} {h : Int} {i j : Nat} (hi : i < X.length) (hj : j < wid X) (h10 : i < 10) (j10 : j < 10) : (patC X h).getD (i * 10 + j) 0 = times (ent X i j) (-h) := by
  have e1 : (i * 10 + j) / 10 = i := by omega
  have e2 : (i * 10 + j) % 10 = j := by omega
  have e3 : i * 10 + j < 100 := by omega
  simp [patC, e3, e1, e2, hi, hj]
theorem patC_iff {X Y : List (List Int)} {h d : Int} (h1 : X.length = Y.length) (h2 : wid X = wid Y) (hx : X.length ≤ 10) (hw : wid X ≤ 10) : patC X h = patC Y d ↔ ∀ i, i < X.length → ∀ j, j < wid X → times (ent X i j) (-h) = times (ent Y i j) (-d) := by
  constructor
  · intro e i hi j hj
    rw [← patC_get (h := h) hi hj (by omega) (by omega), e, patC_get (by omega) (by omega) (by omega) (by omega)]
  · intro e
    refine List.map_congr_left fun t _ => ?_
    by_cases hc : t / 10 < X.length ∧ t % 10 < wid X
    · rw [if_pos hc, if_pos (by rw [← h1, ← h2]; exact hc)]
      exact e _ hc.1 _ hc.2
    · rw [if_neg hc, if_neg (by rw [← h1, ← h2]; exact hc)]
theorem shv_flat (X : List (List Int)) (g : Int) : shvL X.flatten g = (X.map fun l => shvL l g).flatten := by
  unfold shvL
  rw [List.map_flatten]
theorem flat_vals {X : List (List Int)} (h : isMat X = true) : Vals X.flatten := by
  intro i hi
  have hm : X.flatten.getD i 0 ∈ X.flatten := by rw [List.getD_eq_getElem?_getD, List.getElem?_eq_getElem hi]; exact List.getElem_mem hi
  obtain ⟨r, hr, hx⟩ := List.mem_flatten.1 hm
  obtain ⟨a, ha, rfl⟩ := List.mem_iff_getElem.1 hr
  obtain ⟨b, hb, e⟩ := List.mem_iff_getElem.1 hx
  have hl := isMat_len h ha
  have hv := isMat_val h ha (j := b) (by rw [← hl]; simpa [ha] using hb)
  rw [← e]
  simpa [ha, hb] using hv
theorem rows_len {X : List (List Int)} (h : isMat X = true) : X.map List.length = List.replicate X.length (wid X) := by
  refine List.ext_getElem (by simp) fun i h1 h2 => ?_
  have hi : i < X.length := by simpa using h1
  have := isMat_len h hi
  simp only [List.getElem_map, List.getElem_replicate]
  simpa [hi] using this
theorem flat_len {X Y : List (List Int)} (hx : isMat X = true) (hy : isMat Y = true) (h1 : X.length = Y.length) (h2 : wid X = wid Y) : X.flatten.length = Y.flatten.length := by
  rw [List.length_flatten, List.length_flatten, rows_len hx, rows_len hy, h1, h2]
theorem nrm_pat {X Y : List (List Int)} (hx : isMat X = true) (hy : isMat Y = true) (h1 : X.length = Y.length) (h2 : wid X = wid Y) : patC X (maxL X.flatten) = patC Y (maxL Y.flatten) ↔ nrm X.flatten = nrm Y.flatten := by
  obtain ⟨x1, x2, x3, x4, x5, -⟩ := isMat_t hx
  have y5 := (isMat_t hy).2.2.2.2.1
  rw [patC_iff h1 h2 x2 x4]
  unfold nrm
  rw [shv_flat, shv_flat]
  constructor
  · intro e
    congr 1
    refine List.ext_getElem (by simp [h1]) fun i q1 q2 => ?_
    have hi : i < X.length := by simpa using q1
    have hi2 : i < Y.length := by omega
    simp only [List.getElem_map]
    have l1 := x5 i hi
    have l2 := y5 i hi2
    have g1 : X.getD i [] = X[i] := by simp [hi]
    have g2 : Y.getD i [] = Y[i] := by simp [hi2]
    rw [shv_eq (by rw [← g1, ← g2, l1, l2, h2])]
    intro j hj
    have := e i hi j (by rw [← l1, g1]; exact hj)
    unfold ent at this
    rw [g1, g2] at this
    exact this
  · intro e i hi j hj
    have e2 : (X.map fun l => shvL l (-maxL X.flatten)) = (Y.map fun l => shvL l (-maxL Y.flatten)) := by
      rw [List.eq_iff_flatten_eq]
      refine ⟨e, ?_⟩
      rw [List.map_map, List.map_map]
      have f1 : ∀ g, (List.length ∘ fun l => shvL l g) = List.length := fun g => by funext l; simp [shv_len]
      rw [f1, f1, rows_len hx, rows_len hy, h1, h2]
    have hi2 : i < Y.length := by omega
    have l1 := x5 i hi
    have l2 := y5 i hi2
    have g1 : X.getD i [] = X[i] := by simp [hi]
    have g2 : Y.getD i [] = Y[i] := by simp [hi2]
    have e3 : shvL X[i] (-maxL X.flatten) = shvL Y[i] (-maxL Y.flatten) := by
      have := congrArg (fun L => L.getD i []) e2
      simpa [hi, hi2] using this
    rw [shv_eq (by rw [← g1, ← g2, l1, l2, h2])] at e3
    have := e3 j (by rw [← g1, l1]; exact hj)
    unfold ent
    rw [g1, g2]
    exact this
theorem maxL_app (l r : List Int) : maxL (l ++ r) = max (maxL l) (maxL r) := by
  unfold maxL
  rw [List.foldl_append]
  have : ∀ (r : List Int) (a b : Int), r.foldl max (max a b) = max a (r.foldl max b) := by
    intro r
    induction r with
    | nil => intro a b; rfl
    | cons x r ih => intro a b; rw [List.foldl_cons, List.foldl_cons, Int.max_assoc, ih]
  have h2 := this r (l.foldl max (-1000000000000000)) (-1000000000000000)
  rw [← h2]
  congr 1
  have := (maxL_foldl l (-1000000000000000)).1
  omega
/-! The search. -/
def inn (ok : Nat → Bool) (rep : Nat → Nat → Bool) (gr : Nat → Nat → Int) (k : Nat) : Nat → Nat → Option (Int × Int × Int × Int)
  | 0, _ => none
  | m + 1, e => if ok e then (if rep k e then some ((k : Int), (e : Int) - k, gr k e, 0) else inn ok rep gr k m (e + 1)) else some (0, 0, 0, 3)
def out (ok : Nat → Bool) (rep : Nat → Nat → Bool) (gr : Nat → Nat → Int) : Nat → Nat → Int × Int × Int × Int
  | 0, _ => (0, 0, 0, 4)
  | m + 1, k => (inn ok rep gr k (m + 1) (k + 1)).getD (out ok rep gr m (k + 1))
def outI (ok : Nat → Bool) (rep : Nat → Nat → Bool) (gr : Nat → Nat → Int) (k e : Nat) : Int × Int × Int × Int := (inn ok rep gr k (101 - e) e).getD (out ok rep gr (99 - k) (k + 1))
theorem out_start {ok : Nat → Bool} {rep : Nat → Nat → Bool} {gr : Nat → Nat → Int} {k : Nat} (hk : k < 100) : out ok rep gr (100 - k) k = outI ok rep gr k (k + 1) := by
  obtain ⟨m, hm⟩ : ∃ m, 100 - k = m + 1 := ⟨99 - k, by omega⟩
  unfold outI
  rw [hm, out, show 101 - (k + 1) = m + 1 by omega, show 99 - k = m by omega]
theorem outI_limit {ok : Nat → Bool} {rep : Nat → Nat → Bool} {gr : Nat → Nat → Int} {k e : Nat} (he : e ≤ 100) (h : ok e = false) : outI ok rep gr k e = (0, 0, 0, 3) := by
  obtain ⟨m, hm⟩ : ∃ m, 101 - e = m + 1 := ⟨100 - e, by omega⟩
  unfold outI
  rw [hm, inn, h]
  rfl
theorem outI_found {ok : Nat → Bool} {rep : Nat → Nat → Bool} {gr : Nat → Nat → Int} {k e : Nat} (he : e ≤ 100) (h : ok e = true) (h2 : rep k e = true) : outI ok rep gr k e = ((k : Int), (e : Int) - k, gr k e, 0) := by
  obtain ⟨m, hm⟩ : ∃ m, 101 - e = m + 1 := ⟨100 - e, by omega⟩
  unfold outI
  rw [hm, inn, h, h2]
  rfl
theorem outI_next {ok : Nat → Bool} {rep : Nat → Nat → Bool} {gr : Nat → Nat → Int} {k e : Nat} (he : e ≤ 100) (h : ok e = true) (h2 : rep k e = false) : outI ok rep gr k e = outI ok rep gr k (e + 1) := by
  obtain ⟨m, hm⟩ : ∃ m, 101 - e = m + 1 := ⟨100 - e, by omega⟩
  unfold outI
  rw [hm, inn, h, h2, show 101 - (e + 1) = m by omega]
  rfl
theorem outI_end {ok : Nat → Bool} {rep : Nat → Nat → Bool} {gr : Nat → Nat → Int} {k e : Nat} (he : ¬ e ≤ 100) (hk : k < 100) : outI ok rep gr k e = out ok rep gr (100 - (k + 1)) (k + 1) := by
  unfold outI
  rw [show 101 - e = 0 by omega, inn, show 100 - (k + 1) = 99 - k by omega]
  rfl
def okQ (R F : List (List Int)) (k : Nat) : Bool := isMat (sq7 R F k)
def repQ (R F : List (List Int)) (k e : Nat) : Bool := decide (nrm (sq7 R F k).flatten = nrm (sq7 R F e).flatten)
def grQ (R F : List (List Int)) (k e : Nat) : Int := maxL (sq7 R F e).flatten - maxL (sq7 R F k).flatten
def fnd (R F : List (List Int)) : Int × Int × Int × Int := out (okQ R F) (repQ R F) (grQ R F) 100 0
/-- All elements up to k consist of values. -/
def okTo (R F : List (List Int)) (k : Nat) : Prop := ∀ j, j ≤ k → okQ R F j = true
theorem sq7_len {R F : List (List Int)} (h : F.length = R.length) : ∀ k, (sq7 R F k).length = R.length
  | 0 => h
  | k + 1 => by show (mulM R _).length = _; simp [mulM]
theorem sq7_wid {R F : List (List Int)} (h0 : 0 < R.length) : ∀ k, wid (sq7 R F k) = wid F
  | 0 => rfl
  | k + 1 => by show wid (mulM R _) = _; unfold mulM; rw [mk_wid _ _ _ h0]; exact sq7_wid h0 k
theorem sqL_len (R F : List (List Int)) (k : Nat) : (sqL R F k).length = k := by simp [sqL]
theorem sqL_next (R F : List (List Int)) (k : Nat) : sqL R F (k + 1) = sqL R F k ++ [(sq7 R F k).flatten] := by simp [sqL, List.range_succ]
theorem sqL_get {R F : List (List Int)} {k i : Nat} (h : i < k) : (sqL R F k).getD i [] = (sq7 R F i).flatten := by simp [sqL, h]
/-- A column's sequence is its orbit. -/
theorem sq7_col {R : List (List Int)} {x : List Int} (hx : x.length = R.length) : ∀ k, sq7 R (mk R.length 1 fun i _ => x.getD i 0) k = mk R.length 1 fun i _ => (orb R x k).getD i 0
  | 0 => rfl
  | k + 1 => by
    show mulM R _ = _
    rw [sq7_col hx k]
    unfold mulM
    by_cases h0 : 0 < R.length
    · rw [mk_wid _ _ _ h0]
      refine mk_congr fun i hi j hj => ?_
      rw [orb, apply_get hi, orb_len hx k]
      unfold dot
      rw [show (mk R.length 1 fun i _ => (orb R x k).getD i 0).length = R.length by simp]
      refine sumN_congr fun t ht => ?_
      rw [ent_mk _ _ _ _ _ ht hj]
    · have : R.length = 0 := by omega
      simp [mk, this]
theorem mk_one_flat (n : Nat) (f : Nat → Int) : (mk n 1 fun i _ => f i).flatten = (List.range n).map f := by
  unfold mk
  induction List.range n with
  | nil => rfl
  | cons a l ih => simpa using ih
theorem orb_flat {R : List (List Int)} {x : List Int} (hx : x.length = R.length) (k : Nat) : (sq7 R (mk R.length 1 fun i _ => x.getD i 0) k).flatten = orb R x k := by
  rw [sq7_col hx, mk_one_flat]
  refine list_ext0 (by rw [orb_len hx]; simp) fun i hi => ?_
  have hi2 : i < R.length := by simpa using hi
  simp [hi2]
end M
end Go.Proofs.Ytmcihaihbnnblaa
