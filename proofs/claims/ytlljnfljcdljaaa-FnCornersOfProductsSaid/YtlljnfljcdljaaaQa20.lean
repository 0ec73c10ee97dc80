/- Texts laid together: Plj. -/
import Derived.Test.YtlljnfljcdljaaaQa19
set_option linter.unusedSimpArgs false
set_option linter.unusedVariables false
set_option linter.unusedSectionVars false
namespace Go.Proofs.Ytlljnfljcdljaaa
namespace M
/-- A product while the model makes it. -/
def mulX (c d : List Int) (N i k : Nat) : List Int := (List.range N).map fun m => max (sumN i (mulT c d m)) (if i ≤ m ∧ m - i < k then mulT c d m i else -1000000000000000)
theorem mulX_zero (c d : List Int) (N : Nat) : mulX c d N 0 0 = (List.range N).map fun _ => -1000000000000000 := List.map_congr_left fun m _ => by
  rw [if_neg (by omega)]; rfl
theorem mulX_next (c d : List Int) (N i : Nat) : mulX c d N i d.length = mulX c d N (i + 1) 0 := List.map_congr_left fun m _ => by
  rw [if_neg (show ¬(i + 1 ≤ m ∧ m - (i + 1) < 0) by omega)]
  show max (sumN i (mulT c d m)) _ = max (max (sumN i (mulT c d m)) (mulT c d m i)) _
  have h := sumN_low i (mulT c d m)
  by_cases e : i ≤ m ∧ m - i < d.length
  · rw [if_pos e]
    omega
  · rw [if_neg e]
    have : mulT c d m i = -1000000000000000 := by unfold mulT; rw [if_neg e]
    rw [this]; omega
theorem mulX_end (c d : List Int) (N : Nat) : mulX c d N c.length 0 = mulK c d c.length N := by
  unfold mulX mulK
  refine List.map_congr_left fun m _ => ?_
  rw [if_neg (by omega)]
  have h := sumN_low c.length (mulT c d m)
  omega
theorem mulX_get {c d : List Int} {N i k m : Nat} (h : m < N) : (mulX c d N i k).getD m 0 = max (sumN i (mulT c d m)) (if i ≤ m ∧ m - i < k then mulT c d m i else -1000000000000000) := by simp [mulX, h]
theorem mulX_set {c d : List Int} {N i k : Nat} (hk : k < d.length) (hN : i + k < N) : (mulX c d N i k).set (i + k) (max ((mulX c d N i k).getD (i + k) 0) (times (c.getD i 0) (d.getD k 0))) = mulX c d N i (k + 1) := by
  rw [mulX_get hN, if_neg (by omega)]
  unfold mulX
  rw [map_set]
  refine List.map_congr_left fun m _ => ?_
  by_cases e : m = i + k
  · subst e
    rw [if_pos rfl, if_pos (by omega)]
    have e1 : mulT c d (i + k) i = times (c.getD i 0) (d.getD k 0) := by
      unfold mulT
      rw [if_pos (by omega), show i + k - i = k by omega]
    have h := sumN_low i (mulT c d (i + k))
    rw [e1]; omega
  · rw [if_neg e]
    by_cases e2 : i ≤ m ∧ m - i < k
    · rw [if_pos e2, if_pos (by omega)]
    · rw [if_neg e2, if_neg (by omega)]
end M
namespace V
set_option maxRecDepth 100000
open Go.RowKit
set_option maxRecDepth 100000 in
set_option maxHeartbeats 4000000 in
theorem sMultiply_ok (a : Option Addr) (n cap : Nat) (l : List Int) (a' : Option Addr) (n' cap' : Nat) (l' : List Int) (w : World) (h : Ints .i64 w a n l) (h' : Ints .i64 w a' n' l') (hp : M.isPoly l = true) (hp' : M.isPoly l' = true) :
    Calls Try.prog 19 #[.slice a n cap, .slice a' n' cap'] w (VRes (M.mulPRes l l') w) := by
  have HI := Lib.hid h
  have HI' := Lib.hid h'
  have HP := Lib.hid hp
  have HP' := Lib.hid hp'
  obtain ⟨p1, p2, p3, -⟩ := M.isPoly_t hp
  obtain ⟨q1, q2, q3, -⟩ := M.isPoly_t hp'
  rw [h.1] at p1 p2
  rw [h'.1] at q1 q2
  have HL := Lib.hid h.1
  have HL' := Lib.hid h'.1
  have HW : Hid (∀ i, i < n → Wid (l.getD i 0)) := fun i hi => wid_val (p3 i (by rw [h.1]; exact hi))
  have HW' : Hid (∀ i, i < n' → Wid (l'.getD i 0)) := fun i hi => wid_val (q3 i (by rw [h'.1]; exact hi))
  obtain ⟨N, hN⟩ : ∃ N, n + n' = N + 1 := ⟨n + n' - 1, by omega⟩
  have HNn := Lib.hid hN
  have hN23 : N ≤ 23 := by omega
  have HFin : Hid (M.mulX l l' N n 0 = M.mulP l l') := by show _ = _; unfold M.mulP; rw [h.1, h'.1, show n + n' - 1 = N by omega, ← h.1]; exact M.mulX_end _ _ _
  have HNext : Hid (∀ i, M.mulX l l' N i n' = M.mulX l l' N (i + 1) 0) := fun i => by rw [← h'.1]; exact M.mulX_next _ _ _ _
  have HSet : Hid (∀ i k, k < n' → i + k < N → (M.mulX l l' N i k).set (i + k) (max ((M.mulX l l' N i k).getD (i + k) 0) (M.times (l.getD i 0) (l'.getD k 0))) = M.mulX l l' N i (k + 1)) := fun i k hk hik => M.mulX_set (by rw [h'.1]; exact hk) hik
  obtain ⟨vr, hvr⟩ : ∃ v, v = M.isPoly (M.mulP l l') := ⟨_, rfl⟩
  have HV := Lib.hid hvr.symm
  have HE : Hid (M.mulPRes l l' = if vr then (M.mulP l l', 0) else ([], 3)) := by show _ = _; unfold M.mulPRes; rw [hp, hp', hvr]; rfl
  have eN : (n : Int) + (n' : Int) - 1 = (N : Int) := by omega
  clear h h' hp hp' p3 q3 hvr hN
  go_enter Try.func19, Try.ntmps19
  go_wp2_with fail
  refine (sIsPolynomial_b _ _ _ l _ true HP.out HI.out).mono ?_
  rintro e w' ⟨rfl, rfl⟩
  go_wp2_with fail
  refine (sIsPolynomial_b _ _ _ l' _ true HP'.out HI'.out).mono ?_
  rintro e w' ⟨rfl, rfl⟩
  go_wp2_with fail
  refine (sBottom 1 N _ (by omega) (by omega)).mono ?_
  rintro e w2 ⟨am, cm, rfl, hom, hb2⟩
  obtain ⟨gm, ra, rc, rfl, hcm, hro⟩ := hom.row0 (by omega)
  have hrl : ((M.botM 1 N).getD 0 []) = (List.range N).map fun _ => -1000000000000000 := M.mk_row 1 N _ 0 (by omega)
  rw [hrl] at hcm hro
  have hrl2 : ((List.range N).map fun _ => (-1000000000000000 : Int)).length = N := by simp
  rw [hrl2] at hcm hro
  obtain ⟨gf, rfl, hgf1, hgf2⟩ := own_addr hro (by have := HNn.out; omega)
  rw [← M.mulX_zero l l' N] at hro
  have HF2 := Lib.hid hro
  have HB2 := Lib.hid hb2
  clear hom hb2 hro hrl hrl2 eN
  go_wp2
  clear hcm
  go_loopw [7] (fun iv wr => ∃ i : Nat, i ≤ n ∧ iv = .int .i64 i ∧ Hid (Own wr w.heap.size (.slice (some ⟨gf, 0, none⟩) N rc) (M.mulX l l' N i 0)) ∧ Hid (Below w.heap.size w wr)) (fun iv _ => n - (intOf iv).toNat)
  case atStart => exact ⟨0, Nat.zero_le _, rfl, HF2, HB2⟩
  case round =>
    obtain ⟨i, hi, rfl, HFi, HBi⟩ := hrel
    obtain ⟨wo, rfl⟩ : ∃ x, x = wr := ⟨_, rfl⟩
    clear HF2 HB2
    by_cases hil : i < n
    · have hii : (i : Int) < (n : Int) := by omega
      go_wp2
      go_loopw [8] (fun kv wr => ∃ k : Nat, k ≤ n' ∧ kv = .int .i64 k ∧ Hid (Own wr w.heap.size (.slice (some ⟨gf, 0, none⟩) N rc) (M.mulX l l' N i k)) ∧ Hid (Below w.heap.size w wr)) (fun kv _ => n' - (intOf kv).toNat)
      case atStart => exact ⟨0, Nat.zero_le _, rfl, HFi, HBi⟩
      case round =>
        obtain ⟨k, hk, rfl, HFk, HBk⟩ := hrel
        by_cases hkl : k < n'
        · have hki : (k : Int) < (n' : Int) := by omega
          obtain ⟨m, hm⟩ : ∃ m, m = i + k := ⟨_, rfl⟩
          have hmN : m < N := by have := HNn.out; omega
          have hmi : (m : Int) < (N : Int) := by omega
          have ewm : IntKind.i64.wrap ((i : Int) + (k : Int)) = (m : Int) := by rw [IntWalk.i64_in _ (by omega)]; omega
          obtain ⟨b1, o1, x, rfl, -, hx, hcx⟩ := (HI.out.below HBk.out).at i hil
          obtain ⟨b2, o2, y, rfl, -, hy, hcy⟩ := (HI'.out.below HBk.out).at k hkl
          have hWx : Wid x := by rw [hx]; exact HW.out i hil
          have hWy : Wid y := by rw [hy]; exact HW'.out k hkl
          obtain ⟨z, hz⟩ : ∃ z, z = M.times x y := ⟨_, rfl⟩
          have hC : ∀ w, Calls Try.prog 57 #[.int .i64 x, .int .i64 y] w fun e w' => e = .returned (.int .i64 z) ∧ w = w' := fun w => by rw [hz]; exact sTimesW _ _ w hWx hWy
          have HC := Lib.hid hC
          obtain ⟨u, hu⟩ : ∃ u, u = (M.mulX l l' N i k).getD m 0 := ⟨_, rfl⟩
          have hcu := HFk.out.cellAt m hmN
          rw [← hu] at hcu
          have hfu := HFk.out.frozenAt m
          have hN := Own.set HFk.out m (max u z)
          have hS := HSet.out i k hkl (by rw [← hm]; exact hmN)
          rw [← hm, ← hu, ← hx, ← hy, ← hz] at hS
          rw [hS, M.ifmax] at hN
          have HN := Lib.hid hN
          have hgw : w.heap.size ≤ gf := (own_lt HFk.out rfl).1
          have HBn := Lib.hid (HBk.out.drew.setCell (p := ⟨gf, m, none⟩) hgw (.int .i64 (if u < z then z else u)))
          have HMm := Lib.hid hm
          clear hx hy hWx hWy hz hC hu hN hS hm
          go_wp2
          go_still_tail 21, (by kernel_rfl)
          still_call (st_of (HC.out _))
          repeat still_step
          refine wpStill_nil ?_
          change wpList _ _ _ _ _ wr.drew
          go_wp2
          first
            | exact ⟨⟨k + 1, by omega, by go_num, HN.out.keep (fun _ _ _ => rfl), HBn⟩, by simp [intOf]; omega⟩
            | (go_roundw
               case rel => exact ⟨k + 1, by omega, by go_num, HN.out.keep (fun _ _ _ => rfl), HBn⟩
               case measure => simp [intOf]; omega)
        · obtain rfl : k = n' := by omega
          have HFn : Hid (Own wr w.heap.size (.slice (some ⟨gf, 0, none⟩) N rc) (M.mulX l l' N (i + 1) 0)) := by show Own _ _ _ _; rw [← HNext.out]; exact HFk.out
          go_wp2
          go_roundw
          case rel => exact ⟨i + 1, by omega, by go_num, HFn, HBk⟩
          case measure => simp [intOf]; omega
    · obtain rfl : i = n := by omega
      have HFf : Hid (Own wo w.heap.size (.slice (some ⟨gf, 0, none⟩) N rc) (M.mulP l l')) := by show Own _ _ _ _; rw [← HFin.out]; exact HFi.out
      cases vr with
      | false =>
        go_wp2_with fail
        refine (sIsPolynomial_b _ _ _ (M.mulP l l') _ false HV.out HFf.out.ints').mono ?_
        rintro e w' ⟨rfl, rfl⟩
        go_wp2
        go_ret2
        exact VRes.nil HE.out HBi.out
      | true =>
        go_wp2_with fail
        refine (sIsPolynomial_b _ _ _ (M.mulP l l') _ true HV.out HFf.out.ints').mono ?_
        rintro e w' ⟨rfl, rfl⟩
        go_wp2
        go_ret2
        rw [HE.out]
        exact ⟨_, _, _, rfl, HFf.out, HBi.out⟩
set_option maxRecDepth 100000 in
set_option maxHeartbeats 400000 in
theorem multiplyPolynomials (a : Option Addr) (n cap : Nat) (l : List Int) (a' : Option Addr) (n' cap' : Nat) (l' : List Int) (w : World) (h : Ints .i64 w a n l) (h' : Ints .i64 w a' n' l') :
    Calls Try.prog 18 #[.slice a n cap, .slice a' n' cap'] w (VRes (M.mulPRes l l') w) := by
  have HI := Lib.hid h
  have HI' := Lib.hid h'
  obtain ⟨v1, hv1⟩ : ∃ v, v = M.isPoly l := ⟨_, rfl⟩
  have HV1 := Lib.hid hv1.symm
  cases v1 with
  | false =>
    have HE : Hid (M.mulPRes l l' = ([], 1)) := by show _ = _; unfold M.mulPRes; rw [← hv1]; rfl
    clear h h' hv1
    go_enter Try.func18, Try.ntmps18
    go_wp2_with fail
    refine (isPolynomial_b _ _ _ l _ false HV1.out HI.out).mono ?_
    rintro e w' ⟨rfl, rfl⟩
    go_wp2
    go_ret2
    exact VRes.nil HE.out (Below.refl _ _)
  | true =>
    obtain ⟨v2, hv2⟩ : ∃ v, v = M.isPoly l' := ⟨_, rfl⟩
    have HV2 := Lib.hid hv2.symm
    cases v2 with
    | false =>
      have HE : Hid (M.mulPRes l l' = ([], 1)) := by show _ = _; unfold M.mulPRes; rw [← hv1, ← hv2]; rfl
      clear h h' hv1 hv2
      go_enter Try.func18, Try.ntmps18
      go_wp2_with fail
      refine (isPolynomial_b _ _ _ l _ true HV1.out HI.out).mono ?_
      rintro e w' ⟨rfl, rfl⟩
      go_wp2_with fail
      refine (isPolynomial_b _ _ _ l' _ false HV2.out HI'.out).mono ?_
      rintro e w' ⟨rfl, rfl⟩
      go_wp2
      go_ret2
      exact VRes.nil HE.out (Below.refl _ _)
    | true => exact multiply_ok a n cap l a' n' cap' l' w h h' hv1.symm hv2.symm
set_option maxRecDepth 100000 in
set_option maxHeartbeats 400000 in
theorem sMultiplyPolynomials (a : Option Addr) (n cap : Nat) (l : List Int) (a' : Option Addr) (n' cap' : Nat) (l' : List Int) (w : World) (h : Ints .i64 w a n l) (h' : Ints .i64 w a' n' l') :
    Calls Try.prog 19 #[.slice a n cap, .slice a' n' cap'] w (VRes (M.mulPRes l l') w) := by
  have HI := Lib.hid h
  have HI' := Lib.hid h'
  obtain ⟨v1, hv1⟩ : ∃ v, v = M.isPoly l := ⟨_, rfl⟩
  have HV1 := Lib.hid hv1.symm
  cases v1 with
  | false =>
    have HE : Hid (M.mulPRes l l' = ([], 1)) := by show _ = _; unfold M.mulPRes; rw [← hv1]; rfl
    clear h h' hv1
    go_enter Try.func19, Try.ntmps19
    go_wp2_with fail
    refine (sIsPolynomial_b _ _ _ l _ false HV1.out HI.out).mono ?_
    rintro e w' ⟨rfl, rfl⟩
    go_wp2
    go_ret2
    exact VRes.nil HE.out (Below.refl _ _)
  | true =>
    obtain ⟨v2, hv2⟩ : ∃ v, v = M.isPoly l' := ⟨_, rfl⟩
    have HV2 := Lib.hid hv2.symm
    cases v2 with
    | false =>
      have HE : Hid (M.mulPRes l l' = ([], 1)) := by show _ = _; unfold M.mulPRes; rw [← hv1, ← hv2]; rfl
      clear h h' hv1 hv2
      go_enter Try.func19, Try.ntmps19
      go_wp2_with fail
      refine (sIsPolynomial_b _ _ _ l _ true HV1.out HI.out).mono ?_
      rintro e w' ⟨rfl, rfl⟩
      go_wp2_with fail
      refine (sIsPolynomial_b _ _ _ l' _ false HV2.out HI'.out).mono ?_
      rintro e w' ⟨rfl, rfl⟩
      go_wp2
      go_ret2
      exact VRes.nil HE.out (Below.refl _ _)
    | true => exact sMultiply_ok a n cap l a' n' cap' l' w h h' hv1.symm hv2.symm
end V
end Go.Proofs.Ytlljnfljcdljaaa
