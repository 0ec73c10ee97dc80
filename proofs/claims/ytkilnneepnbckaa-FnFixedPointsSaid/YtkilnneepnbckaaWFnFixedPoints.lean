/- The walk through the law: it returns true and writes nothing that was there. For every code: a fixed point satisfies its equation and is at least b, and FixedPoint answers as its model. -/
import Derived.Test.YtkilnneepnbckaaRows
import Derived.Test.YtkilnneepnbckaaQd1
import Derived.Test.YtkilnneepnbckaaQd2
import Derived.Test.YtkilnneepnbckaaQd3
import Derived.Test.YtkilnneepnbckaaQd8
import Derived.Test.YtkilnneepnbckaaQd5
import Derived.Test.YtkilnneepnbckaaQd4
import Derived.Test.YtkilnneepnbckaaQd9
import Derived.Test.YtkilnneepnbckaaQd18
import Derived.Test.YtkilnneepnbckaaQd16
import Derived.Test.YtkilnneepnbckaaQd13
import Derived.WalkKit
import Derived.ProofKit
import Derived.OpenShut
import Derived.ShutString
import Derived.ChangeOld
import Derived.Below
import Derived.Lib.SmallJoins
import Derived.Lib.Hide
import Derived.WalkSmall
import Derived.Deep.Draws
import Derived.Deep.QuietTactic
import Derived.BigQuiet
import Derived.Deep.OwnRows
import Derived.Deep.RegionWith
import Derived.Deep.RegionHeld3
set_option linter.unusedSimpArgs false
set_option linter.unusedVariables false
set_option linter.unusedSectionVars false
namespace Go.Proofs.Ytkilnneepnbckaa.fnFixedPoints
open Go.ChangeShapes Go.WideShapes Go.ChangeAt Go.RowKit
open Go.ChangeMaps (open_string shut_string)
set_option linter.unusedVariables false

theorem fix_t {R : List (List Int)} {l : List Int} (h : (M.fixRes R l).2 = 0) : M.sqB R = true ∧ M.isVec l = true ∧ R.length = l.length ∧ M.noPos (M.ent R) R.length = true ∧ M.isVec (M.applyM (M.starM R R.length) l) = true ∧ M.fixRes R l = (M.applyM (M.starM R R.length) l, 0) := by
  unfold M.fixRes at h ⊢
  by_cases h1 : (M.sqB R && M.isVec l) = true
  · rw [if_pos h1] at h ⊢
    rw [Bool.and_eq_true] at h1
    by_cases h2 : R.length = l.length
    · rw [if_pos h2] at h ⊢
      by_cases h3 : M.noPos (M.ent R) R.length = true
      · rw [if_pos h3] at h ⊢
        by_cases h4 : M.isVec (M.applyM (M.starM R R.length) l) = true
        · rw [if_pos h4]; exact ⟨h1.1, h1.2, h2, h3, h4, rfl⟩
        · rw [if_neg h4] at h; simp at h
      · rw [if_neg h3] at h; simp at h
    · rw [if_neg h2] at h; simp at h
  · rw [if_neg h1] at h; simp at h
theorem sm8 {L v : Int} (h : M.Sm L v) (hL : L ≤ 100000000) : M.Sm 100000000 v := M.sm_up h hL
/-- The star times a vector satisfies its equation. -/
theorem fix_eq {R : List (List Int)} {l : List Int} {n : Nat} (hn : n ≤ 10) (hA0 : ∀ i j, i < n → j < n → M.Sm 1000000 (M.ent R i j)) (hl : ∀ k, k < n → M.Sm 1000000 (l.getD k 0)) (hp : M.noPos (M.ent R) n = true) (hll : l.length = n) {i : Nat} (hi : i < n) :
    (M.applyM (M.starM R n) l).getD i 0 = max (M.sumN n fun t => M.times (M.ent R i t) ((M.applyM (M.starM R n) l).getD t 0)) (l.getD i 0) := by
  have hA : ∀ i j, i < n → j < n → M.Sm 1000001000000 (M.ent R i j) := fun i j hi hj => M.sm_wide (hA0 i j hi hj)
  have hcb : ∀ t i j, i < n → j < n → M.Sm (1000000 * ((t : Nat) : Int)) (M.cbm (M.ent R) n t i j) := fun t => by
    induction t with
    | zero => intro i j _ _; exact M.sm_unit (by omega) i j
    | succ t ih =>
      intro i j hi hj
      exact M.smm (M.sm_unit (by omega) i j) (M.sms fun u hu => M.sm_up (M.smt (hA0 i u hi hu) (ih u j hu hj)) (by omega))
  have hsl : (M.starM R n).length = n := M.mk_length _ _ _
  have hbm : ∀ u j, u < n → j < n → M.ent (M.starM R n) u j = M.cbm (M.ent R) n n u j := fun u j hu hj => by
    unfold M.starM
    rw [M.ent_mk _ _ _ _ _ hu hj]
    unfold M.starF
    exact (M.clo_star hn hA hp hu hj).symm
  have hx : ∀ u, u < n → (M.applyM (M.starM R n) l).getD u 0 = M.sumN n fun j => M.times (M.cbm (M.ent R) n n u j) (l.getD j 0) := fun u hu => by
    rw [M.apply_get (by rw [hsl]; exact hu), hll]
    exact M.sumN_congr fun j hj => by rw [hbm u j hu hj]
  have sb : ∀ u j, u < n → j < n → M.Sm 100000000 (M.cbm (M.ent R) n n u j) := fun u j hu hj => sm8 (hcb n u j hu hj) (by omega)
  have sl : ∀ j, j < n → M.Sm 100000000 (l.getD j 0) := fun j hj => sm8 (hl j hj) (by omega)
  have sa : ∀ u j, u < n → j < n → M.Sm 100000000 (M.ent R u j) := fun u j hu hj => sm8 (hA0 u j hu hj) (by omega)
  have sbl : ∀ u j, u < n → j < n → M.Sm 100000000 (M.times (M.cbm (M.ent R) n n u j) (l.getD j 0)) := fun u j hu hj => sm8 (M.smt (hcb n u j hu hj) (hl j hj)) (by omega)
  have sab : ∀ t j, t < n → j < n → M.Sm 100000000 (M.times (M.ent R i t) (M.cbm (M.ent R) n n t j)) := fun t j ht hj => sm8 (M.smt (hA0 i t hi ht) (hcb n t j ht hj)) (by omega)
  have e1 : (M.sumN n fun t => M.times (M.ent R i t) ((M.applyM (M.starM R n) l).getD t 0)) = M.sumN n fun j => M.times (M.sumN n fun t => M.times (M.ent R i t) (M.cbm (M.ent R) n n t j)) (l.getD j 0) := by
    rw [M.sumN_congr (g := fun t => M.sumN n fun j => M.times (M.ent R i t) (M.times (M.cbm (M.ent R) n n t j) (l.getD j 0))) (fun t ht => by
      rw [hx t ht, M.times_sum (sa i t hi ht) (fun j hj => sbl t j ht hj)]), M.sumN_swap]
    refine M.sumN_congr fun j hj => ?_
    rw [M.sum_times (sl j hj) (fun t ht => sab t j ht hj)]
    exact M.sumN_congr fun t ht => (M.times_assoc (sa i t hi ht) (sb t j ht hj) (sl j hj)).symm
  have e2 : ∀ j, j < n → M.cbm (M.ent R) n n i j = max (M.unit i j) (M.sumN n fun t => M.times (M.ent R i t) (M.cbm (M.ent R) n n t j)) := fun j hj => (M.clo_same hn hA hp hi hj).symm
  have e3 : (M.sumN n fun j => M.times (M.unit i j) (l.getD j 0)) = l.getD i 0 := by
    have ej : M.times (M.unit i i) (l.getD i 0) = l.getD i 0 := by unfold M.unit; rw [if_pos rfl, M.zero_times]
    rw [M.sumN_one_at hi (fun t ht hne => by unfold M.unit; rw [if_neg (fun e => hne e.symm), M.bot_times]) (by rw [ej]; exact M.sm_ge (hl i hi) (by omega)), ej]
  rw [e1, hx i hi, M.sumN_congr (g := fun j => max (M.times (M.unit i j) (l.getD j 0)) (M.times (M.sumN n fun t => M.times (M.ent R i t) (M.cbm (M.ent R) n n t j)) (l.getD j 0))) (fun j hj => by
    rw [e2 j hj, M.max_times (sl j hj) (M.sm_unit (by omega) i j) (M.sms fun t ht => sab t j ht hj)]), M.sumN_max, e3]
  omega

set_option maxRecDepth 100000 in
set_option maxHeartbeats 4000000 in
theorem walk (a0 : Option Addr) (len0 cap0 : Nat) (z0 : List Int) (w : World) (w0 : V.IsRow .u8 w a0 len0 cap0 z0) :
    Calls Try.prog 6 #[.slice a0 len0 cap0] w fun e w' => e = .returned (.bool true) ∧ Below w.heap.size w w' := by
  have hB := w0.bytes
  have hm := hB.1
  by_cases hbig : 4096 < len0
  · have hd : decide (4096 < len0) = true := by simpa using hbig
    clear hB w0
    go_enter Try.func6, Try.ntmps6
    go_wp2_with (first | (go_at_call 15; refine (V.big _ _ _ _ hm).mono ?_; rintro e w' ⟨rfl, rfl⟩))
    go_ret
    exact ⟨rfl, Below.refl _ _⟩
  · have hd : decide (4096 < len0) = false := by simpa using hbig
    clear w0
    have HB := Lib.hid hB
    clear hB
    go_enter Try.func6, Try.ntmps6
    go_wp2_with (go_at_call 15; refine (V.big _ _ _ _ hm).mono ?_; rintro e w' ⟨rfl, rfl⟩)
    refine (V.drawFixedPoint _ _ _ _ HB.out).mono ?_
    rintro e w1 ⟨a, n, cap, R, xa, N, xc, l, rfl, hA, hI, hb⟩
    have HA := Lib.hid hA
    have HI := Lib.hid hI
    have HB1 := Lib.hid hb
    clear hb hA hI
    obtain ⟨rv, hrv⟩ : ∃ rv, rv = M.fixRes R l := ⟨_, rfl⟩
    have HRV := Lib.hid hrv
    clear hrv
    go_wp2_with fail
    refine (V.fixedPoint _ _ _ R _ _ _ l _ HA.out HI.out).mono ?_
    rintro e w2 ⟨ya, yn, yc, rfl, ho, hb⟩
    rw [← HRV.out] at ho ⊢
    have HY2 := Lib.hid ho.ints'
    have HA2 := Lib.hid (HA.out.below hb)
    have HI2 := Lib.hid (HI.out.below hb)
    have HB2 := Lib.hid (V.bnext HB1.out hb)
    clear ho hb HA HI
    go_wp2_with fail
    refine (V.sFixedPoint _ _ _ R _ _ _ l _ HA2.out HI2.out).mono ?_
    rintro e w3 ⟨sa, sn, sc, rfl, ho, hb⟩
    rw [← HRV.out] at ho ⊢
    have HS3 := Lib.hid ho.ints'
    have HY3 := Lib.hid (HY2.out.below hb)
    have HA3 := Lib.hid (HA2.out.below hb)
    have HI3 := Lib.hid (HI2.out.below hb)
    have HB3 := Lib.hid (V.bnext HB2.out hb)
    clear ho hb HA2 HI2 HY2
    go_wp2_with fail
    refine (V.likeV _ _ _ rv.1 _ _ _ _ HY3.out HS3.out).mono ?_
    rintro e w4 ⟨rfl, hb⟩
    have HY4 := Lib.hid (HY3.out.below hb)
    have HA4 := Lib.hid (HA3.out.below hb)
    have HI4 := Lib.hid (HI3.out.below hb)
    have HB4 := Lib.hid (V.bnext HB3.out hb)
    clear hb HA3 HI3 HY3 HS3
    by_cases hc : rv.2 = 0
    · have hft := fix_t (by rw [← HRV.out]; exact hc)
      rw [← HRV.out] at hft
      obtain ⟨f1, f2, f3, f4, f5, f6⟩ := hft
      obtain rfl := f6
      have hRl := HA4.out.1
      have hll := HI4.out.1
      rw [hRl] at f3 f4 f5 HY4
      have HQ := Lib.hid (V.sq_of HA4.out f1)
      have hx := f5
      obtain ⟨rv2, hrv2⟩ : ∃ rv2, rv2 = M.vecRes R (M.applyM (M.starM R n) l) := ⟨_, rfl⟩
      have HV2 := Lib.hid hrv2
      have hyn : yn = n := by
        have := HY4.out.1
        rw [M.apply_len'] at this
        simp [M.starM] at this
        omega
      subst hyn
      have hNn : N = yn := by omega
      subst hNn
      have hvr : rv2 = ([], 3) ∨ (M.isVec (M.applyM R (M.applyM (M.starM R N) l)) = true ∧ rv2 = (M.applyM R (M.applyM (M.starM R N) l), 0)) := by
        rw [hrv2]
        exact M.vecRes_y (M.sqB_t f1).1 f5 (by rw [← (M.sqB_t f1).2, hRl, M.apply_len']; simp [M.starM])
      have HEQ : Hid (∀ i, i < N → (M.applyM (M.starM R N) l).getD i 0 = max (M.sumN N fun t => M.times (M.ent R i t) ((M.applyM (M.starM R N) l).getD t 0)) (l.getD i 0)) := fun i hi =>
        fix_eq HQ.out.2.2.2.2 (fun i j hi hj => by
          have h2 := M.sqB_t f1
          have m6 := (M.isMat_t h2.1).2.2.2.2.2
          exact M.sm_val (m6 i (by rw [HA4.out.1]; exact hi) j (by rw [← h2.2, HA4.out.1]; exact hj))) (fun k hk => M.sm_val ((M.isVec_t f2).2.2 k (by omega))) f4 hll hi
      have HXL : Hid ((M.applyM (M.starM R N) l).length = N) := by show _ = _; rw [M.apply_len']; simp [M.starM]
      clear hrv2 f1 f2 f3 f4 f5 hc hx
      go_wp2_with fail
      refine (V.timesVector _ _ _ R _ _ _ (M.applyM (M.starM R N) l) _ HA4.out HY4.out).mono ?_
      rintro e w5 ⟨za, zn, zc, rfl, ho, hb⟩
      rw [← HV2.out] at ho ⊢
      have HZ5 := Lib.hid ho.ints'
      have HY5 := Lib.hid (HY4.out.below hb)
      have HI5 := Lib.hid (HI4.out.below hb)
      have HB5 := Lib.hid (V.bnext HB4.out hb)
      clear ho hb HA4 HI4 HY4
      rcases hvr with rfl | ⟨hv, rfl⟩
      · go_wp2
        go_ret
        exact ⟨rfl, HB5.out⟩
      · have hzn : zn = N := by
          have := HZ5.out.1
          rw [M.apply_len', hRl] at this
          omega
        subst hzn
        have HRL := Lib.hid hRl
        have hz10 : zn ≤ 10 := HQ.out.2.2.2.2
        clear hv hRl hll
        go_wp2
        go_loopw [11] (fun i wr => ∃ k : Nat, k ≤ zn ∧ i = .int .i64 k ∧ ∃ q, wr = w5.drewN q) (fun i _ => zn - (intOf i).toNat)
        case atStart => exact ⟨0, Nat.zero_le _, rfl, 0, rfl⟩
        case round =>
          obtain ⟨k, hk, rfl, q2, rfl⟩ := hrel
          by_cases hlt : k < zn
          · have hki : (k : Int) < (zn : Int) := by omega
            obtain ⟨b1, o1, x, rfl, -, hx, c1⟩ := HY5.out.at k hlt
            obtain ⟨b2, o2, y, rfl, -, hy, c2⟩ := HZ5.out.at k hlt
            obtain ⟨b3, o3, z, rfl, -, hz, c3⟩ := HI5.out.at k hlt
            have hxyz : x = if y < z then z else y := by
              have e := M.apply_get (a := R) (x := M.applyM (M.starM R zn) l) (i := k) (by rw [HRL.out]; exact hlt)
              rw [← M.ifmax, hx, hy, hz, e, HXL.out]
              exact HEQ.out k hlt
            obtain ⟨m, hmx⟩ : ∃ m, m = (if y < z then z else y) := ⟨_, rfl⟩
            rw [← hmx] at hxyz
            clear hx hy hz
            subst hxyz
            by_cases hyz : y < z
            · obtain rfl : x = z := by rw [hmx, if_pos hyz]
              clear hmx
              go_wp2
              go_quiet (fail)
              go_wp2
              go_roundw
              case rel => exact ⟨k + 1, by omega, by go_num, _, rfl⟩
              case measure => simp [intOf]; omega
            · obtain rfl : x = y := by rw [hmx, if_neg hyz]
              clear hmx
              go_wp2
              go_quiet (fail)
              go_wp2
              go_roundw
              case rel => exact ⟨k + 1, by omega, by go_num, _, rfl⟩
              case measure => simp [intOf]; omega
          · obtain rfl : k = zn := by omega
            go_wp2
            go_ret
            exact ⟨rfl, below_drewN HB5.out _⟩
    · have hc2 : (rv.2 == 0) = false := by simpa using hc
      clear hc
      go_wp2
      go_ret
      exact ⟨rfl, HB4.out⟩
end Go.Proofs.Ytkilnneepnbckaa.fnFixedPoints
