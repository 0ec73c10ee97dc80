/- Texts laid together: Isr, Ism. -/
import Derived.Test.YtmcihaihbnnblabQb16
import Derived.Test.YtmcihaihbnnblabQb7
set_option linter.unusedSimpArgs false
set_option linter.unusedVariables false
set_option linter.unusedSectionVars false
namespace Go.Proofs.Ytmcihaihbnnblab
namespace M
def okAll (R F : List (List Int)) (q : Nat) : Bool := (List.range (q + 1)).all (okQ R F)
theorem okAll_iff {R F : List (List Int)} {q : Nat} : okAll R F q = true ↔ okTo R F q := by
  unfold okAll okTo
  simp only [List.all_eq_true, List.mem_range]
  exact ⟨fun h j hj => h j (by omega), fun h j hj => h j (by omega)⟩
def isrRes (R : List (List Int)) (k c g : Int) : Bool × Int :=
  if sqB R then (if 0 ≤ k ∧ k ≤ 100 ∧ 1 ≤ c ∧ c ≤ 100 - k ∧ isFin g = true then (if okAll R (unitM R.length) (k + c).toNat then (decide (shvL (sq7 R (unitM R.length) k.toNat).flatten g = (sq7 R (unitM R.length) (k + c).toNat).flatten), 0) else (false, 3)) else (false, 2)) else (false, 1)
end M
namespace V
set_option maxRecDepth 100000
open Go.RowKit
def BPost (r : Bool × Int) (w : World) (e : Ending) (w' : World) : Prop :=
  e = .returned (.tuple #[.bool r.1, .int .i64 r.2]) ∧ Below w.heap.size w w'
set_option maxRecDepth 100000 in
set_option maxHeartbeats 1000000 in
theorem isRepeat (a : Option Addr) (n cap : Nat) (R : List (List Int)) (k c g : Int) (w : World) (h : Mat w a n R) : Calls Try.prog 21 #[.slice a n cap, .int .i64 k, .int .i64 c, .int .i64 g] w (BPost (M.isrRes R k c g) w) := by
  have HA := Lib.hid h
  obtain ⟨v2, hv2⟩ : ∃ b, b = M.isFin g := ⟨_, rfl⟩
  have HC : Hid (∀ w, Calls Try.prog 55 #[.int .i64 g] w fun e w' => e = .returned (.bool v2) ∧ w = w') := fun w => by rw [hv2]; exact isFinite g w
  by_cases hs : M.sqB R = true
  · have HS := Lib.hid hs
    have hRn : R.length = n := h.1
    obtain ⟨-, n1, n2, -⟩ := sq_parts7 h hs
    by_cases hc : 0 ≤ k ∧ k ≤ 100 ∧ 1 ≤ c ∧ c ≤ 100 - k ∧ v2 = true
    · obtain ⟨k1, k2, c1, c2, hv⟩ := hc
      subst hv
      obtain ⟨kn, rfl⟩ := Int.eq_ofNat_of_zero_le k1
      obtain ⟨cn, rfl⟩ := Int.eq_ofNat_of_zero_le (show 0 ≤ c by omega)
      obtain ⟨q, hq⟩ : ∃ q, q = kn + cn := ⟨_, rfl⟩
      have hqi : (kn : Int) + (cn : Int) = (q : Int) := by omega
      have HE : Hid (M.isrRes R kn cn g = if M.okAll R (M.unitM n) q then (decide (M.shvL (M.sq7 R (M.unitM n) kn).flatten g = (M.sq7 R (M.unitM n) q).flatten), 0) else (false, 3)) := by
        show _ = _
        unfold M.isrRes
        rw [if_pos hs, if_pos ⟨k1, k2, c1, c2, hv2.symm⟩, hRn, hqi]
        rfl
      have HFg : Hid (M.isFin g = true) := Lib.hid hv2.symm
      have hq1 : (q : Int) ≤ 100 := by omega
      have HQ := Lib.hid hqi
      clear hqi
      have kq1 : ¬ ((kn : Int) < 0) := by omega
      have kq2 : ¬ (100 < (kn : Int)) := by omega
      have kq3 : ¬ ((cn : Int) < 1) := by omega
      have kq4 : ¬ (100 - (kn : Int) < (cn : Int)) := by omega
      clear h hs hRn hv2
      go_enter Try.func21, Try.ntmps21
      go_wp2_with (first | (go_at_call 44; refine (isSquare_b _ _ _ R _ true HS.out HA.out).mono ?_; rintro e w' ⟨rfl, rfl⟩) | (go_at_call 55; refine (HC.out _).mono ?_; rintro e w' ⟨rfl, rfl⟩))
      refine (powersOf _ _ _ R _ HA.out n1 n2).mono ?_
      rintro e w2 ⟨p, rfl, hs⟩
      have HS3 := Lib.hid hs
      clear hs
      go_wp2_with fail
      rw [HQ.out]
      refine (reach w a n cap n R (M.unitM n) p 0 q none _ (serB_unit HA.out HS.out) HS3.out (okTo_unit n1 n2) (by omega)).mono ?_
      rintro e2 w2 (⟨k3, hk3, hk4, -, hok3, hi3, rfl⟩ | ⟨j, hj1, hj2, -, hbad, rfl, hb2, -⟩)
      · have HEq : Hid (M.isrRes R kn cn g = (decide (M.shvL (M.sq7 R (M.unitM n) kn).flatten g = (M.sq7 R (M.unitM n) q).flatten), 0)) := by
          have hall : M.okAll R (M.unitM n) q = true := M.okAll_iff.2 fun j hj => hok3 j (by omega)
          exact Lib.hid (HE.out.trans (if_pos hall))
        obtain ⟨hb3, hp, b1, cc1, g2, cc2, hrow, -, -, hown, -⟩ := id hi3
        have HOw := Lib.hid hown
        have HB3 := Lib.hid hb3
        have s2 : w2.cell? ⟨p, 2, none⟩ = some (.slice (some ⟨g2, 0, none⟩) (k3 + 1) cc2) := World.rowIs.cell hrow (i := 2) (by omega)
        have hke : (kn : Int) < (k3 : Int) + 1 := by omega
        have hee : (q : Int) < (k3 : Int) + 1 := by omega
        have hok1 := hok3 kn (by omega)
        have hok2 := hok3 q hk3
        clear hb3 hrow hown hi3
        go_wp2
        go_quiet (fail)
        go_wp2
        have HOw' : Hid ((w2.drewN nq).ownsRow w.heap.size 85 101 (.slice (some ⟨g2, 0, none⟩) (k3 + 1) cc2) (k3 + 1) (elvs R (M.unitM n) (k3 + 1))) := Lib.hid (ownE_keep HOw.out fun _ _ => rfl)
        have HB4 : Hid (Below w.heap.size w (w2.drewN nq)) := Lib.hid (below_drewN HB3.out nq)
        clear HOw HB3 s2
        generalize w2.drewN nq = w3 at *
        have hx1 := M.isVal_t (M.maxL_vals (M.flat_vals hok1))
        have hx2 := M.isVal_t (M.maxL_vals (M.flat_vals hok2))
        have hL1 := fun m => els_loadV (w := w3.drewN m) (i := kn) (ownE_keep HOw'.out fun _ _ => rfl) (show kn < k3 + 1 by omega)
        have hL2 := fun m => els_loadV (w := w3.drewN m) (i := q) (ownE_keep HOw'.out fun _ _ => rfl) (show q < k3 + 1 by omega)
        have tk : w3.cell? ⟨g2, kn * 101 + 100, none⟩ = some (.int .i64 (M.maxL (M.sq7 R (M.unitM n) kn).flatten)) := els_top HOw'.out (by omega)
        have te : w3.cell? ⟨g2, q * 101 + 100, none⟩ = some (.int .i64 (M.maxL (M.sq7 R (M.unitM n) q).flatten)) := els_top HOw'.out (by omega)
        have heq := fun w => pat_equal w _ _ (M.patC_len _ _) (M.patC_len _ _) (pat_wf hok1) (pat_wf hok2)
        have hSB := serB_unit HA.out HS.out
        have hgb : -10000000 ≤ g ∧ g ≤ 10000000 := by
          have := HFg.out
          unfold M.isFin at this
          simp at this
          omega
        have hfl : (M.sq7 R (M.unitM n) kn).flatten.length = (M.sq7 R (M.unitM n) q).flatten.length := by rw [flat_rect (hSB.sq hok1).1, flat_rect (hSB.sq hok2).1]
        have hsi := M.shv_iff hfl (M.flat_vals hok1) (M.flat_vals hok2) hgb.1 hgb.2
        have hrp := rep_pat hSB hok1 hok2
        obtain ⟨bq, hbq⟩ : ∃ b, b = M.repQ R (M.unitM n) kn q := ⟨_, rfl⟩
        simp only [hrp, ← hbq] at heq
        have HAns : Hid (decide (M.shvL (M.sq7 R (M.unitM n) kn).flatten g = (M.sq7 R (M.unitM n) q).flatten) = (bq && decide (M.times (M.maxL (M.sq7 R (M.unitM n) kn).flatten) g = M.maxL (M.sq7 R (M.unitM n) q).flatten))) := by
          show _ = _
          rw [hbq]
          unfold M.repQ
          by_cases z : M.shvL (M.sq7 R (M.unitM n) kn).flatten g = (M.sq7 R (M.unitM n) q).flatten
          · obtain ⟨z1, z2⟩ := hsi.1 z
            simp [z, z1, z2]
          · have : ¬ (M.nrm (M.sq7 R (M.unitM n) kn).flatten = M.nrm (M.sq7 R (M.unitM n) q).flatten ∧ M.times (M.maxL (M.sq7 R (M.unitM n) kn).flatten) g = M.maxL (M.sq7 R (M.unitM n) q).flatten) := fun e => z (hsi.2 e)
            by_cases z1 : M.nrm (M.sq7 R (M.unitM n) kn).flatten = M.nrm (M.sq7 R (M.unitM n) q).flatten
            · have z2 : ¬ M.times (M.maxL (M.sq7 R (M.unitM n) kn).flatten) g = M.maxL (M.sq7 R (M.unitM n) q).flatten := fun e => this ⟨z1, e⟩
              simp [z, z2]
            · simp [z, z1]
        clear hrp hsi hfl hSB hbq hok1 hok2
        generalize M.patC (M.sq7 R (M.unitM n) kn) (M.maxL (M.sq7 R (M.unitM n) kn).flatten) = P1 at *
        generalize M.patC (M.sq7 R (M.unitM n) q) (M.maxL (M.sq7 R (M.unitM n) q).flatten) = P2 at *
        generalize M.maxL (M.sq7 R (M.unitM n) kn).flatten = x1 at *
        generalize M.maxL (M.sq7 R (M.unitM n) q).flatten = x2 at *
        have te2 : w3.cell? ⟨g2, (kn + cn) * 101 + 100, none⟩ = some (.int .i64 x2) := by rw [← hq]; exact te
        have htm : ∀ m, Calls Try.prog 57 #[.int .i64 x1, .int .i64 g] (w3.drewN m) fun e w' => e = .returned (.int .i64 (M.times x1 g)) ∧ w' = w3.drewN m := fun m => (timesW x1 g _ ⟨by omega, by omega⟩ ⟨by omega, by omega⟩).mono fun e w' h => ⟨h.1, h.2.symm⟩
        generalize M.times x1 g = tg at *
        refine wp_region_quiet_lit (by kernel_rfl) (by kernel_rfl) ?_
        repeat (go_big_quiet_step (fail))
        refine BigFrame.wpQuiet_want rfl (fun K hK => quiet_loadV 83 (.tmp 61) g2 (kn * 101) _ rfl (by go_simp) (fun w hw => by obtain ⟨m, rfl⟩ := hw; exact hL1 m) (hK _ ?_))
        clear hK K
        simp only [Act.put, List.setIfInBounds_toArray, List.set_cons_succ, List.set_cons_zero]
        repeat (go_big_quiet_step (fail))
        refine BigFrame.wpQuiet_want rfl (fun K hK => quiet_loadV 83 (.tmp 65) g2 (q * 101) _ rfl (by go_simp) (fun w hw => by obtain ⟨m, rfl⟩ := hw; exact hL2 m) (hK _ ?_))
        clear hK K
        simp only [Act.put, List.setIfInBounds_toArray, List.set_cons_succ, List.set_cons_zero]
        refine BigFrame.wpQuiet_want rfl (fun K hK => quiet_eqlV 83 83 (.tmp 62) (.tmp 66) _ _ bq rfl (by go_simp) (by go_simp) (by kernel_rfl) (fun w hw => heq w) (hK _ ?_))
        clear hK K
        simp only [Act.put, List.setIfInBounds_toArray, List.set_cons_succ, List.set_cons_zero]
        cases bq with
        | false =>
          repeat (go_big_quiet_step (fail))
          refine wpQuiet_nil ?_
          rintro _ ⟨m, rfl⟩
          go_wp2
          go_ret2
          exact ⟨by rw [HEq.out, HAns.out]; rfl, below_drewN HB4.out m⟩
        | true =>
          repeat (go_big_quiet_step (exact Calls.quiet_of_same (htm _)))
          refine wpQuiet_nil ?_
          rintro _ ⟨m, rfl⟩
          go_wp2
          go_ret2
          exact ⟨by rw [HEq.out, HAns.out]; simp; by_cases z : tg = x2 <;> simp [z], below_drewN HB4.out m⟩
      · have HEq : Hid (M.isrRes R kn cn g = (false, 3)) := by
          have hall : ¬ M.okAll R (M.unitM n) q = true := fun e => by
            have := M.okAll_iff.1 e j hj2
            rw [hbad] at this
            cases this
          exact Lib.hid (HE.out.trans (if_neg hall))
        have HB2 := Lib.hid hb2
        clear hb2 hbad
        go_wp2
        go_ret2
        exact ⟨by rw [HEq.out]; rfl, HB2.out⟩
    · have HE : Hid (M.isrRes R k c g = (false, 2)) := by
        show _ = _
        unfold M.isrRes
        rw [if_pos hs, if_neg (by rw [← hv2]; exact hc)]
      have hh : k < 0 ∨ 100 < k ∨ c < 1 ∨ 100 - k < c ∨ v2 = false := by
        cases v2 with
        | false => exact .inr (.inr (.inr (.inr rfl)))
        | true =>
          have : ¬ (0 ≤ k ∧ k ≤ 100 ∧ 1 ≤ c ∧ c ≤ 100 - k) := fun e => hc ⟨e.1, e.2.1, e.2.2.1, e.2.2.2, rfl⟩
          omega
      clear h hs hRn hv2 hc
      by_cases q1 : k < 0
      · clear hh
        go_enter Try.func21, Try.ntmps21
        go_wp2_with (first | (go_at_call 44; refine (isSquare_b _ _ _ R _ true HS.out HA.out).mono ?_; rintro e w' ⟨rfl, rfl⟩))
        go_ret2
        exact ⟨by rw [HE.out]; rfl, Below.refl _ _⟩
      · by_cases q2 : 100 < k
        · clear hh
          go_enter Try.func21, Try.ntmps21
          go_wp2_with (first | (go_at_call 44; refine (isSquare_b _ _ _ R _ true HS.out HA.out).mono ?_; rintro e w' ⟨rfl, rfl⟩))
          go_ret2
          exact ⟨by rw [HE.out]; rfl, Below.refl _ _⟩
        · by_cases q3 : c < 1
          · clear hh
            go_enter Try.func21, Try.ntmps21
            go_wp2_with (first | (go_at_call 44; refine (isSquare_b _ _ _ R _ true HS.out HA.out).mono ?_; rintro e w' ⟨rfl, rfl⟩))
            go_ret2
            exact ⟨by rw [HE.out]; rfl, Below.refl _ _⟩
          · by_cases q4 : 100 - k < c
            · clear hh
              go_enter Try.func21, Try.ntmps21
              go_wp2_with (first | (go_at_call 44; refine (isSquare_b _ _ _ R _ true HS.out HA.out).mono ?_; rintro e w' ⟨rfl, rfl⟩))
              go_ret2
              exact ⟨by rw [HE.out]; rfl, Below.refl _ _⟩
            · have hv : v2 = false := by
                rcases hh with h | h | h | h | h
                · exact absurd h q1
                · exact absurd h q2
                · exact absurd h q3
                · exact absurd h q4
                · exact h
              subst hv
              clear hh
              go_enter Try.func21, Try.ntmps21
              go_wp2_with (first | (go_at_call 44; refine (isSquare_b _ _ _ R _ true HS.out HA.out).mono ?_; rintro e w' ⟨rfl, rfl⟩) | (go_at_call 55; refine (HC.out _).mono ?_; rintro e w' ⟨rfl, rfl⟩))
              go_ret2
              exact ⟨by rw [HE.out]; rfl, Below.refl _ _⟩
  · have hs' : M.sqB R = false := by simpa using hs
    have HS := Lib.hid hs'
    have HE : Hid (M.isrRes R k c g = (false, 1)) := by show _ = _; unfold M.isrRes; rw [if_neg hs]
    clear h hs hs'
    go_enter Try.func21, Try.ntmps21
    go_wp2_with (go_at_call 44; refine (isSquare_b _ _ _ R _ false HS.out HA.out).mono ?_; rintro e w' ⟨rfl, rfl⟩)
    go_ret2
    exact ⟨by rw [HE.out]; rfl, Below.refl _ _⟩
end V
end Go.Proofs.Ytmcihaihbnnblab

namespace Go.Proofs.Ytmcihaihbnnblab.V
set_option maxRecDepth 100000
open Go.RowKit
set_option maxRecDepth 100000 in
set_option maxHeartbeats 1000000 in
theorem sIsRepeat (a : Option Addr) (n cap : Nat) (R : List (List Int)) (k c g : Int) (w : World) (h : Mat w a n R) : Calls Try.prog 20 #[.slice a n cap, .int .i64 k, .int .i64 c, .int .i64 g] w (BPost (M.isrRes R k c g) w) := by
  have HA := Lib.hid h
  obtain ⟨v2, hv2⟩ : ∃ b, b = M.isFin g := ⟨_, rfl⟩
  obtain ⟨b1, hb1⟩ : ∃ b, b = (decide ((0 : Int) ≤ k) && decide (k ≤ 100)) := ⟨_, rfl⟩
  obtain ⟨b2, hb2⟩ : ∃ b, b = (decide ((1 : Int) ≤ c) && decide (c ≤ 100 - k)) := ⟨_, rfl⟩
  have HC : Hid (∀ w, Calls Try.prog 51 #[.int .i64 g] w fun e w' => e = .returned (.bool v2) ∧ w = w') := fun w => by rw [hv2]; exact sFinite g w
  have HC1 : Hid (∀ w, Calls Try.prog 50 #[.int .i64 k, .int .i64 0, .int .i64 100] w fun e w' => e = .returned (.bool b1) ∧ w = w') := fun w => by rw [hb1]; exact sIn k 0 100 w
  have HC2 : Hid (∀ w, Calls Try.prog 50 #[.int .i64 c, .int .i64 1, .int .i64 (100 - k)] w fun e w' => e = .returned (.bool b2) ∧ w = w') := fun w => by rw [hb2]; exact sIn c 1 (100 - k) w
  by_cases hs : M.sqB R = true
  · have HS := Lib.hid hs
    have hRn : R.length = n := h.1
    obtain ⟨-, n1, n2, -⟩ := sq_parts7 h hs
    have hiff : (0 ≤ k ∧ k ≤ 100 ∧ 1 ≤ c ∧ c ≤ 100 - k ∧ M.isFin g = true) ↔ (b1 = true ∧ b2 = true ∧ v2 = true) := by
      rw [hb1, hb2, hv2]
      simp only [Bool.and_eq_true, decide_eq_true_eq]
      exact ⟨fun e => ⟨⟨e.1, e.2.1⟩, ⟨e.2.2.1, e.2.2.2.1⟩, e.2.2.2.2⟩, fun e => ⟨e.1.1, e.1.2, e.2.1.1, e.2.1.2, e.2.2⟩⟩
    by_cases hc : b1 = true ∧ b2 = true ∧ v2 = true
    · obtain ⟨k1, k2, c1, c2, hfin⟩ := hiff.2 hc
      obtain ⟨e1, e2, e3⟩ := hc
      subst e1 e2 e3
      obtain ⟨kn, rfl⟩ := Int.eq_ofNat_of_zero_le k1
      obtain ⟨cn, rfl⟩ := Int.eq_ofNat_of_zero_le (show 0 ≤ c by omega)
      obtain ⟨q, hq⟩ : ∃ q, q = kn + cn := ⟨_, rfl⟩
      have hqi : (kn : Int) + (cn : Int) = (q : Int) := by omega
      have HQ := Lib.hid hqi
      have HE : Hid (M.isrRes R kn cn g = if M.okAll R (M.unitM n) q then (decide (M.shvL (M.sq7 R (M.unitM n) kn).flatten g = (M.sq7 R (M.unitM n) q).flatten), 0) else (false, 3)) := by
        show _ = _
        unfold M.isrRes
        rw [if_pos hs, if_pos ⟨k1, k2, c1, c2, hfin⟩, hRn, hqi]
        rfl
      have HG : Hid (Wid g) := by
        unfold M.isFin at hfin
        simp at hfin
        exact Lib.hid ⟨by omega, by omega⟩
      have hq1 : q ≤ 100 := by omega
      have hkq : kn ≤ q := by omega
      clear h hs hRn hv2 hb1 hb2 hiff hqi hfin hq
      go_enter Try.func20, Try.ntmps20
      go_wp2_with fail
      refine (sSquare_b _ _ _ R _ true HS.out HA.out).mono ?_
      rintro e w' ⟨rfl, qd, rfl⟩
      go_wp2_with fail
      refine (HC1.out _).mono ?_
      rintro e w' ⟨rfl, rfl⟩
      go_wp2_with fail
      refine (HC2.out _).mono ?_
      rintro e w' ⟨rfl, rfl⟩
      go_wp2_with fail
      refine (HC.out _).mono ?_
      rintro e w' ⟨rfl, rfl⟩
      go_wp2_with fail
      refine (sUnit n _ (by omega)).mono ?_
      rintro e w2 ⟨bu, cu, rfl, ho, hb⟩
      have HO2 := Lib.hid ho
      have HB2 := Lib.hid ((below_drewN (Below.refl w.heap.size w) qd).trans hb)
      clear ho hb
      go_wp2_with fail
      refine (sStart7 w a n cap n R (M.unitM n) bu cu _ HB2.out HO2.out unit_rect n2 n1 n2).mono ?_
      rintro e w3 ⟨p, rfl, hs⟩
      have HS3 := Lib.hid (IsSerG.start hs)
      clear hs
      go_wp2_with fail
      rw [HQ.out]
      refine (sAt7G w a n cap n R (M.unitM n) p 0 q none _ (serB_unit HA.out HS.out) HS3.out (okTo_unit n1 n2) (by omega)).mono ?_
      rintro e4 w4 (⟨k3, hk3, -, -, hok3, hi3, ra, m, rc, rfl, hra, -⟩ | ⟨j, hj1, hj2, -, hbad, rfl, hbl⟩)
      · have hall : M.okAll R (M.unitM n) q = true := M.okAll_iff.2 fun j hj => hok3 j (by omega)
        have HEq : Hid (M.isrRes R kn cn g = (decide (M.shvL (M.sq7 R (M.unitM n) kn).flatten g = (M.sq7 R (M.unitM n) q).flatten), 0)) := Lib.hid (HE.out.trans (if_pos hall))
        have hSB := serB_unit HA.out HS.out
        have hln : (M.sq7 R (M.unitM n) kn).flatten.length = n * n := flat_rect (hSB.sq (hok3 kn (by omega))).1
        have hvl := M.flat_vals (hok3 kn (by omega))
        obtain ⟨hb0, hp, b5, c5, b6, c6, hrow, -, ho2, -⟩ := id hi3
        obtain ⟨g6, q6, rc6, rfl, hcr, hro, -, -⟩ := ho2.rowg kn (by omega) (by rw [M.sqL_get (show kn < k3 + 1 by omega), hln]; exact Nat.mul_pos n1 n1)
        rw [M.sqL_get (show kn < k3 + 1 by omega)] at hcr hro
        have s2 : w4.cell? ⟨p, 2, none⟩ = some (.slice (some ⟨g6, 0, none⟩) (k3 + 1) c6) := World.rowIs.cell hrow (i := 2) (by omega)
        have hke : (kn : Int) < (k3 : Int) + 1 := by omega
        obtain ⟨mm, hmm⟩ : ∃ mm, mm = (M.sq7 R (M.unitM n) kn).flatten.length := ⟨_, rfl⟩
        rw [← hmm] at hcr hro
        have HRo := Lib.hid hro
        have HRa := Lib.hid hra
        have HB4 := Lib.hid hb0
        have hm1 : mm ≤ 1000 := by have := Nat.mul_le_mul n2 n2; omega
        have HWl : Hid (∀ i, i < mm → Wid ((M.sq7 R (M.unitM n) kn).flatten.getD i 0)) := Lib.hid (fun i hi => wid_val (hvl i (by omega)))
        have HM := Lib.hid hmm
        clear hall hSB hln hvl hb0 hrow ho2 hro hra hmm hi3 hok3
        go_wp2_with fail
        refine (sShift7 _ mm rc6 (M.sq7 R (M.unitM n) kn).flatten g _ HRo.out.ints' hm1 HWl.out HG.out).mono ?_
        rintro e w5 ⟨b7, c7, rfl, ho, hb⟩
        have HO7 := Lib.hid ho
        have HB5 := Lib.hid hb
        clear ho hb
        go_wp2_with fail
        refine (sSame _ mm c7 (M.shvL (M.sq7 R (M.unitM n) kn).flatten g) _ m rc (M.sq7 R (M.unitM n) q).flatten _ HO7.out.ints' (HRa.out.below HB5.out)).mono ?_
        rintro e w6 ⟨b, rfl, hbb, q3, rfl⟩
        have HBb := Lib.hid hbb
        clear hbb
        go_wp2
        go_ret2
        exact ⟨by rw [HEq.out, HBb.out.out]; rfl, below_drewN (HB4.out.trans (HB5.out.mono HB4.out.size)) q3⟩
      · have hno : ¬ M.okAll R (M.unitM n) q = true := fun e => by
          have := M.okAll_iff.1 e j hj2
          rw [hbad] at this
          cases this
        have HEq : Hid (M.isrRes R kn cn g = (false, 3)) := Lib.hid (HE.out.trans (if_neg hno))
        have HB4 := Lib.hid hbl
        clear hbl hbad hno
        go_wp2
        go_ret2
        exact ⟨by rw [HEq.out]; rfl, HB4.out⟩
    · have HE : Hid (M.isrRes R k c g = (false, 2)) := by
        show _ = _
        unfold M.isrRes
        rw [if_pos hs, if_neg (fun e => hc (hiff.1 e))]
      have hk : b1 = true → 0 ≤ k ∧ k ≤ 100 := fun e => by rw [hb1] at e; simpa using e
      clear h hs hRn hv2 hb1 hb2 hiff
      cases b1 with
      | false =>
        clear hk
        go_enter Try.func20, Try.ntmps20
        go_wp2_with fail
        refine (sSquare_b _ _ _ R _ true HS.out HA.out).mono ?_
        rintro e w' ⟨rfl, qd, rfl⟩
        go_wp2_with fail
        refine (HC1.out _).mono ?_
        rintro e w' ⟨rfl, rfl⟩
        go_wp2
        go_ret2
        exact ⟨by rw [HE.out]; rfl, below_drewN (Below.refl _ _) qd⟩
      | true =>
        obtain ⟨k1, k2⟩ := hk rfl
        clear hk
        cases b2 with
        | false =>
          go_enter Try.func20, Try.ntmps20
          go_wp2_with fail
          refine (sSquare_b _ _ _ R _ true HS.out HA.out).mono ?_
          rintro e w' ⟨rfl, qd, rfl⟩
          go_wp2_with fail
          refine (HC1.out _).mono ?_
          rintro e w' ⟨rfl, rfl⟩
          go_wp2_with fail
          refine (HC2.out _).mono ?_
          rintro e w' ⟨rfl, rfl⟩
          go_wp2
          go_ret2
          exact ⟨by rw [HE.out]; rfl, below_drewN (Below.refl _ _) qd⟩
        | true =>
          have hv : v2 = false := by
            cases v2 with
            | false => rfl
            | true => exact absurd ⟨rfl, rfl, rfl⟩ hc
          subst hv
          clear hc
          go_enter Try.func20, Try.ntmps20
          go_wp2_with fail
          refine (sSquare_b _ _ _ R _ true HS.out HA.out).mono ?_
          rintro e w' ⟨rfl, qd, rfl⟩
          go_wp2_with fail
          refine (HC1.out _).mono ?_
          rintro e w' ⟨rfl, rfl⟩
          go_wp2_with fail
          refine (HC2.out _).mono ?_
          rintro e w' ⟨rfl, rfl⟩
          go_wp2_with fail
          refine (HC.out _).mono ?_
          rintro e w' ⟨rfl, rfl⟩
          go_wp2
          go_ret2
          exact ⟨by rw [HE.out]; rfl, below_drewN (Below.refl _ _) qd⟩
  · have hs' : M.sqB R = false := by simpa using hs
    have HS := Lib.hid hs'
    have HE : Hid (M.isrRes R k c g = (false, 1)) := by show _ = _; unfold M.isrRes; rw [if_neg hs]
    clear h hs hs'
    go_enter Try.func20, Try.ntmps20
    go_wp2_with (go_at_call 40; refine (sSquare_b _ _ _ R _ false HS.out HA.out).mono ?_; rintro e w' ⟨rfl, qd, rfl⟩)
    go_ret2
    exact ⟨by rw [HE.out]; rfl, below_drewN (Below.refl _ _) qd⟩
end Go.Proofs.Ytmcihaihbnnblab.V
